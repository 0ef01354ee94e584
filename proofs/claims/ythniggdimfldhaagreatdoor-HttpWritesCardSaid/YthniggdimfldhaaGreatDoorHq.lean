/- Helpers of the laws: line, wrong, short. -/
import Derived.Test.YthniggdimfldhaaGreatDoorHo
namespace Go.Proofs.YthniggdimfldhaaGreatDoor
open Go Go.RowKit

theorem line_anyL (s : List UInt8) (w : World) (hs : s.length ≤ 1000) : Calls Tryz.prog 95 #[.string ⟨s.toArray⟩] w fun e w' => e = .returned (lineV (lineP s)) ∧ Below w.heap.size w w' :=
  (line_any ⟨s.toArray⟩ w (by rw [mk_size]; exact hs)).mono fun _ _ ⟨h1, h2⟩ => ⟨by rw [h1, mk_toList], h2⟩
end Go.Proofs.YthniggdimfldhaaGreatDoor
