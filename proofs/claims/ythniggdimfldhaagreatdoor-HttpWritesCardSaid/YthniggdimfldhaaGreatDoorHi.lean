/- The chapter's Line. -/
import Derived.Test.YthniggdimfldhaaGreatDoorHf
import Derived.Deep.MidRow
import Derived.Laws.ResultCell
namespace Go.Proofs.YthniggdimfldhaaGreatDoor
open Go Go.RowKit

theorem load_head (w : World) (b o : Nat) (p q : ByteArray) (h1 : w.cell? ⟨b, o, none⟩ = some (.string p)) (h2 : w.cell? ⟨b, o + 1, none⟩ = some (.string q)) :
    (loadVar 41 ⟨b, o, none⟩).run Tryz.prog w = .ok (.agg #[.string p, .string q]) w := by
  have hr : w.rangeAt b o [.string p, .string q] := fun j v hv => by
    match j, hv with
    | 0, hv => simp at hv; subst hv; exact h1
    | 1, hv => simp at hv; subst hv; exact h2
    | j + 2, hv => simp at hv
  exact run_loadVar_mid w b o 41 _ _ hr underH rfl (by kernel_rfl)
theorem results_line {fn : Func} {p u : Tmp} (h : fn.results = #[.cell p 41, .tmp u]) (tmps : Array Value) (w : World) (g : Nat) (x y : ByteArray) (hp : tmps.getD p undef = .pointer (some ⟨g, 0, none⟩))
    (h1 : w.cell? ⟨g, 0, none⟩ = some (.string x)) (h2 : w.cell? ⟨g, 1, none⟩ = some (.string y)) :
    (results fn tmps).run Tryz.prog w = .ok (.tuple #[.agg #[.string x, .string y], tmps.getD u undef]) w := by
  rw [results_cell_tmp h, hp]
  simp [asAddr, Result.andThen, load_head w g 0 x y h1 h2]

theorem set_head (w : World) (g : Nat) (p q x y : Value) (a1 : w.cell? ⟨g, 0, none⟩ = some x) (a2 : w.cell? ⟨g, 1, none⟩ = some y) :
    ((w.setCell ⟨g, 0, none⟩ p).setCell ⟨g, 1, none⟩ q).cell? ⟨g, 0, none⟩ = some p ∧ ((w.setCell ⟨g, 0, none⟩ p).setCell ⟨g, 1, none⟩ q).cell? ⟨g, 1, none⟩ = some q := by
  have h1 : (w.setCell ⟨g, 0, none⟩ p).cell? ⟨g, 0, none⟩ = some p := World.cell?_setCell_same _ _ _ a1
  have h2 : (w.setCell ⟨g, 0, none⟩ p).cell? ⟨g, 1, none⟩ = some y := (World.cell?_setCell_other _ _ _ _ (by simp)).trans a2
  exact ⟨(World.cell?_setCell_other _ _ _ _ (by simp)).trans h1, World.cell?_setCell_same _ _ _ h2⟩
theorem set_head_below {B : Nat} {w w1 : World} (hb : Below B w w1) {g : Nat} (hB : B ≤ g) (p q : Value) : Below B w ((w1.setCell ⟨g, 0, none⟩ p).setCell ⟨g, 1, none⟩ q) :=
  (hb.setCell (p := ⟨g, 0, none⟩) hB p).setCell (p := ⟨g, 1, none⟩) hB q
theorem extract_mid (s : ByteArray) (f t : Nat) : (s.extract f t).data.toList = (s.data.toList.take t).drop f := by
  rw [ByteArray.data_extract, Array.toList_extract]
  simp [List.extract, List.drop_take]
theorem trimAt {s : ByteArray} {m f t : Nat} (h1 : m ≤ f) (h2 : f ≤ t) (h3 : t ≤ s.size) (hl : ∀ j (_ : j < s.size), m ≤ j → j < f → blB s[j] = true) (hl' : ∀ _ : f < s.size, blB (s[f]'‹_›) = false)
    (hr : ∀ j (_ : j < s.size), t ≤ j → blB s[j] = true) (hr' : ∀ (_ : f < t), blB (s[t - 1]'(by omega)) = false) : Lib.trimS (s.data.toList.drop m) bl = (s.extract f t).data.toList := by
  have hz := Lib.size_eq s
  rw [extract_mid]
  refine trim_at h1 h2 (by omega) (fun j hj => ?_) (fun hj => ?_) (fun j hj => ?_) (fun hj => ?_)
  · rw [at_list s j (by omega)]; exact hl j (by omega)
  · rw [at_list s f (by omega)]; exact hl' (by omega)
  · rw [at_list s j (by omega)]; exact hr j (by omega)
  · rw [at_list s (t - 1) (by omega)]; exact hr' hj
theorem mk_data (s : ByteArray) : (⟨s.data.toList.toArray⟩ : ByteArray) = s := by simp
def lineV : Option Hd → Value
  | none => .tuple #[.agg #[.string ⟨#[]⟩, .string ⟨#[]⟩], .int .i64 40]
  | some h => .tuple #[.agg #[.string ⟨h.1.toArray⟩, .string ⟨h.2.toArray⟩], .int .i64 0]
theorem lineV_some (N V : ByteArray) : lineV (some (N.data.toList, V.data.toList)) = .tuple #[.agg #[.string N, .string V], .int .i64 0] := by
  show Value.tuple #[.agg #[.string ⟨N.data.toList.toArray⟩, .string ⟨V.data.toList.toArray⟩], .int .i64 0] = _
  rw [mk_data, mk_data]
theorem lineP_long {l : List UInt8} (h : 300 < l.length) : lineP l = none := by unfold lineP; rw [if_pos h]
theorem lineP_no {l : List UInt8} (h : 58 ∉ l) : lineP l = none := by unfold lineP; rw [if_neg h]; simp
theorem lineP_bad {l : List UInt8} (h : okH (head58 l, Lib.trimS (tail58 l) bl) = false) : lineP l = none := by unfold lineP; rw [h]; simp
theorem lineP_good {l : List UInt8} (h0 : ¬ 300 < l.length) (h1 : 58 ∈ l) (h : okH (head58 l, Lib.trimS (tail58 l) bl) = true) : lineP l = some (head58 l, Lib.trimS (tail58 l) bl) := by unfold lineP; rw [if_neg h0, if_pos h1, if_pos h]
theorem alloc_head (w : World) (p q : Value) : (w.alloc (.cells #[p, q] 41)).cell? ⟨w.heap.size, 0, none⟩ = some p ∧ (w.alloc (.cells #[p, q] 41)).cell? ⟨w.heap.size, 1, none⟩ = some q := by
  constructor <;> rw [World.cell?_alloc_at _ _ _ _ rfl] <;> rfl
theorem alloc_free (w : World) (cs : Array Value) (t : TypeId) (j : Nat) : (w.alloc (.cells cs t)).frozen? ⟨w.heap.size, j, none⟩ = false := by simp

end Go.Proofs.YthniggdimfldhaaGreatDoor
