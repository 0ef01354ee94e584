/- works: the chapter's examples hold. -/
import Derived.Test.YthniggdimfldhaaGreatDoorHq
import Derived.Deep.DeepCutAuto
namespace Go.Proofs.YthniggdimfldhaaGreatDoor
open Go Go.RowKit

theorem sm3 : Sm [([65], [49]), ([98], [50]), ([97], [51])] := ⟨by decide, by intro h hh; simp at hh; rcases hh with rfl | rfl | rfl <;> decide⟩

abbrev L3 : List Hd := [([65], [49]), ([98], [50]), ([97], [51])]
theorem hs_made (w : World) (xs : List Hd) (n : Nat) (hn : n = xs.length) (cs : Array Value) (hc : cs = (hv xs).toArray) : Hs (w.alloc (.cells cs 41)) (.slice (some ⟨w.heap.size, 0, none⟩) n n) xs := by
  subst hn hc
  exact ⟨_, _, rfl, Nat.le_refl _, fun e => (by cases e), Rd.made w (hv xs) _⟩
theorem hs_alloc {W : World} {v : Value} {l : List Hd} (h : Hid (Hs W v l)) (o : Obj) : Hid (Hs (W.alloc o) v l) := Lib.hid (h.out.below (below_new W o))
theorem same_two (u v : Value) (L : List Hd) (W : World) (h : Hid (Hs W u L)) (k : Hid (Hs W v L)) (hl : L.length ≤ 1000) : Calls Tryz.prog 39 #[u, v] W fun e w' => e = .returned (.bool true) ∧ Below W.heap.size W w' :=
  (same_anyH u v L L W h.out k.out hl hl).mono fun _ _ ⟨h1, h2⟩ => ⟨by rw [h1, decide_eq_true rfl], h2⟩
theorem get_w : fstV (getL L3 [65]) = [49] ∧ (getL L3 [65]).length = 2 := by decide
theorem set_w : setE L3 [97] [52] = 0 ∧ setL L3 [97] [52] = [([98], [50]), ([97], [52])] := by decide
theorem drop_w : dropL L3 [66] = [([65], [49]), ([97], [51])] := by decide
theorem strip_w : stripL L3 [65] = [([98], [50])] := by decide
theorem bytes_w : chkE [([65], [49]), ([98], [])] = 0 ∧ byR [([65], [49]), ([98], [])] = [65, 58, 32, 49, 13, 10, 98, 58, 32, 13, 10] := by decide
theorem two_sm : Sm [([65], [49]), ([98], [])] := ⟨by decide, by intro h hh; simp at hh; rcases hh with rfl | rfl <;> decide⟩

theorem same_arm (W : World) (v : Value) (L xs : List Hd) (h : Hid (Hs W v L)) (hl : L.length ≤ 1000) (hx : xs.length ≤ 1000) (n : Nat) (hn : n = xs.length) (cs : Array Value) (hc : cs = (hv xs).toArray) (z : Bool) (hz : decide (L = xs) = z) :
    Calls Tryz.prog 39 #[v, .slice (some ⟨W.heap.size, 0, none⟩) n n] (W.alloc (.cells cs 41)) fun e w' => e = .returned (.bool z) ∧ Below W.heap.size W w' :=
  (same_anyH v _ L xs _ (h.out.below (below_new _ _)) (hs_made W xs n hn cs hc) hl hx).mono fun _ _ ⟨h1, h2⟩ => ⟨by rw [h1, hz], Below.and (below_new _ _) h2⟩
theorem Hs.drew {w : World} {v : Value} {l : List Hd} (h : Hs w v l) : Hs w.drew v l := h
theorem l3_cells {W : World} {g : Nat} (h : Hs W (.slice (some ⟨g, 0, none⟩) 3 3) L3) : W.cell? ⟨g, 0, none⟩ = some (.string ⟨#[65]⟩) ∧ W.cell? ⟨g, 1, none⟩ = some (.string ⟨#[49]⟩) ∧ W.cell? ⟨g, 2, none⟩ = some (.string ⟨#[98]⟩) ∧
    W.cell? ⟨g, 3, none⟩ = some (.string ⟨#[50]⟩) ∧ W.cell? ⟨g, 4, none⟩ = some (.string ⟨#[97]⟩) ∧ W.cell? ⟨g, 5, none⟩ = some (.string ⟨#[51]⟩) := by
  obtain ⟨A, c, e, _, _, hr⟩ := h
  injection e with e1 _ _
  subst e1
  have f : ∀ i (hi : i < (hv L3).length), W.cell? ⟨g, i, none⟩ = some (hv L3)[i] := fun i hi => by
    obtain ⟨b, off, e, _, hc⟩ := hr i hi
    injection e with e
    injection e with e1 e2
    subst e1 e2
    simpa using hc
  exact ⟨f 0 (by decide), f 1 (by decide), f 2 (by decide), f 3 (by decide), f 4 (by decide), f 5 (by decide)⟩

end Go.Proofs.YthniggdimfldhaaGreatDoor
