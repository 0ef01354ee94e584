/- The chapter's examples (works): true in every world that holds the library's table. -/
import Derived.Test.YtaikhdmgcffflaaDoorWn
namespace Go.Proofs.YtaikhdmgcffflaaDoor
open Go Go.RowKit Go.Shelf

/-- An order that was made since w: block b, and all that lay in w as it was. -/
structure OSt (w : World) (b n : Nat) (A : Nat → Nat) (W : World) : Prop where
  tab : Tab W
  ord : IsOrd W b n A
  bel : Below w.heap.size w W
  ge : w.heap.size ≤ b
theorem OSt.below {w W W' : World} {b n : Nat} {A : Nat → Nat} (h : OSt w b n A W) (hb : Below W.heap.size W W') : OSt w b n A W' :=
  ⟨h.tab.below hb h.tab.lt, h.ord.below hb h.ord.lt, h.bel.trans (hb.mono h.bel.size), h.ge⟩
theorem OSt.new {w : World} (n : Nat) (hT : Tab w) : OSt w w.heap.size n (fun _ => 0) (w.alloc (.cells (ocells n fun _ => 0) 113)) :=
  ⟨hT.below (below_new w _) hT.lt, World.alloc_heap_new w _, below_new w _, Nat.le_refl _⟩
theorem OSt.pos {w W : World} {b n : Nat} {A : Nat → Nat} (h : OSt w b n A W) (hT : Tab w) : 0 < b := by have := hT.lt; have := h.ge; omega
theorem tab_grown {W W' : World} {b : Nat} (h : Tab W) (hg : W.grownBy W' (some b)) (hb : 0 < b) : Tab W' :=
  h.below (B := 1) (below_one hg h.lt (by omega)) (by omega)
theorem OSt.add {w W W' : World} {b n : Nat} {A : Nat → Nat} {l h' : Nat} {e : Ending} (h : OSt w b n A W) (hT : Tab w) (ha : AddPost b n A l h' W e W') : OSt w b n (upd A h' l) W' :=
  ⟨tab_grown h.tab ha.2.1 (h.pos hT), ha.2.2, h.bel.grown ha.2.1 h.bel.size (fun k e => by cases e; exact h.ge), h.ge⟩

theorem Rd.made (w : World) (vs : List Value) (t : TypeId) : Rd (w.alloc (.cells vs.toArray t)) (some ⟨w.heap.size, 0, none⟩) vs := fun i hi =>
  ⟨w.heap.size, 0, rfl, by simp, by rw [World.cell?_alloc_at _ _ _ _ rfl]; simp [hi]⟩
def W1 : Nat → Nat := upd (fun _ => 0) 1 0
def W2 : Nat → Nat := upd W1 2 1
def W3 : Nat → Nat := upd W2 2 0
def W4 : Nat → Nat := upd W3 0 3
theorem w1_took : Took 4 [(0, 1)] := Took.snoc_of .nil (by decide) (by decide) (by decide +kernel)
theorem w2_took : Took 4 [(0, 1), (1, 2)] := Took.snoc_of w1_took (by decide) (by decide) (by decide +kernel)
theorem w3_took : Took 4 [(0, 1), (1, 2), (0, 2)] := Took.snoc_of w2_took (by decide) (by decide) (by decide +kernel)
theorem w4_took : Took 4 [(0, 1), (1, 2), (0, 2), (3, 0)] := Took.snoc_of w3_took (by decide) (by decide) (by decide +kernel)
theorem up_is : upL 4 W2 1 = [1, 2] := by decide +kernel
theorem dn_is : dnL 4 W2 2 = [0, 1, 2] := by decide +kernel
theorem cov2_is : (covL 4 W2).map up2 = [(0, 1), (1, 2)] := by decide +kernel
theorem cov3_is : (covL 4 W3).map up2 = [(0, 1), (1, 2)] := by decide +kernel
theorem line2_is : lineL 4 W2 = [0, 1, 2, 3] := by decide +kernel
theorem line4_is : lineL 4 W4 = [3, 0, 1, 2] := by decide +kernel
end Go.Proofs.YtaikhdmgcffflaaDoor
