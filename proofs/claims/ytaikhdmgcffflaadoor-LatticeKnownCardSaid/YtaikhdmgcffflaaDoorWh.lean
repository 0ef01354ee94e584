/- Walks of Covers and Line: a loop whose rounds range over a function. -/
import Derived.Test.YtaikhdmgcffflaaDoorWl
import Derived.Test.YtaikhdmgcffflaaDoorWm
import Derived.Test.YtaikhdmgcffflaaDoorPf
import Derived.Sort.LoopGhostIn
import Derived.Sort.CutIn
import Derived.Deep.RegionHeld3
import Derived.Outline
namespace Go.Proofs.YtaikhdmgcffflaaDoor
open Go Go.RowKit Go.Shelf
attribute [local go_sem] Oper.semAt_some

/-- The marks that loops over range functions leave: each a block for deferred calls, of which there are none. -/
def mk (D : Nat) : Deferred := { target := .collected D, args := #[] }
structure Marks (W : World) (B : Nat) (Ds : List Nat) : Prop where
  nodup : Ds.Nodup
  here : ∀ D ∈ Ds, B ≤ D ∧ W.heap[D]? = some (.deferred (some []))
theorem wpIn_norm {F : Fence} {n : Nat} {P : Program} {c : Code} {K : Act → World → Prop} {Q : Exit → Act → World → Prop} {a : Act} {w : World} (h : c.wpIn F n P (Norm K) a w) : c.wpIn F n P (Exit.then K Q) a w :=
  wpIn_mono h fun e _ _ h => by cases e <;> first | exact h | exact h.elim
theorem Marks.nil (W : World) (B : Nat) : Marks W B [] := ⟨by simp, by simp⟩
theorem Marks.lt {W : World} {B : Nat} {Ds : List Nat} (h : Marks W B Ds) : ∀ D ∈ Ds, D < W.heap.size := fun D hD => (Array.getElem?_eq_some_iff.1 (h.here D hD).2).1
theorem Marks.below {W W' : World} {B : Nat} {Ds : List Nat} (h : Marks W B Ds) (hb : Below W.heap.size W W') : Marks W' B Ds :=
  ⟨h.nodup, fun D hD => ⟨(h.here D hD).1, (hb.block D (h.lt D hD)).trans (h.here D hD).2⟩⟩
theorem Marks.kept {W W' : World} {B : Nat} {Ds : List Nat} (h : Marks W B Ds) {row : Option Nat} (hg : W.grownBy W' row) (hr : ∀ r, row = some r → r ∉ Ds) : Marks W' B Ds :=
  ⟨h.nodup, fun D hD => ⟨(h.here D hD).1, (hg.block D (h.lt D hD) (fun e => hr D e.symm hD)).trans (h.here D hD).2⟩⟩
theorem Marks.cons {W : World} {B : Nat} {Ds : List Nat} (h : Marks W B Ds) {D : Nat} (hB : B ≤ D) (hD : W.heap[D]? = some (.deferred (some []))) (hn : D ∉ Ds) : Marks W B (D :: Ds) :=
  ⟨List.nodup_cons.2 ⟨hn, h.nodup⟩, fun E hE => by
    rcases List.mem_cons.1 hE with rfl | hE
    · exact ⟨hB, hD⟩
    · exact h.here E hE⟩
theorem leaves_marks {F : Fence} {n : Nat} {P : Program} {fn : Func} {tmps : Array Value} {R : Ending → World → Prop} (Φ : World → Prop) {B : Nat}
    (hΦ : ∀ W D, B ≤ D → W.heap[D]? = some (.deferred (some [])) → Φ W → Φ (W.putObj D (.deferred none)))
    (hend : ∀ W, Φ W → ∃ v, (results fn tmps).run P W = .ok v W ∧ R (.returned v) W) : ∀ (Ds : List Nat) (W : World), Marks W B Ds → Φ W → LeavesInM F n P fn tmps R (Ds.map mk) .returning W
  | [], W, _, h => hend W h
  | D :: Ds, W, hm, h => by
    obtain ⟨hB, hD⟩ := hm.here D (by simp)
    obtain ⟨hn, hnd⟩ := List.nodup_cons.1 hm.nodup
    refine ⟨by simp, .inl ⟨D, _, rfl, run_takeDeferred hD, ?_⟩⟩
    refine leaves_marks Φ hΦ hend Ds _ ⟨hnd, fun E hE => ?_⟩ (hΦ W D hB hD h)
    obtain ⟨h1, h2⟩ := hm.here E (List.mem_cons_of_mem _ hE)
    exact ⟨h1, (World.putObj_heap_other (by rintro rfl; exact hn hE)).trans h2⟩


theorem Marks.others {W W' : World} {B : Nat} {Ds : List Nat} (h : Marks W B Ds) (k : KeepsOthers W W') : Marks W' B Ds :=
  ⟨h.nodup, fun D hD => ⟨(h.here D hD).1, k.same D _ (h.here D hD).2 rfl⟩⟩
theorem ownFrom_marks {β : Type} {B B' : Nat} {Ds : List Nat} (hD : ∀ D ∈ Ds, D < B') : OwnFrom B' (fun (_ : β) W => Marks W B Ds) :=
  fun _ _ _ _ hs hg hr => hs.kept hg (fun r e hm => by have := hD r hm; have := (hr r e).1; omega)
theorem andNot_pw {a x : Nat} (ha : a < 65536) (hx : x < 16) : bits BinOp.andNot IntKind.u16 (a : Int) (pw x : Nat) = ((rm a x : Nat) : Int) := by
  rw [u16_andNot_nat a _ ha (pw_lt hx), pw, andNot_rm ha hx]

theorem int_beq (a b : Nat) : ((a : Int) == (b : Int)) = (a == b) := by rw [Bool.eq_iff_iff]; simp; omega
/-- What stands in Covers, in whatever round: the order's box, the row's box, the row, the marks. -/
structure CSt (w : World) (b : Nat) (Ds : List Nat) (v : Value) (L : List (Nat × Nat)) (W : World) : Prop where
  marks : Marks W w.heap.size Ds
  box : Boxed W w.heap.size 78 (.pointer (some ⟨b, 0, none⟩))
  boxp : Boxed W (w.heap.size + 1) 23 v
  row : W.ownsRow w.heap.size 41 2 v L.length (pv L)
  bel : Below w.heap.size w W
theorem CSt.below {w W W' : World} {b : Nat} {Ds : List Nat} {v : Value} {L : List (Nat × Nat)} (h : CSt w b Ds v L W) (hb : Below W.heap.size W W') : CSt w b Ds v L W' :=
  ⟨h.marks.below hb, h.box.kept (grownBy_below hb none) (by simp), h.boxp.kept (grownBy_below hb none) (by simp), h.row.kept (grownBy_below hb none) (Classical.em _), h.bel.trans (hb.mono h.bel.size)⟩
theorem CSt.ownFrom {β : Type} {w : World} {b : Nat} {Ds : List Nat} {B : Nat} (hB : w.heap.size ≤ B) (hD : ∀ D ∈ Ds, D < B) (f : β → List (Nat × Nat)) : OwnFrom B (fun s W => ∃ v, CSt w b Ds v (f s) W) := by
  intro s X Y row ⟨v, hs⟩ hg hr
  have hc : ∀ {B' : Nat} {t : TypeId} {u : Value}, Boxed X B' t u → some B' ≠ row := by
    rintro B' t u hx rfl
    obtain ⟨_, o, ho, hn⟩ := hr B' rfl
    rw [show X.heap[B']? = _ from hx] at ho
    cases ho
    cases hn
  refine ⟨v, ownFrom_marks hD s X Y row hs.marks hg hr, hs.box.kept hg (hc hs.box), hs.boxp.kept hg (hc hs.boxp), ?_, ownFrom_below (Nat.le_refl _) hB s X Y row hs.bel hg hr⟩
  refine hs.row.kept hg ?_
  rcases row with _ | r
  · exact Classical.em _
  · refine .inr fun e => ?_
    obtain ⟨_, o, ho, hn⟩ := hr r rfl
    rcases hs.row.2 with ⟨rfl, _⟩ | ⟨gg, cap, cur, rfl, _, hh, _⟩
    · simp [Value.ownBlock] at e
    · obtain rfl : gg = r := by simpa [Value.ownBlock] using e
      rw [hh] at ho
      cases ho
      cases hn
/-- One pair more. -/
theorem CSt.append {w W w1 : World} {b : Nat} {Ds : List Nat} {v v' : Value} {L : List (Nat × Nat)} {x : Nat × Nat} {tmp : Obj} (h : CSt w b Ds v L W)
    (hown : w1.ownsRow w.heap.size 41 2 v' (L.length + 1) (pv L ++ [.int .i64 (x.1 : Nat), .int .i64 (x.2 : Nat)])) (hgrow : (W.alloc tmp).grownBy w1 v.ownBlock) :
    Boxed w1 (w.heap.size + 1) 23 v ∧ CSt w b Ds v' (L ++ [x]) (w1.setCell ⟨w.heap.size + 1, 0, none⟩ v') ∧ KeepsOthers W (w1.setCell ⟨w.heap.size + 1, 0, none⟩ v') ∧ Below w.heap.size W (w1.setCell ⟨w.heap.size + 1, 0, none⟩ v') := by
  obtain ⟨h1, h2, h3, h4, h5⟩ := h.boxp.appended (by decide) h.row h.bel.size (by omega) hown hgrow
  refine ⟨h1, ⟨h.marks.others h4, ((h.box.alloc tmp).kept hgrow (h.box.not_row (by decide) h.row)).other (by omega) v', h2, ?_, h.bel.trans h5⟩, h4, h5⟩
  rw [pv_snoc, List.length_append]
  exact h3
theorem CSt.box_append {w W w1 : World} {b : Nat} {Ds : List Nat} {v v' : Value} {L : List (Nat × Nat)} {tmp : Obj} (h : CSt w b Ds v L W) (hgrow : (W.alloc tmp).grownBy w1 v.ownBlock)
    {B : Nat} {t : TypeId} {u : Value} (hx : Boxed W B t u) (ht : t ≠ 41) (hB : B ≠ w.heap.size + 1) : Boxed (w1.setCell ⟨w.heap.size + 1, 0, none⟩ v') B t u :=
  ((hx.alloc tmp).kept hgrow (hx.not_row ht h.row)).other hB v'

end Go.Proofs.YtaikhdmgcffflaaDoor
