/- strings.Builder, in a block of the call's own: copyCheck, WriteString, Len, String. -/
import Derived.Test.YtajkbkllgbalkaaUq
import Derived.Lib.Builder
import Derived.Laws.Externs
namespace Go.Proofs.Ytajkbkllgbalkaa
open Go Go.RowKit

/-- a builder: its bytes lie in blocks from 'base' on -/
structure Bld (w : World) (b base : Nat) (l : Bs) : Prop where
  lt : b < base
  le : base ≤ w.heap.size
  at_ : ∃ p v, Box w b 89 #[p, v] ∧ OwnB w base v l ∧ (p = .pointer none ∨ p = .pointer (some ⟨b, 0, none⟩))
theorem OwnB.up {w : World} {base base' : Nat} {v : Value} {l : Bs} (h : OwnB w base v l) (hb : base' ≤ base) : OwnB w base' v l := by
  refine ⟨h.1, ?_⟩
  rcases h.2 with h0 | ⟨g, cap, cur, h1, h2, h3⟩
  · exact .inl h0
  · exact .inr ⟨g, cap, cur, h1, Nat.le_trans hb h2, h3⟩
theorem OwnB.notBox {w : World} {base b : Nat} {v : Value} {l : Bs} (h : OwnB w base v l) (hb : b < base) : v.ownBlock ≠ some b := by
  cases hv : v.ownBlock with
  | none => simp
  | some j => have := (World.ownsRow.lt h j hv).1; simp; omega
theorem OwnB.setCell {w : World} {base g k : Nat} {v x : Value} {l : Bs} (h : OwnB w base v l) (hg : g < base) : OwnB (w.setCell ⟨g, k, none⟩ x) base v l :=
  World.ownsRow.kept (row := some g) h ⟨rfl, rfl, rfl, by simp [World.setCell], fun k _ hne => Below.heap_setCell _ _ _ _ fun e => hne (by rw [e])⟩ (.inr (h.notBox hg))
theorem OwnB.slice {w : World} {base : Nat} {v : Value} {l : Bs} (h : OwnB w base v l) : ∃ A c, v = .slice A l.length c := by
  rcases h.2 with ⟨rfl, h0⟩ | ⟨g, cap, cur, rfl, _⟩
  · exact ⟨_, 0, by rw [h0]⟩
  · exact ⟨_, _, rfl⟩
theorem Bld.is {w : World} {b base : Nat} {l : Bs} (h : Bld w b base l) : Lib.IsBuilder 89 5 b b (Lib.byteCells l) w := by
  obtain ⟨p, v, hb, ho, hp⟩ := h.at_
  have hl := h.lt
  have hat : Lib.BuilderAt 89 5 b b p (Lib.byteCells l) w := ⟨Nat.le_refl _, v, hb, by have := ho.up (Nat.le_of_lt hl); rw [Lib.byteCells_length]; exact this, ho.notBox hl⟩
  rcases hp with rfl | rfl
  · exact .inl hat
  · exact .inr hat
theorem Bld.kp {w w' : World} {b base : Nat} {l : Bs} (h : Bld w b base l) (hb : Below w.heap.size w w') : Bld w' b base l := by
  obtain ⟨p, v, h1, h2, h3⟩ := h.at_
  exact ⟨h.lt, Nat.le_trans h.le hb.size, p, v, h1.below hb, h2.below hb, h3⟩
set_option maxRecDepth 100000 in
set_option maxHeartbeats 1000000 in
theorem copyCheck_prog {w : World} {b base : Nat} {l : Bs} (h : Bld w b base l) :
    Calls Try.prog 80 #[.pointer (some ⟨b, 0, none⟩)] w fun e w' => e = .returned (.tuple #[]) ∧ (∃ v, Box w' b 89 #[.pointer (some ⟨b, 0, none⟩), v] ∧ OwnB w' base v l) ∧ Kp b base w w' := by
  obtain ⟨p, v, hb, ho, hp⟩ := h.at_
  have hlt := h.lt
  obtain ⟨j, hj, hjs⟩ : ∃ j, Try.prog.info? 89 = some j ∧ j.size = 2 := by
    have : (Try.prog.info? 89).map (·.size) = some 2 := by kernel_rfl
    obtain ⟨j, h1, h2⟩ := Option.map_eq_some_iff.1 this
    exact ⟨j, h1, h2⟩
  rcases hp with rfl | rfl
  · have c0 : w.cell? ⟨b, 0, none⟩ = some (.pointer none) := hb.cell 0
    have f0 := hb.frozen 0
    have hsh : w.shape? b = some (89, 2) := by
      unfold World.shape?
      rw [show w.heap[b]? = _ from hb]
      rfl
    have H1 : Hid (Box (w.setCell ⟨b, 0, none⟩ (.pointer (some ⟨b, 0, none⟩))) b 89 #[.pointer (some ⟨b, 0, none⟩), v]) := Lib.hid (hb.set 0 _)
    have H2 := Lib.hid (ho.setCell (k := 0) (x := .pointer (some ⟨b, 0, none⟩)) hlt)
    clear hb ho h
    go_enter Try.func80, Try.ntmps80
    go_wp2
    rw [Lib.run_to_unsafe w ⟨b, 0, none⟩ Try.underlying87 Try.underlying107 hj (by rw [hjs]; decide) hsh (Nat.zero_lt_succ 1)]
    simp only [Result.andThen]
    rw [Oper.upon_value]
    go_wp2
    rw [run_callFunc_extern Try.func84 (by kernel_rfl) (by kernel_rfl) (by kernel_rfl) (e := Extern.AbiNoEscape.same) (by kernel_rfl)]
    rw [Lib.run_noEscape]
    simp only [Result.andThen]
    rw [Oper.upon_value]
    go_wp2
    rw [Lib.run_from_unsafe w ⟨b, 0, none⟩ Try.underlying107 Try.underlying87 hj hsh (by kernel_rfl)]
    simp only [Result.andThen]
    rw [Oper.upon_value]
    go_wp2
    go_end0
    exact ⟨rfl, ⟨v, H1.out, H2.out⟩, kp_set _ _ _⟩
  · have c0 : w.cell? ⟨b, 0, none⟩ = some (.pointer (some ⟨b, 0, none⟩)) := hb.cell 0
    have H1 := Lib.hid hb
    have H2 := Lib.hid ho
    clear hb ho h
    go_enter Try.func80, Try.ntmps80
    go_wp2
    rw [Lib.run_neq_ptr_same w _ Try.underlying87 hj]
    go_wp2
    go_end0
    exact ⟨rfl, ⟨v, H1.out, H2.out⟩, Kp.refl _ _ _⟩
set_option maxRecDepth 100000 in
theorem wstr_prog {w : World} {b base : Nat} {l : Bs} (h : Bld w b base l) (s : Bs) (hl : l.length + s.length ≤ 1000000000) :
    Calls Try.prog 64 #[.pointer (some ⟨b, 0, none⟩), .string ⟨s.toArray⟩] w fun e w' => (∃ v, e = .returned v) ∧ Bld w' b base (l ++ s) ∧ Kp b base w w' := by
  have CC := Lib.hid (copyCheck_prog h)
  have hlt := h.lt
  have hle := h.le
  clear h
  go_enter Try.func64, Try.ntmps64
  go_wp2_with (first
    | (go_at_call 80; refine CC.out.mono ?_; rintro E w1 ⟨rfl, ⟨v, hb1, ho1⟩, hk1⟩; have X1 := Lib.hid hb1; have O1 := Lib.hid ho1; have K1 := Lib.hid hk1; have d1 : w1.cell? ⟨b, 1, none⟩ = some v := hb1.cell 1; have f1 := hb1.frozen 1; have hs1 := hk1.size; clear hb1 ho1 hk1)
    | (at_builtin; refine wpList_pushs rfl (.tmp 12) (.tmp 13) rfl w1 base _ l ⟨s.toArray⟩ rfl O1.out rfl (by omega) (by rw [mk_size]; exact hl) ?_; intro v2 w2 ho2 hb2; obtain ⟨A2, c2, rfl⟩ := ho2.slice; have O2 := Lib.hid ho2; have B2 := Lib.hid hb2; have X2 := Lib.hid (show Box w2 b _ _ from (hb2.block b hlt).trans X1.out); have f2 := X2.out.frozen 1; have hs2 := hb2.size; have d2 : w2.cell? ⟨b, 1, none⟩ = some v := X2.out.cell 1; clear ho2 hb2))
  go_ret2
  have e : Value.slice A2 (l.length + s.length) c2 = .slice A2 (l ++ s).length c2 := by rw [List.length_append]
  rw [e]
  refine ⟨⟨_, rfl⟩, ⟨hlt, by rw [show (w2.setCell ⟨b, 1, none⟩ (.slice A2 (l ++ s).length c2)).heap.size = w2.heap.size by simp [World.setCell]]; omega, _, _, X2.out.set 1 _, ?_, .inr rfl⟩, (K1.out.trans (kp_below B2.out)).trans (kp_set _ _ _)⟩
  have := O2.out.setCell (k := 1) (x := .slice A2 (l ++ s).length c2) hlt
  simpa using this
end Go.Proofs.Ytajkbkllgbalkaa
