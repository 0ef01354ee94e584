/- The program's traverse of packets; Parse. -/
import Derived.Test.YtajkbkllgbalkaaUl
namespace Go.Proofs.Ytajkbkllgbalkaa
open Go Go.RowKit

/-- what the fields ahead of a place make of a packet, and of what is left -/
def foP (K : Int) (x : Psh × St) (k : Nat) : Psh × St := ((List.range k).filter fun j => (fldL K).contains j).foldl rdF x
theorem foP_succ (K : Int) (x : Psh × St) (k : Nat) : foP K x (k + 1) = if (fldL K).contains k then rdF (foP K x k) k else foP K x k := by
  unfold foP
  rw [List.range_succ, List.filter_append, List.foldl_append]
  cases h : (fldL K).contains k with
  | true => rw [List.filter_cons, h]; rfl
  | false => rw [List.filter_cons, h]; rfl
theorem foP_8 (K : Int) (x : Psh × St) : foP K x 8 = (fldL K).foldl rdF x := by
  unfold foP
  congr 1
  rcases kinds K with (rfl | rfl | rfl | rfl | rfl) | ⟨h, _⟩
  · rfl
  · rfl
  · rfl
  · rfl
  · rfl
  · rw [h]; rfl
/-- what traverse hands back -/
def TrvP (g D : Nat) (x : Psh × St) (w : World) (E : Ending) (w' : World) : Prop :=
  ∃ A n c, E = .returned (.agg (pshA x.1 A n c)) ∧ Own w' (w.heap.size + 2) (.slice A n c) x.1.lines ∧ RdP 75 g D x.2 w w'
/-- the world of a round of traverse -/
structure Trw (w : World) (g D : Nat) (x : Psh × St) (wr : World) (A : Option Addr) (n c : Nat) : Prop where
  two : Two wr w.heap.size (pshA x.1 A n c) #[.int .i64 0, .int .i64 0, .int .i64 0, .int .i64 0, .int .i64 0, .int .i64 0, .int .i64 0, .string { data := #[] }, .slice none 0 0]
  own : Own wr (w.heap.size + 2) (.slice A n c) x.1.lines
  rd : ∃ A' n' c' e', Rdm 75 wr g D x.2 A' n' c' e'
  kp : Kp g w.heap.size w wr
  gw : g < w.heap.size
  sz : w.heap.size + 2 ≤ wr.heap.size
theorem Trw.step {w : World} {g D : Nat} {x : Psh × St} {wr w3 : World} {A A3 : Option Addr} {n c n3 c3 k : Nat} (h : Trw w g D x wr A n c) (ho : Own w3 (w.heap.size + 2) (.slice A3 n3 c3) (rdF x k).1.lines) (hr : RdP 75 g D (rdF x k).2 wr w3) : Trw w g D (rdF x k) (w3.setRow w.heap.size (pshA (rdF x k).1 A3 n3 c3)) A3 n3 c3 := by
  obtain ⟨hk, A', n', c', e', hr'⟩ := hr
  have hgw := h.gw
  have hsz := h.sz
  have hp := h.two.p.kp hk (by omega) (by omega)
  have hq := h.two.r.kp hk (by omega) (by omega)
  have hbl : Below w.heap.size w3 (w3.setRow w.heap.size (pshA (rdF x k).1 A3 n3 c3)) := below_setRow11 (Below.refl _ _) (Nat.le_refl _) _
  refine ⟨⟨setRow_heap w3 _ _ _ _ _ hp, (setRow_other _ _ _ _ (by omega)).trans hq⟩, World.ownsRow.kept (row := some w.heap.size) ho ⟨rfl, rfl, rfl, by rw [size_setRow]; exact Nat.le_refl _, fun k hk' hne => setRow_other _ _ _ _ fun e => hne (by rw [e])⟩ ?_, ⟨A', n', c', e', hr'.low hbl hgw⟩, ?_, hgw, by rw [size_setRow]; have := hk.size; omega⟩
  · cases hv : (Value.slice A3 n3 c3).ownBlock with
    | none => simp
    | some j =>
      have := (World.ownsRow.lt ho j hv).1
      simp
      omega
  · exact (h.kp.trans (hk.mono (by omega))).trans (kp_below hbl)
theorem pshA_inj {p : Psh} {A : Option Addr} {n c : Nat} : (pshA p A n c).size = 9 := rfl
set_option maxRecDepth 100000 in
set_option maxHeartbeats 400000 in
theorem trav_push {w : World} {g D : Nat} {st : St} {A : Option Addr} {n c : Nat} {e : Int} {p : Psh} (hr : Rdm 75 w g D st A n c e) (hl : p.lines = []) :
    Calls Try.prog 55 #[.int .i64 (fldN p.kind), .agg (pshA p none 0 0), .func (.func 56) #[.pointer (some ⟨g, 0, none⟩)] #[]] w (TrvP g D ((fldL p.kind).foldl rdF (p, st)) w) := by
  have hb2 : Below w.heap.size w ((w.alloc (.cells (pshA p none 0 0) 24)).alloc (.cells #[.int .i64 0, .int .i64 0, .int .i64 0, .int .i64 0, .int .i64 0, .int .i64 0, .int .i64 0, .string { data := #[] }, .slice none 0 0] 24)) := (below_new w _).alloc (by simp) _
  have HT : Hid (Trw w g D (p, st) ((w.alloc (.cells (pshA p none 0 0) 24)).alloc (.cells #[.int .i64 0, .int .i64 0, .int .i64 0, .int .i64 0, .int .i64 0, .int .i64 0, .int .i64 0, .string { data := #[] }, .slice none 0 0] 24)) none 0 0) := Lib.hid ⟨⟨(box_new w _ _).below (below_new _ _), by have := box_new (w.alloc (.cells (pshA p none 0 0) 24)) 24 #[.int .i64 0, .int .i64 0, .int .i64 0, .int .i64 0, .int .i64 0, .int .i64 0, .int .i64 0, .string { data := #[] }, .slice none 0 0]; simpa using this⟩, by rw [hl]; exact Own.nil _ _, ⟨A, n, c, e, hr.below hb2⟩, kp_below hb2, hr.box.lt, by simp⟩
  have H8 := Lib.hid (foP_8 p.kind (p, st))
  have HS := Lib.hid (foP_succ p.kind (p, st))
  have H0 : Hid (foP p.kind (p, st) 0 = (p, st)) := Lib.hid rfl
  have hq := and_bit p.kind
  have HQ := Lib.hid hq
  clear hr hb2 hl hq
  unfold TrvP
  generalize (fldL p.kind).foldl rdF (p, st) = X8 at *
  generalize foP p.kind (p, st) = fo at *
  generalize fldN p.kind = N at *
  generalize (fldL p.kind) = FL at *
  go_enter Try.func55, Try.ntmps55
  go_wp2_with fail
  generalize ((w.alloc (.cells (pshA p none 0 0) 24)).alloc (.cells #[.int .i64 0, .int .i64 0, .int .i64 0, .int .i64 0, .int .i64 0, .int .i64 0, .int .i64 0, .string { data := #[] }, .slice none 0 0] 24)) = w2 at *
  go_loopw [7] (fun i wr => ∃ (k : Nat) (A' : Option Addr) (n' c' : Nat), k ≤ 8 ∧ i = .int .i64 (bitI k) ∧ Trw w g D (fo k) wr A' n' c') (fun i _ => (256 - intOf i).toNat)
  case atStart => exact ⟨0, none, 0, 0, Nat.zero_le _, rfl, by rw [H0.out]; exact HT.out⟩
  case round =>
    obtain ⟨k, A', n', c', hk, rfl, hw⟩ := hrel
    by_cases hlt : k < 8
    · have q1 := bitI_le k hlt
      have q2 := bitI_pos k
      have q3 := HQ.out k hlt
      have HB := Lib.hid (bitI_succ k)
      have HW := Lib.hid hw
      obtain ⟨A9, n9, c9, e9, hr9⟩ := hw.rd
      have CR := Lib.hid (read_any hr9 hw.own (by have := hw.gw; omega) hw.sz k hlt)
      have HSk := Lib.hid (HS.out k)
      clear hw hr9
      cases hm : FL.contains k with
      | true =>
        replace q3 : (bits BinOp.and IntKind.i64 N (bitI k) == 0) = false := by rw [q3, hm]; rfl
        rw [hm, if_pos rfl] at HSk
        clear hm
        unfold RedP at CR
        generalize hx : bitI k = x at *
        go_wp2_with (first
          | (refine wpList_load_row rfl 24 (.tmp 4) rfl w.heap.size rfl 24 _ (0, 0) _ HW.out.two.p Try.underlying24 rfl pshInfo ?_)
          | (go_at_call 56; refine CR.out.mono ?_; rintro E w3 ⟨A3, n3, c3, rfl, ho3, hr3⟩; have W3 := Lib.hid (HW.out.step (k := k) ho3 hr3); have P3 := Lib.hid (HW.out.two.p.kp hr3.1 (by have := HW.out.sz; omega) (by have := HW.out.gw; omega)); clear ho3 hr3)
          | (refine wpList_store_row rfl 24 (.tmp 4) (.tmp 19) rfl w.heap.size _ rfl rfl 24 _ P3.out pshInfo rfl (pshA_one _ _ _ _) ?_))
        go_roundw
        case rel => exact ⟨k + 1, A3, n3, c3, by omega, by rw [HB.out], by rw [HSk.out]; exact W3.out⟩
        case measure => simp [intOf]; omega
      | false =>
        replace q3 : (bits BinOp.and IntKind.i64 N (bitI k) == 0) = true := by rw [q3, hm]; rfl
        rw [hm, if_neg (by decide)] at HSk
        clear hm CR
        generalize hx : bitI k = x at *
        go_wp2_with fail
        go_roundw
        case rel => exact ⟨k + 1, A', n', c', by omega, by rw [HB.out], by rw [HSk.out]; exact HW.out⟩
        case measure => simp [intOf]; omega
    · obtain rfl : k = 8 := by omega
      have q1 : ¬ bitI 8 ≤ 128 := by decide
      have HW := Lib.hid hw
      rw [H8.out] at HW
      have hsz := hw.sz
      obtain ⟨A9, n9, c9, e9, hr9⟩ := HW.out.rd
      have hbl : Below (w.heap.size + 1) wr (wr.setRow (w.heap.size + 1) (pshA X8.1 A' n' c')) := below_setRow11 (Below.refl _ _) (Nat.le_refl _) _
      have FIN := Lib.hid (read_fin (base := w.heap.size + 2) (g := g) (D := D) (st := X8.2) (w := w) (q := X8.1) HW.out.two HW.out.own (fun k hk => .inr (by have := (World.ownsRow.lt HW.out.own k hk).1; omega)) HW.out.kp (Nat.le_refl _) HW.out.gw ⟨A9, n9, c9, e9, hr9⟩)
      have T1 := Lib.hid HW.out.two.p
      have T2 := Lib.hid HW.out.two.r
      clear hw hr9 hbl
      generalize bitI 8 = x at *
      go_wp2_with (first
        | (refine wpList_load_row rfl 24 (.tmp 4) rfl w.heap.size rfl 24 _ (0, 0) _ T1.out Try.underlying24 rfl pshInfo ?_)
        | (refine wpList_store_row rfl 24 (.tmp 6) (.tmp 20) rfl (w.heap.size + 1) _ rfl rfl 24 _ T2.out pshInfo rfl (pshA_one _ _ _ _) ?_))
      refine bodyPost_ret (results_cell_row rfl _ _ (w.heap.size + 1) 24 _ (0, 0) _ rfl FIN.out.2.2 Try.underlying24 rfl pshInfo) rfl ?_
      exact ⟨A', n', c', rfl, FIN.out.1, FIN.out.2.1⟩
end Go.Proofs.Ytajkbkllgbalkaa
