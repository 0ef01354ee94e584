/- PushAgain: what can be parsed has just these bytes. -/
import Derived.Test.YtajkbkllgbalkaaUu
namespace Go.Proofs.Ytajkbkllgbalkaa
open Go Go.RowKit

theorem run_sliceT {o : Oper} {a : Act} (w : World) (x hi : Operand) (ho : o.op = .slice 26 x none (some hi) none) (A : Option Addr) (n c k : Nat) (hx : a.eval x = .slice A n c) (hh : a.eval hi = .int .i64 k) (hk : k ≤ c) : (execOp a.eval o).run Try.prog w = .ok (.value (.slice A k c)) w := by
  have q0 : (0 : Int) ≤ k := by omega
  have q1 : (k : Int) ≤ c := by omega
  unfold execOp
  simp only [ho, Option.map_some, Option.map_none, hx, hh]
  go_simp
theorem wpList_sliceT {ops : Array Oper} {rest : List Oper} {o : Oper} {a : Act} {w : World} {Q : Exit → Act → World → Prop} (hgd : o.guard = none) (x hi : Operand) (ho : o.op = .slice 26 x none (some hi) none) (A : Option Addr) (n c k : Nat) (hx : a.eval x = .slice A n c) (hh : a.eval hi = .int .i64 k) (hk : k ≤ c)
    (h : wpList Try.prog ops Q rest (a.put o.dst (.slice A k c)) w) : wpList Try.prog ops Q (o :: rest) a w := by
  refine wpList_plain hgd fun K hK => ?_
  unfold Oper.wp
  rw [run_sliceT w x hi ho A n c k hx hh hk]
  exact hK _ _ h
set_option maxRecDepth 100000 in
theorem again_any {w : World} {A : Option Addr} {n c : Nat} {b : Bs} (hb : Rb w.heap.size w A c b) (hn : n = b.length) :
    Calls Try.prog 7 #[.slice A n c] w (TellsP true w) := by
  obtain ⟨k, hk⟩ : ∃ k : Nat, k = min n 2000 := ⟨_, rfl⟩
  have hkI : min (n : Int) 2000 = (k : Int) := by omega
  have hkl : k = (b.take k).length := by rw [List.length_take]; omega
  have hkc : k ≤ c := by have := hb.cap; omega
  have hk2 : k ≤ 2000 := by omega
  have HB0 := Lib.hid (hb.take k)
  clear hb
  generalize b.take k = y at *
  clear hk hn
  have HB := Lib.hid (Below.refl w.heap.size w)
  have hsm := parse_small y
  have CP := parse_prog HB0.out hkl (by omega)
  have HPO := parse_ok (b := y)
  have HPB := parse_bad (b := y)
  rcases hpy : parseP y with ⟨q, e⟩
  rw [hpy] at CP hsm HPO HPB
  unfold ParP at CP
  dsimp only at CP hsm HPO HPB
  have CP := Lib.hid CP
  have HSM := Lib.hid hsm
  clear hpy hsm
  have CW := Lib.hid works_any
  unfold TellsP at *
  by_cases he : e = 0
  · subst he
    obtain ⟨hc, hq⟩ := HPO rfl
    have hob : outB q = y := by unfold outB; rw [hc, if_pos rfl, hq]
    have CB := Lib.hid fun (w' : World) (A' : Option Addr) (n' c' : Nat) (h : PsIn w'.heap.size w' q A' n' c') => bytes_prog h
    have CC := Lib.hid fun (w' : World) (A' : Option Addr) (n' c' : Nat) (h : PsIn w'.heap.size w' q A' n' c') => check_any h (Nat.le_refl _)
    have CE := Lib.hid fun (w' : World) (B : Option Addr) (d : Nat) (h1 : Rb w'.heap.size w' A c y) (h2 : Rb w'.heap.size w' B d y) => eqBytes_rb h1 h2
    unfold BytP at CB
    rw [hob, hc, show errI true = 0 from rfl] at CB
    rw [hc, show errI true = 0 from rfl] at CC
    rw [show (y == y) = true by simp] at CE
    rw [← hkl] at CB CE
    clear HPO HPB hc hq hob hkl
    go_enter Try.func7, Try.ntmps7
    go_wp2_with (first
      | (go_at_call 23; refine CP.out.mono ?_; rintro E w1 ⟨A1, n1, c1, rfl, ho1, hb1⟩; have P1 := Lib.hid (pIn ho1 HSM.out); have B1 := Lib.hid hb1; have RB1 := Lib.hid (HB0.out.below hb1); clear ho1 hb1)
      | (refine wpList_store_row rfl 24 (.tmp 3) (.tmp 15) rfl w1.heap.size (pshA q A1 n1 c1) rfl rfl 24 _ (heap_alloc_new w1 _) pshInfo rfl (pshA_one _ _ _ _) ?_; rw [World.setRow_alloc_new]; have BA := below_new w1 (.cells (pshA q A1 n1 c1) 24); have XA := Lib.hid (box_new w1 24 (pshA q A1 n1 c1)); have B2 := Lib.hid (below_then B1.out BA); have P2 := Lib.hid (P1.out.below BA); have RB2 := Lib.hid (RB1.out.below BA); have CB2 := Lib.hid (CB.out _ A1 n1 c1 P2.out); clear BA)
      | (refine wpList_load_row rfl 24 (.tmp 3) rfl w1.heap.size rfl 24 _ (0, 0) _ XA.out Try.underlying24 rfl pshInfo ?_)
      | (go_at_call 12; refine CB2.out.mono ?_; rintro E w3 ⟨A3, c3, rfl, hr3, hb3⟩; have R3 := Lib.hid hr3.rb; have B3 := Lib.hid (below_then B2.out hb3); have X3 := Lib.hid (XA.out.below hb3); have P3 := Lib.hid (P2.out.below hb3); have RB3 := Lib.hid (RB2.out.below hb3); have CE3 := Lib.hid (CE.out w3 A3 c3 RB3.out R3.out); have CC3 := Lib.hid (CC.out w3 A1 n1 c1 P3.out); clear hr3 hb3)
      | (go_at_call 17; refine CE3.out.mono ?_; rintro E w4 ⟨rfl, rfl⟩)
      | (refine wpList_load_rowG rfl 24 (.tmp 3) rfl w1.heap.size rfl 24 _ (0, 0) _ X3.out Try.underlying24 rfl pshInfo ?_)
      | (go_at_call 15; refine CC3.out.mono ?_; rintro E w5 ⟨rfl, hb5⟩; have B5 := Lib.hid (below_then B3.out hb5); clear hb5)
      | (go_at_call 21; refine (CW.out _).mono ?_; rintro E w6 ⟨rfl, hb6⟩; have B6 := Lib.hid (below_then B5.out hb6); clear hb6))
    go_ret
    exact ⟨rfl, B6.out⟩
  · have hq := HPB he
    subst hq
    have CS := Lib.hid fun (w' : World) (A' : Option Addr) (n' c' : Nat) (h' : PsIn w'.heap.size w' zeroP A' n' c') => same_any h' (zero_in w'.heap.size w') (Nat.le_refl _)
    rw [sameB_refl] at CS
    unfold TellsP at CS
    clear HPO HPB hkl
    go_enter Try.func7, Try.ntmps7
    go_wp2_with (first
      | (go_at_call 23; refine CP.out.mono ?_; rintro E w1 ⟨A1, n1, c1, rfl, ho1, hb1⟩; have P1 := Lib.hid (pIn ho1 HSM.out); have B1 := Lib.hid hb1; clear ho1 hb1)
      | (refine wpList_store_row rfl 24 (.tmp 3) (.tmp 15) rfl w1.heap.size (pshA zeroP A1 n1 c1) rfl rfl 24 _ (heap_alloc_new w1 _) pshInfo rfl (pshA_one _ _ _ _) ?_; rw [World.setRow_alloc_new]; have BA := below_new w1 (.cells (pshA zeroP A1 n1 c1) 24); have XA := Lib.hid (box_new w1 24 (pshA zeroP A1 n1 c1)); have B2 := Lib.hid (below_then B1.out BA); have CS2 := Lib.hid (CS.out _ A1 n1 c1 (P1.out.below BA)); clear BA)
      | (refine wpList_load_row rfl 24 (.tmp 3) rfl w1.heap.size rfl 24 _ (0, 0) _ XA.out Try.underlying24 rfl pshInfo ?_)
      | (go_at_call 18; refine CS2.out.mono ?_; rintro E w3 ⟨rfl, hb3⟩; have B3 := Lib.hid (below_then B2.out hb3); clear hb3)
      | (go_at_call 21; refine (CW.out _).mono ?_; rintro E w6 ⟨rfl, hb6⟩; have B6 := Lib.hid (below_then B3.out hb6); clear hb6))
    go_ret
    exact ⟨rfl, B6.out⟩
end Go.Proofs.Ytajkbkllgbalkaa
