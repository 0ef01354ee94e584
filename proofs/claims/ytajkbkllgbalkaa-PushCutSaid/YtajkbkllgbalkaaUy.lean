/- PushCut: a packet's bytes, cut or with one behind them, tell none. -/
import Derived.Test.YtajkbkllgbalkaaUx
namespace Go.Proofs.Ytajkbkllgbalkaa
open Go Go.RowKit

theorem wpList_pushGG {ops : Array Oper} {rest : List Oper} {o : Oper} {a : Act} {Q : Exit → Act → World → Prop} (hw : Region.wanted o (yielded ops a.tmps) = true) (s x : Operand)
    (ho : o.op = .call { callee := .builtin .append, args := #[s, x], argTypes := #[26, 26] }) (w : World) (base : Nat) (A : Option Addr) (c n : Nat) (l : List UInt8) (v : Int) (y : UInt8) (hv : v = y.toNat) (hn : l.length = n)
    (hs : a.eval s = .slice A n c) (hx : a.eval x = .slice (some ⟨w.heap.size, 0, none⟩) 1 1) (h : RowG w base A c l) (hbase : base ≤ w.heap.size) (hlen : n + 1 ≤ 140737488355328)
    (hk : ∀ (A' : Option Addr) (c' : Nat) w', RowG w' base A' c' (l ++ [y]) → Below base w w' → wpList Try.prog ops Q rest (a.put o.dst (.slice A' (n + 1) c')) w') :
    wpList Try.prog ops Q (o :: rest) a (w.alloc (.cells #[.int .u8 v] 5)) := by
  subst hn
  refine wpList_step fun K hK => ?_
  rw [if_pos hw]
  obtain ⟨A', c', w', hr, h2, h3, _, _⟩ := run_pushG (w.alloc (.cells #[.int .u8 v] 5)) base o.type 26 A c l [y] _ (h.below (below_new _ _)) (src_rb (rb_new w v y hv)) (Nat.le_trans hbase (below_new _ _).size) hlen
  have hx' : a.eval x = .slice (some ⟨w.heap.size, 0, none⟩) [y].length 1 := hx
  unfold Oper.wp execOp
  simp only [ho, resolve, invoke, builtin, Sem.run_bind, Sem.run_pure, Result.andThen_ok, List.map_toArray, List.map_cons, List.map_nil, hs, hx', hr]
  exact hK _ _ (hk A' c' w' h2 (((below_new w _).mono hbase).trans h3))
theorem infoSd (s : Sd) : (Try.prog.info? 44).map (·.size) = some (sdA s).size := by kernel_rfl
theorem bytes_ok {w : World} {p : Psh} {B : Option Addr} {n d : Nat} (hp : PsIn w.heap.size w p B n d) (h : checkP p = true) :
    Calls Try.prog 12 #[.agg (pshA p B n d)] w fun e w' => ∃ (A : Option Addr) (c : Nat), e = .returned (.tuple #[.slice A (bytesP p).length c, .int .i64 0]) ∧ RowG w' w.heap.size A c (bytesP p) ∧ Below w.heap.size w w' := by
  have := bytes_prog hp
  unfold BytP at this
  rw [show outB p = bytesP p by unfold outB; rw [h, if_pos rfl], h] at this
  exact this
set_option maxRecDepth 100000 in
set_option maxHeartbeats 1000000 in
theorem pushCut_any {w : World} {s : Sd} (h : SdV w.heap.size w s) (at_ : Int) (c : UInt8) :
    Calls Try.prog 8 #[.agg (sdA s), .int .i64 at_, .int .u8 c.toNat] w (TellsP true w) := by
  have hZ := below_new w (.cells (sdA s) 44)
  have HX := Lib.hid (box_new w 44 (sdA s))
  have HZ := Lib.hid hZ
  have CM := Lib.hid (made_any (h.below hZ))
  have CW := Lib.hid works_any
  clear h hZ
  unfold MadP at CM
  unfold TellsP at *
  go_enter Try.func8, Try.ntmps8
  go_upto_region 1 with fail
  generalize w.alloc (.cells (sdA s) 44) = w1 at *
  go_upto_region 2 with (first
    | (refine wpList_load_row rfl 44 (.tmp 3) rfl w.heap.size rfl 44 _ (0, 0) _ HX.out Try.underlying44 rfl (infoSd s) ?_)
    | (go_at_call 29; refine CM.out.mono ?_; rintro E w2 ⟨p, A, n, d, rfl, hck, ho, hb⟩; have HCK := Lib.hid hck; have HB2 := Lib.hid (below_then HZ.out hb); have CB := Lib.hid (bytes_ok (pIn ho (check_small hck)) hck); clear hck ho hb)
    | (go_at_call 12; refine CB.out.mono ?_; rintro E w3 ⟨A3, c3, rfl, hr3, hb3⟩; have HR3 := Lib.hid hr3; have HB3 := Lib.hid (below_then HB2.out hb3); clear hr3 hb3))
  have hbl := bytes_len HCK.out
  have HC1 : Hid (∀ k, k < (bytesP p).length → parseP ((bytesP p).take k) = (zeroP, 3)) := Lib.hid fun k hk => parse_cut HCK.out (List.take_append_drop k (bytesP p)).symm (by
    intro e
    have := congrArg List.length e
    rw [List.length_drop, List.length_nil] at this
    omega)
  have HC2 : Hid (∀ y, parseP (bytesP p ++ [y]) = (zeroP, 4)) := Lib.hid fun y => parse_more HCK.out y
  clear HCK CB CM HX HB2
  generalize bytesP p = B at *
  have ha := Int.emod_nonneg at_ (show (B.length : Int) ≠ 0 by omega)
  have hb := Int.emod_lt_of_pos at_ (show (0 : Int) < B.length by omega)
  obtain ⟨k, hk⟩ : ∃ k : Nat, at_ % (B.length : Int) = (k : Int) := ⟨(at_ % (B.length : Int)).toNat, by omega⟩
  have CBr := Lib.hid (bring_any at_ B.length · (by omega) (by omega))
  rw [hk] at ha hb CBr
  have hkB : k < B.length := by omega
  have hkc : k ≤ c3 := by have := HR3.out.le; omega
  have HT : Hid (k = (B.take k).length) := Lib.hid (by rw [List.length_take]; omega)
  have CF1 := Lib.hid fun (w' : World) (A' : Option Addr) (c' : Nat) (h' : Rb w'.heap.size w' A' c' (B.take k)) => fails_yes (n := k) h' HT.out (by rw [List.length_take]; omega) (HC1.out k hkB)
  obtain ⟨m, hm⟩ : ∃ m, m = B.length := ⟨_, rfl⟩
  have CF2 := Lib.hid fun (w' : World) (A' : Option Addr) (c' : Nat) (h' : Rb w'.heap.size w' A' c' (B ++ [c])) => fails_yes (n := m + 1) h' (by rw [List.length_append, hm]; rfl) (by rw [List.length_append]; simp; omega) (HC2.out c)
  have CC := Lib.hid fun (w' : World) (A' : Option Addr) (c' : Nat) (h' : Rb w'.heap.size w' A' c' B) => copyB_any (n := m) h' hm (by omega)
  have hm2 : ¬ ((m : Int) = 0) := by omega
  have HN : Hid (m ≤ 500000) := Lib.hid (by omega)
  have HR3b := Lib.hid HR3.out.rb
  unfold MadeP TellsP at *
  rw [← hm] at CBr ⊢
  have HM : Hid (B.length = m) := Lib.hid hm.symm
  clear hm hk ha hb hbl HC1 HC2 hkB
  go_upto_region 4 with fail
  go_wp2_with (first
    | (go_at_call 31; refine (CBr.out _).mono ?_; rintro E w4 ⟨rfl, rfl⟩)
    | (go_at_call 30; with_reducible refine Calls.mono (CF1.out w3 A3 c3 (HR3b.out.take k)) ?_; rintro E w4 ⟨rfl, hb4⟩; have HB4 := Lib.hid (below_then HB3.out hb4); have RB4 := Lib.hid (HR3b.out.below hb4); clear hb4)
    | (go_at_call 22; refine (CC.out _ A3 c3 RB4.out).mono ?_; rw [HM.out]; rintro E w5 ⟨A5, c5, rfl, hr5, hb5⟩; have HR5 := Lib.hid hr5; have HS5 := Lib.hid hb5.size; have HB45 := Lib.hid hb5; have HB5 := Lib.hid (below_then HB4.out hb5); clear hr5 hb5)
    | (at_builtin; refine wpList_pushGG (by rfl) (.tmp 31) (.tmp 33) rfl w5 w4.heap.size A5 c5 m B _ c rfl HM.out rfl rfl HR5.out HS5.out (by have := HN.out; omega) ?_; intro A6 c6 w6 hr6 hb6; have HR6 := Lib.hid hr6.rb; have HB6 := Lib.hid (below_then HB4.out (show Below w4.heap.size w4 w6 from (show Below w4.heap.size w4 w5 from HB45.out).trans hb6)); clear hr6 hb6)
    | (go_at_call 30; with_reducible refine Calls.mono (CF2.out w6 A6 c6 HR6.out) ?_; rintro E w7 ⟨rfl, hb7⟩; have HB7 := Lib.hid (below_then HB6.out hb7); clear hb7)
    | (go_at_call 21; refine (CW.out _).mono ?_; rintro E w8 ⟨rfl, hb8⟩; have HB8 := Lib.hid (below_then HB7.out hb8); clear hb8))
  go_ret
  exact ⟨rfl, HB8.out⟩
end Go.Proofs.Ytajkbkllgbalkaa
