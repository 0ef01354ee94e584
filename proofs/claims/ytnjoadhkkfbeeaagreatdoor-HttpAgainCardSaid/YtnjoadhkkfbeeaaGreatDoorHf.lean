/- The chapter's functions over lists of headers: Check, Get, Drop, Strip, Set, Copy. -/
import Derived.Test.YtnjoadhkkfbeeaaGreatDoorHe
import Derived.Laws.AppendOwnNone
namespace Go.Proofs.YtnjoadhkkfbeeaaGreatDoor
open Go Go.RowKit

theorem isName_refL (z : List UInt8) (hz : z.length ≤ 1000) (q : Bool) (hq : isNm z = q) (w : World) : Calls Tryz.prog 71 #[.string ⟨z.toArray⟩] w fun e w' => e = .returned (.bool q) ∧ w = w' :=
  isName_ref _ w (by rw [mk_size]; unfold maxLen; omega) q (by rw [mk_toList]; exact hq)
theorem isValue_refL (z : List UInt8) (hz : z.length ≤ 1000) (q : Bool) (hq : isVl z = q) (w : World) : Calls Tryz.prog 72 #[.string ⟨z.toArray⟩] w fun e w' => e = .returned (.bool q) ∧ w = w' :=
  isValue_ref _ w (by rw [mk_size]; unfold maxLen; omega) q (by rw [mk_toList]; exact hq)
theorem alike_refL (z y : List UInt8) (hz : z.length ≤ 1000) (hy : y.length ≤ 1000) (q : Bool) (hq : alikeS z y = q) (w : World) : Calls Tryz.prog 74 #[.string ⟨z.toArray⟩, .string ⟨y.toArray⟩] w fun e w' => e = .returned (.bool q) ∧ Below w.heap.size w w' :=
  alike_ref _ _ w (by rw [mk_size]; unfold maxLen; omega) (by rw [mk_size]; unfold maxLen; omega) q (by rw [mk_toList, mk_toList]; exact hq)
theorem isName_anyL (z : List UInt8) (hz : z.length ≤ 1000) (q : Bool) (hq : isNm z = q) (w : World) : Calls Tryz.prog 66 #[.string ⟨z.toArray⟩] w fun e w' => e = .returned (.bool q) ∧ w = w' :=
  isName_any _ w (by rw [mk_size]; unfold maxLen; omega) q (by rw [mk_toList]; exact hq)
theorem isValue_anyL (z : List UInt8) (hz : z.length ≤ 1000) (q : Bool) (hq : isVl z = q) (w : World) : Calls Tryz.prog 67 #[.string ⟨z.toArray⟩] w fun e w' => e = .returned (.bool q) ∧ w = w' :=
  isValue_any _ w (by rw [mk_size]; unfold maxLen; omega) q (by rw [mk_toList]; exact hq)
theorem alike_anyL (z y : List UInt8) (hz : z.length ≤ 1000) (hy : y.length ≤ 1000) (q : Bool) (hq : alikeS z y = q) (w : World) : Calls Tryz.prog 70 #[.string ⟨z.toArray⟩, .string ⟨y.toArray⟩] w fun e w' => e = .returned (.bool q) ∧ Below w.heap.size w w' :=
  alike_any _ _ w (by rw [mk_size]; unfold maxLen; omega) (by rw [mk_size]; unfold maxLen; omega) q (by rw [mk_toList, mk_toList]; exact hq)
theorem begins_anyL (z y : List UInt8) (hz : z.length ≤ 1000) (hy : y.length ≤ 1000) (q : Bool) (hq : begS z y = q) (w : World) : Calls Tryz.prog 89 #[.string ⟨z.toArray⟩, .string ⟨y.toArray⟩] w fun e w' => e = .returned (.bool q) ∧ Below w.heap.size w w' :=
  begins_any _ _ w (by rw [mk_size]; omega) (by rw [mk_size]; omega) q (by rw [mk_toList, mk_toList]; exact hq)

theorem chkE_long {l : List Hd} (h : 16 < l.length) : chkE l = 5 := by unfold chkE; rw [if_pos h]
theorem chkE_stop {l : List Hd} (h : ¬ 16 < l.length) (k : Nat) (hk : k < l.length) (ho : okH l[k] = false) : chkE l = 40 := by
  unfold chkE; rw [if_neg h, all_false hk ho]; rfl
theorem chkE_full {l : List Hd} (h : ¬ 16 < l.length) (ho : l.all okH = true) : chkE l = 0 := by unfold chkE; rw [if_neg h, ho]; rfl
theorem ok_step {l : List Hd} {k : Nat} (hk : k < l.length) (ha : (l.take k).all okH = true) (ho : okH l[k] = true) : (l.take (k + 1)).all okH = true := by rw [all_take hk, ha, ho]; rfl

set_option maxRecDepth 100000 in
/-- the chapter's Check -/
theorem check_ref (v : Value) (l : List Hd) (w : World) (hv : Hs w v l) (hs : Sm l) : Calls Tryz.prog 44 #[v] w fun e w' => e = .returned (.int .i64 (chkE l)) ∧ w = w' := by
  obtain ⟨A, c, rfl, hc, _, hr⟩ := hv
  obtain ⟨hn, hsz⟩ := hs
  have HR := Lib.hid hr
  have HS := Lib.hid hsz
  clear hr hsz
  by_cases h16 : 16 < l.length
  · rw [chkE_long h16]
    go_enter Tryz.func44, Tryz.ntmps44
    go_wp2_with fail
    go_ret
    exact ⟨rfl, rfl⟩
  go_enter Tryz.func44, Tryz.ntmps44
  go_wp2_with fail
  go_loop [3] (fun i => ∃ k : Nat, k ≤ l.length ∧ i = .int .i64 k ∧ Hid ((l.take k).all okH = true)) (fun i => l.length - (intOf i).toNat)
  case atStart => exact ⟨0, Nat.zero_le _, rfl, by show _ = _; simp⟩
  case round =>
    obtain ⟨k, hk, rfl, hall⟩ := hrel
    by_cases hlt : k < l.length
    · obtain ⟨b, o, rfl, hbl, h1, h2⟩ := HR.out.head k hlt
      obtain ⟨z1, z2⟩ := HS.out l[k] (List.getElem_mem hlt)
      have i1 : (0 : Int) ≤ k := by omega
      have i2 : (k : Int) < l.length := by omega
      cases q1 : isNm l[k].1 with
      | false =>
        have hfin := Lib.hid (chkE_stop h16 k hlt (by unfold okH; rw [q1]; rfl))
        have c1 := Lib.hid (isName_refL l[k].1 z1 false q1)
        clear q1 hall
        generalize l[k].1 = y at *
        generalize l[k].2 = z at *
        go_wp2_with (go_at_call 71; refine (c1.out _).mono ?_; rintro e w1 ⟨rfl, rfl⟩)
        go_ret
        exact ⟨ret_int hfin.out.symm, rfl⟩
      | true =>
        have c1 := Lib.hid (isName_refL l[k].1 z1 true q1)
        cases q2 : isVl l[k].2 with
        | false =>
          have hfin := Lib.hid (chkE_stop h16 k hlt (by unfold okH; rw [q1, q2]; rfl))
          have c2 := Lib.hid (isValue_refL l[k].2 z2 false q2)
          clear q1 q2 hall
          generalize l[k].1 = y at *
          generalize l[k].2 = z at *
          go_wp2_with fail
          go_at_call 71
          refine (c1.out _).mono ?_
          rintro e w1 ⟨rfl, rfl⟩
          go_wp2_with fail
          go_at_call 72
          refine (c2.out _).mono ?_
          rintro e w1 ⟨rfl, rfl⟩
          go_wp2_with fail
          go_ret
          exact ⟨ret_int hfin.out.symm, rfl⟩
        | true =>
          have c2 := Lib.hid (isValue_refL l[k].2 z2 true q2)
          have hall' : Hid ((l.take (k + 1)).all okH = true) := ok_step hlt hall.out (by unfold okH; rw [q1, q2]; rfl)
          clear q1 q2 hall
          generalize l[k].1 = y at *
          generalize l[k].2 = z at *
          go_wp2_with fail
          go_at_call 71
          refine (c1.out _).mono ?_
          rintro e w1 ⟨rfl, rfl⟩
          go_wp2_with fail
          go_at_call 72
          refine (c2.out _).mono ?_
          rintro e w1 ⟨rfl, rfl⟩
          go_wp2_with fail
          go_round
          case rel => exact ⟨k + 1, by omega, by go_num, hall'⟩
          case measure => simp [intOf]; omega
    · have hfin := Lib.hid (chkE_full h16 (by have := hall.out; rwa [List.take_of_length_le (by omega)] at this))
      clear hall
      go_wp2_with fail
      go_ret
      exact ⟨ret_int hfin.out.symm, rfl⟩

theorem getL_yes {l : List Hd} {y : List UInt8} {k : Nat} (hk : k < l.length) (h : alikeS l[k].1 y = true) : getL (l.take (k + 1)) y = getL (l.take k) y ++ [l[k]] := filter_yes hk h
theorem getL_no {l : List Hd} {y : List UInt8} {k : Nat} (hk : k < l.length) (h : alikeS l[k].1 y = false) : getL (l.take (k + 1)) y = getL (l.take k) y := filter_no hk h
theorem getL_len (l : List Hd) (y : List UInt8) (k : Nat) : (getL (l.take k) y).length ≤ l.length := Nat.le_trans (List.length_filter_le _ _) (by rw [List.length_take]; omega)

set_option maxRecDepth 100000 in
set_option maxHeartbeats 1000000 in
/-- the chapter's Get -/
theorem get_ref (v : Value) (l : List Hd) (y : List UInt8) (w : World) (hv : Hs w v l) (hs : Sm l) (hy : y.length ≤ 1000) : Calls Tryz.prog 46 #[v, .string ⟨y.toArray⟩] w fun e w' =>
    e = .returned (.tuple #[.string ⟨(fstV (getL l y)).toArray⟩, .int .i64 ((getL l y).length : Nat)]) ∧ Below w.heap.size w w' := by
  obtain ⟨A, c, rfl, hc, _, hr⟩ := hv
  obtain ⟨hn, hsz⟩ := hs
  have HR := Lib.hid hr
  have HS := Lib.hid hsz
  clear hr hsz
  go_enter Tryz.func46, Tryz.ntmps46
  go_wp2_with fail
  go_loopw [6, 7, 8] (fun v m i wr => ∃ k : Nat, k ≤ l.length ∧ i = .int .i64 k ∧ v = .string ⟨(fstV (getL (l.take k) y)).toArray⟩ ∧ m = .int .i64 ((getL (l.take k) y).length : Nat) ∧ Below w.heap.size w wr) (fun _ _ i _ => l.length - (intOf i).toNat)
  case atStart => exact ⟨0, Nat.zero_le _, rfl, rfl, rfl, Below.refl _ _⟩
  case round =>
    obtain ⟨k, hk, rfl, rfl, rfl, hb⟩ := hrel
    have hgl := getL_len l y k
    by_cases hlt : k < l.length
    · obtain ⟨b, o, rfl, hbl, h1, h2⟩ := (HR.out.below hb).head k hlt
      obtain ⟨z1, z2⟩ := HS.out l[k] (List.getElem_mem hlt)
      have i1 : (0 : Int) ≤ k := by omega
      have i2 : (k : Int) < l.length := by omega
      cases q1 : alikeS l[k].1 y with
      | false =>
        have hst := Lib.hid (getL_no hlt q1)
        have c1 := Lib.hid (alike_refL l[k].1 y z1 hy false q1)
        clear q1
        generalize l[k].1 = p at *
        generalize l[k].2 = z at *
        generalize getL (l.take k) y = g at *
        go_wp2_with (go_at_call 74; refine (c1.out _).mono ?_; rintro e w1 ⟨rfl, b1⟩)
        go_roundw
        case rel => exact ⟨k + 1, by omega, by go_num, by rw [hst.out], by rw [hst.out], hb.trans (b1.mono hb.size)⟩
        case measure => simp [intOf]; omega
      | true =>
        have hst := getL_yes hlt q1
        have c1 := Lib.hid (alike_refL l[k].1 y z1 hy true q1)
        clear q1
        by_cases g0 : (getL (l.take k) y).length = 0
        · rw [List.eq_nil_of_length_eq_zero g0] at hst
          have hs1 : Hid (fstV (getL (l.take (k + 1)) y) = l[k].2) := by show _ = _; rw [hst]; rfl
          have hs2 : Hid ((getL (l.take (k + 1)) y).length = 1) := by show _ = _; rw [hst]; rfl
          clear hst
          generalize l[k].1 = p at *
          generalize l[k].2 = z at *
          generalize getL (l.take k) y = g at *
          have g1 : ((g.length : Int) == 0) = true := by rw [g0]; rfl
          go_wp2_with fail
          go_at_call 74
          refine (c1.out _).mono ?_
          rintro e w1 ⟨rfl, b1⟩
          obtain h2' := (b1.cell (p := ⟨b, o + k * 2 + 1, none⟩) (Nat.lt_of_lt_of_le hbl (Nat.le_refl _))).trans h2
          go_wp2_with fail
          go_roundw
          case rel => exact ⟨k + 1, by omega, by go_num, by rw [hs1.out], by rw [hs2.out]; rfl, hb.trans (b1.mono hb.size)⟩
          case measure => simp [intOf]; omega
        · have hs1 : Hid (fstV (getL (l.take (k + 1)) y) = fstV (getL (l.take k) y)) := by show _ = _; rw [hst, fstV_snoc _ (by omega)]
          have hs2 : Hid ((getL (l.take (k + 1)) y).length = (getL (l.take k) y).length + 1) := by show _ = _; rw [hst, List.length_append]; rfl
          clear hst
          generalize l[k].1 = p at *
          generalize l[k].2 = z at *
          generalize getL (l.take k) y = g at *
          have g1 : ((g.length : Int) == 0) = false := by rw [beq_eq_false_iff_ne]; omega
          go_wp2_with fail
          go_at_call 74
          refine (c1.out _).mono ?_
          rintro e w1 ⟨rfl, b1⟩
          go_wp2_with fail
          go_roundw
          case rel => exact ⟨k + 1, by omega, by go_num, by rw [hs1.out], by rw [hs2.out]; go_num, hb.trans (b1.mono hb.size)⟩
          case measure => simp [intOf]; omega
    · rw [List.take_of_length_le (by omega)] at *
      go_wp2_with fail
      go_ret2
      exact ⟨rfl, hb⟩
end Go.Proofs.YtnjoadhkkfbeeaaGreatDoor
