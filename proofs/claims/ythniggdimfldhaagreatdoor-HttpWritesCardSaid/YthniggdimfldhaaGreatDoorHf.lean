/- The chapter's functions over lists of headers: Check, Get, Drop, Strip, Set, Copy. The chapter's Drop, Strip, Set and Copy. Slices of bytes that can be read; EqBytes; the chapter's Bytes. -/
import Derived.Test.YthniggdimfldhaaGreatDoorHe
import Derived.Laws.AppendOwnNone
namespace Go.Proofs.YthniggdimfldhaaGreatDoor
open Go Go.RowKit

theorem isName_refL (z : List UInt8) (hz : z.length ≤ 1000) (q : Bool) (hq : isNm z = q) (w : World) : Calls Tryz.prog 63 #[.string ⟨z.toArray⟩] w fun e w' => e = .returned (.bool q) ∧ w = w' :=
  isName_ref _ w (by rw [mk_size]; unfold maxLen; omega) q (by rw [mk_toList]; exact hq)
theorem isValue_refL (z : List UInt8) (hz : z.length ≤ 1000) (q : Bool) (hq : isVl z = q) (w : World) : Calls Tryz.prog 64 #[.string ⟨z.toArray⟩] w fun e w' => e = .returned (.bool q) ∧ w = w' :=
  isValue_ref _ w (by rw [mk_size]; unfold maxLen; omega) q (by rw [mk_toList]; exact hq)
theorem alike_refL (z y : List UInt8) (hz : z.length ≤ 1000) (hy : y.length ≤ 1000) (q : Bool) (hq : alikeS z y = q) (w : World) : Calls Tryz.prog 66 #[.string ⟨z.toArray⟩, .string ⟨y.toArray⟩] w fun e w' => e = .returned (.bool q) ∧ Below w.heap.size w w' :=
  alike_ref _ _ w (by rw [mk_size]; unfold maxLen; omega) (by rw [mk_size]; unfold maxLen; omega) q (by rw [mk_toList, mk_toList]; exact hq)
theorem isName_anyL (z : List UInt8) (hz : z.length ≤ 1000) (q : Bool) (hq : isNm z = q) (w : World) : Calls Tryz.prog 58 #[.string ⟨z.toArray⟩] w fun e w' => e = .returned (.bool q) ∧ w = w' :=
  isName_any _ w (by rw [mk_size]; unfold maxLen; omega) q (by rw [mk_toList]; exact hq)
theorem isValue_anyL (z : List UInt8) (hz : z.length ≤ 1000) (q : Bool) (hq : isVl z = q) (w : World) : Calls Tryz.prog 59 #[.string ⟨z.toArray⟩] w fun e w' => e = .returned (.bool q) ∧ w = w' :=
  isValue_any _ w (by rw [mk_size]; unfold maxLen; omega) q (by rw [mk_toList]; exact hq)
theorem alike_anyL (z y : List UInt8) (hz : z.length ≤ 1000) (hy : y.length ≤ 1000) (q : Bool) (hq : alikeS z y = q) (w : World) : Calls Tryz.prog 62 #[.string ⟨z.toArray⟩, .string ⟨y.toArray⟩] w fun e w' => e = .returned (.bool q) ∧ Below w.heap.size w w' :=
  alike_any _ _ w (by rw [mk_size]; unfold maxLen; omega) (by rw [mk_size]; unfold maxLen; omega) q (by rw [mk_toList, mk_toList]; exact hq)
theorem begins_anyL (z y : List UInt8) (hz : z.length ≤ 1000) (hy : y.length ≤ 1000) (q : Bool) (hq : begS z y = q) (w : World) : Calls Tryz.prog 77 #[.string ⟨z.toArray⟩, .string ⟨y.toArray⟩] w fun e w' => e = .returned (.bool q) ∧ Below w.heap.size w w' :=
  begins_any _ _ w (by rw [mk_size]; omega) (by rw [mk_size]; omega) q (by rw [mk_toList, mk_toList]; exact hq)

theorem chkE_long {l : List Hd} (h : 16 < l.length) : chkE l = 5 := by unfold chkE; rw [if_pos h]
theorem chkE_stop {l : List Hd} (h : ¬ 16 < l.length) (k : Nat) (hk : k < l.length) (ho : okH l[k] = false) : chkE l = 40 := by
  unfold chkE; rw [if_neg h, all_false hk ho]; rfl
theorem chkE_full {l : List Hd} (h : ¬ 16 < l.length) (ho : l.all okH = true) : chkE l = 0 := by unfold chkE; rw [if_neg h, ho]; rfl
theorem ok_step {l : List Hd} {k : Nat} (hk : k < l.length) (ha : (l.take k).all okH = true) (ho : okH l[k] = true) : (l.take (k + 1)).all okH = true := by rw [all_take hk, ha, ho]; rfl

set_option maxRecDepth 100000 in
/-- the chapter's Check -/
theorem check_ref (v : Value) (l : List Hd) (w : World) (hv : Hs w v l) (hs : Sm l) : Calls Tryz.prog 36 #[v] w fun e w' => e = .returned (.int .i64 (chkE l)) ∧ w = w' := by
  obtain ⟨A, c, rfl, hc, _, hr⟩ := hv
  obtain ⟨hn, hsz⟩ := hs
  have HR := Lib.hid hr
  have HS := Lib.hid hsz
  clear hr hsz
  by_cases h16 : 16 < l.length
  · rw [chkE_long h16]
    go_enter Tryz.func36, Tryz.ntmps36
    go_wp2_with fail
    go_ret
    exact ⟨rfl, rfl⟩
  go_enter Tryz.func36, Tryz.ntmps36
  go_wp2_with fail
  go_loop [3] (fun i => ∃ k : Nat, k ≤ l.length ∧ i = .int .i64 k ∧ Hid ((l.take k).all okH = true)) (fun i => l.length - (intOf i).toNat)
  case atStart => exact ⟨0, Nat.zero_le _, rfl, by show _ = _; simp⟩
  case round =>
    obtain ⟨k, hk, rfl, hall⟩ := hrel
    by_cases hlt : k < l.length
    · obtain ⟨b, o, rfl, hbl, h1, h2⟩ := HR.out.head k hlt
      obtain ⟨z1, z2⟩ := HS.out l[k] (List.getElem_mem hlt)
      have i1 : (0 : Int) ≤ k := by omega
      have i2 : (k : Int) < l.length := by omega
      cases q1 : isNm l[k].1 with
      | false =>
        have hfin := Lib.hid (chkE_stop h16 k hlt (by unfold okH; rw [q1]; rfl))
        have c1 := Lib.hid (isName_refL l[k].1 z1 false q1)
        clear q1 hall
        generalize l[k].1 = y at *
        generalize l[k].2 = z at *
        go_wp2_with (go_at_call 63; refine (c1.out _).mono ?_; rintro e w1 ⟨rfl, rfl⟩)
        go_ret
        exact ⟨ret_int hfin.out.symm, rfl⟩
      | true =>
        have c1 := Lib.hid (isName_refL l[k].1 z1 true q1)
        cases q2 : isVl l[k].2 with
        | false =>
          have hfin := Lib.hid (chkE_stop h16 k hlt (by unfold okH; rw [q1, q2]; rfl))
          have c2 := Lib.hid (isValue_refL l[k].2 z2 false q2)
          clear q1 q2 hall
          generalize l[k].1 = y at *
          generalize l[k].2 = z at *
          go_wp2_with fail
          go_at_call 63
          refine (c1.out _).mono ?_
          rintro e w1 ⟨rfl, rfl⟩
          go_wp2_with fail
          go_at_call 64
          refine (c2.out _).mono ?_
          rintro e w1 ⟨rfl, rfl⟩
          go_wp2_with fail
          go_ret
          exact ⟨ret_int hfin.out.symm, rfl⟩
        | true =>
          have c2 := Lib.hid (isValue_refL l[k].2 z2 true q2)
          have hall' : Hid ((l.take (k + 1)).all okH = true) := ok_step hlt hall.out (by unfold okH; rw [q1, q2]; rfl)
          clear q1 q2 hall
          generalize l[k].1 = y at *
          generalize l[k].2 = z at *
          go_wp2_with fail
          go_at_call 63
          refine (c1.out _).mono ?_
          rintro e w1 ⟨rfl, rfl⟩
          go_wp2_with fail
          go_at_call 64
          refine (c2.out _).mono ?_
          rintro e w1 ⟨rfl, rfl⟩
          go_wp2_with fail
          go_round
          case rel => exact ⟨k + 1, by omega, by go_num, hall'⟩
          case measure => simp [intOf]; omega
    · have hfin := Lib.hid (chkE_full h16 (by have := hall.out; rwa [List.take_of_length_le (by omega)] at this))
      clear hall
      go_wp2_with fail
      go_ret
      exact ⟨ret_int hfin.out.symm, rfl⟩

theorem getL_yes {l : List Hd} {y : List UInt8} {k : Nat} (hk : k < l.length) (h : alikeS l[k].1 y = true) : getL (l.take (k + 1)) y = getL (l.take k) y ++ [l[k]] := filter_yes hk h
theorem getL_no {l : List Hd} {y : List UInt8} {k : Nat} (hk : k < l.length) (h : alikeS l[k].1 y = false) : getL (l.take (k + 1)) y = getL (l.take k) y := filter_no hk h
theorem getL_len (l : List Hd) (y : List UInt8) (k : Nat) : (getL (l.take k) y).length ≤ l.length := Nat.le_trans (List.length_filter_le _ _) (by rw [List.length_take]; omega)

set_option maxRecDepth 100000 in
set_option maxHeartbeats 1000000 in
/-- the chapter's Get -/
theorem get_ref (v : Value) (l : List Hd) (y : List UInt8) (w : World) (hv : Hs w v l) (hs : Sm l) (hy : y.length ≤ 1000) : Calls Tryz.prog 38 #[v, .string ⟨y.toArray⟩] w fun e w' =>
    e = .returned (.tuple #[.string ⟨(fstV (getL l y)).toArray⟩, .int .i64 ((getL l y).length : Nat)]) ∧ Below w.heap.size w w' := by
  obtain ⟨A, c, rfl, hc, _, hr⟩ := hv
  obtain ⟨hn, hsz⟩ := hs
  have HR := Lib.hid hr
  have HS := Lib.hid hsz
  clear hr hsz
  go_enter Tryz.func38, Tryz.ntmps38
  go_wp2_with fail
  go_loopw [6, 7, 8] (fun v m i wr => ∃ k : Nat, k ≤ l.length ∧ i = .int .i64 k ∧ v = .string ⟨(fstV (getL (l.take k) y)).toArray⟩ ∧ m = .int .i64 ((getL (l.take k) y).length : Nat) ∧ Below w.heap.size w wr) (fun _ _ i _ => l.length - (intOf i).toNat)
  case atStart => exact ⟨0, Nat.zero_le _, rfl, rfl, rfl, Below.refl _ _⟩
  case round =>
    obtain ⟨k, hk, rfl, rfl, rfl, hb⟩ := hrel
    have hgl := getL_len l y k
    by_cases hlt : k < l.length
    · obtain ⟨b, o, rfl, hbl, h1, h2⟩ := (HR.out.below hb).head k hlt
      obtain ⟨z1, z2⟩ := HS.out l[k] (List.getElem_mem hlt)
      have i1 : (0 : Int) ≤ k := by omega
      have i2 : (k : Int) < l.length := by omega
      cases q1 : alikeS l[k].1 y with
      | false =>
        have hst := Lib.hid (getL_no hlt q1)
        have c1 := Lib.hid (alike_refL l[k].1 y z1 hy false q1)
        clear q1
        generalize l[k].1 = p at *
        generalize l[k].2 = z at *
        generalize getL (l.take k) y = g at *
        go_wp2_with (go_at_call 66; refine (c1.out _).mono ?_; rintro e w1 ⟨rfl, b1⟩)
        go_roundw
        case rel => exact ⟨k + 1, by omega, by go_num, by rw [hst.out], by rw [hst.out], hb.trans (b1.mono hb.size)⟩
        case measure => simp [intOf]; omega
      | true =>
        have hst := getL_yes hlt q1
        have c1 := Lib.hid (alike_refL l[k].1 y z1 hy true q1)
        clear q1
        by_cases g0 : (getL (l.take k) y).length = 0
        · rw [List.eq_nil_of_length_eq_zero g0] at hst
          have hs1 : Hid (fstV (getL (l.take (k + 1)) y) = l[k].2) := by show _ = _; rw [hst]; rfl
          have hs2 : Hid ((getL (l.take (k + 1)) y).length = 1) := by show _ = _; rw [hst]; rfl
          clear hst
          generalize l[k].1 = p at *
          generalize l[k].2 = z at *
          generalize getL (l.take k) y = g at *
          have g1 : ((g.length : Int) == 0) = true := by rw [g0]; rfl
          go_wp2_with fail
          go_at_call 66
          refine (c1.out _).mono ?_
          rintro e w1 ⟨rfl, b1⟩
          obtain h2' := (b1.cell (p := ⟨b, o + k * 2 + 1, none⟩) (Nat.lt_of_lt_of_le hbl (Nat.le_refl _))).trans h2
          go_wp2_with fail
          go_roundw
          case rel => exact ⟨k + 1, by omega, by go_num, by rw [hs1.out], by rw [hs2.out]; rfl, hb.trans (b1.mono hb.size)⟩
          case measure => simp [intOf]; omega
        · have hs1 : Hid (fstV (getL (l.take (k + 1)) y) = fstV (getL (l.take k) y)) := by show _ = _; rw [hst, fstV_snoc _ (by omega)]
          have hs2 : Hid ((getL (l.take (k + 1)) y).length = (getL (l.take k) y).length + 1) := by show _ = _; rw [hst, List.length_append]; rfl
          clear hst
          generalize l[k].1 = p at *
          generalize l[k].2 = z at *
          generalize getL (l.take k) y = g at *
          have g1 : ((g.length : Int) == 0) = false := by rw [beq_eq_false_iff_ne]; omega
          go_wp2_with fail
          go_at_call 66
          refine (c1.out _).mono ?_
          rintro e w1 ⟨rfl, b1⟩
          go_wp2_with fail
          go_roundw
          case rel => exact ⟨k + 1, by omega, by go_num, by rw [hs1.out], by rw [hs2.out]; go_num, hb.trans (b1.mono hb.size)⟩
          case measure => simp [intOf]; omega
    · rw [List.take_of_length_le (by omega)] at *
      go_wp2_with fail
      go_ret2
      exact ⟨rfl, hb⟩
end Go.Proofs.YthniggdimfldhaaGreatDoor
namespace Go.Proofs.YthniggdimfldhaaGreatDoor
open Go Go.RowKit

theorem dropL_yes {l : List Hd} {y : List UInt8} {k : Nat} (hk : k < l.length) (h : alikeS l[k].1 y = true) : dropL (l.take (k + 1)) y = dropL (l.take k) y := filter_no hk (by simp [h])
theorem dropL_no {l : List Hd} {y : List UInt8} {k : Nat} (hk : k < l.length) (h : alikeS l[k].1 y = false) : dropL (l.take (k + 1)) y = dropL (l.take k) y ++ [(l[k].1, l[k].2)] := filter_yes hk (by simp [h])
theorem dropL_len (l : List Hd) (y : List UInt8) (k : Nat) : (dropL (l.take k) y).length ≤ l.length := Nat.le_trans (List.length_filter_le _ _) (by rw [List.length_take]; omega)
theorem stripL_yes {l : List Hd} {y : List UInt8} {k : Nat} (hk : k < l.length) (h : begS l[k].1 y = true) : stripL (l.take (k + 1)) y = stripL (l.take k) y := filter_no hk (by simp [h])
theorem stripL_no {l : List Hd} {y : List UInt8} {k : Nat} (hk : k < l.length) (h : begS l[k].1 y = false) : stripL (l.take (k + 1)) y = stripL (l.take k) y ++ [(l[k].1, l[k].2)] := filter_yes hk (by simp [h])
theorem stripL_len (l : List Hd) (y : List UInt8) (k : Nat) : (stripL (l.take k) y).length ≤ l.length := Nat.le_trans (List.length_filter_le _ _) (by rw [List.length_take]; omega)
theorem Sm.filter {l : List Hd} (h : Sm l) (p : Hd → Bool) : Sm (l.filter p) := ⟨Nat.le_trans (List.length_filter_le _ _) h.1, fun x hx => h.2 x ((List.mem_filter.1 hx).1)⟩
theorem OwnH.up {w w' : World} {base base' : Nat} {v : Value} {l : List Hd} (h : OwnH w base v l) (hb : base' ≤ base) (hw : w' = w) : OwnH w' base' v l := by
  subst hw
  unfold OwnH at *
  rcases h with ⟨h1, h2⟩
  refine ⟨h1, ?_⟩
  rcases h2 with h2 | ⟨g, cap, cur, e, hg, rest⟩
  · exact .inl h2
  · exact .inr ⟨g, cap, cur, e, Nat.le_trans hb hg, rest⟩

theorem lower_refL (z : List UInt8) (hz : z.length ≤ 1000) (q : List UInt8) (hq : lowS z = q) (w : World) : Calls Tryz.prog 79 #[.string ⟨z.toArray⟩] w fun e w' => e = .returned (.string ⟨q.toArray⟩) ∧ Below w.heap.size w w' :=
  lower_ref _ w (by rw [mk_size]; omega) q (by rw [mk_toList]; exact hq)
theorem mk_extract (z : List UInt8) (k : Nat) : (⟨z.toArray⟩ : ByteArray).extract 0 k = ⟨(z.take k).toArray⟩ := by
  apply ByteArray.ext
  rw [ByteArray.data_extract]
  simp

theorem hv_one (l : List Hd) : ∀ u ∈ hv l, u.oneCell' = true := by
  intro u hu
  simp only [hv, List.mem_flatMap, List.mem_cons, List.not_mem_nil, or_false] at hu
  obtain ⟨h, _, rfl | rfl⟩ := hu <;> rfl
set_option maxRecDepth 100000 in
/-- the chapter's Copy -/
theorem copy_ref (v : Value) (l : List Hd) (w : World) (hv : Hs w v l) (hs : l.length ≤ 1000) : Calls Tryz.prog 45 #[v] w fun e w' =>
    ∃ u, e = .returned u ∧ OwnH w' w.heap.size u l ∧ Below w.heap.size w w' := by
  obtain ⟨A, c, rfl, hc, hnil, hr⟩ := hv
  obtain ⟨i0, hi, hz0, hz1, hz2⟩ := info_parts infoH
  cases A with
  | none =>
    obtain rfl : c = 0 := hnil rfl
    obtain rfl : l = [] := List.eq_nil_of_length_eq_zero (by omega)
    go_enter Tryz.func45, Tryz.ntmps45
    go_wp2_with (at_builtin; refine wpList_append_own_none rfl (.tmp 4) (.tmp 5) 22 rfl w.heap.size 41 i0 2 Tryz.underlying22 hi _ 0 [] rfl (OwnH.nil w w.heap.size) rfl ?_)
    go_ret
    exact ⟨_, rfl, OwnH.nil _ _, Below.refl _ _⟩
  | some ad =>
    have hnews : ∀ j u, (hv l)[j]? = some u → w.cell? (ad.add j) = some u := fun j u hj => by
      obtain ⟨hlt, e⟩ := List.getElem?_eq_some_iff.1 hj
      obtain ⟨b, off, e1, _, hcell⟩ := hr j hlt
      injection e1 with e1
      subst e1
      rw [add_pl, hcell, e]
    have HR := Lib.hid hnews
    clear hnews hr
    go_enter Tryz.func45, Tryz.ntmps45
    go_wp2_with (at_builtin; refine wpList_append_own _ rfl (.tmp 4) (.tmp 5) 22 rfl w.heap.size 41 i0 (.agg #[.string ⟨#[]⟩, .string ⟨#[]⟩]) 2 32 Tryz.underlying22 hi hz0 hz1 hz2 rfl (by decide) _ 0 [] rfl (OwnH.nil w w.heap.size) ad l.length c (hv l) rfl (hv_len l) HR.out (hv_one l) (by unfold maxLen; omega) (by omega) (Nat.le_refl _) ?_; intro v3 w3 hown3 hg3 _)
    go_ret
    refine ⟨_, rfl, ?_, (Below.refl _ _).grown hg3 (Nat.le_refl _) (fun k hk => by cases hk)⟩
    unfold OwnH
    simpa using hown3

end Go.Proofs.YthniggdimfldhaaGreatDoor
namespace Go.Proofs.YthniggdimfldhaaGreatDoor
open Go Go.RowKit

/-- A slice of bytes, in a block from 'base' on. -/
def Bs (w : World) (base : Nat) (v : Value) (l : List UInt8) : Prop :=
  (v = .slice none 0 0 ∧ l = []) ∨ ∃ g c, v = .slice (some ⟨g, 0, none⟩) l.length c ∧ base ≤ g ∧ g < w.heap.size ∧ ∀ j (hj : j < l.length), w.cell? ⟨g, j, none⟩ = some (.int .u8 (l[j].toNat : Int))
theorem Bs.nil (w : World) (base : Nat) : Bs w base (.slice none 0 0) [] := .inl ⟨rfl, rfl⟩
theorem cell_heap {w w' : World} {g : Nat} (h : w'.heap[g]? = w.heap[g]?) (j : Nat) : w'.cell? ⟨g, j, none⟩ = w.cell? ⟨g, j, none⟩ := by unfold World.cell?; rw [h]
theorem Bs.below {w w' : World} {base : Nat} {v : Value} {l : List UInt8} (h : Bs w base v l) (hb : Below w.heap.size w w') : Bs w' base v l := by
  rcases h with h | ⟨g, c, e, hg, hl, hc⟩
  · exact .inl h
  · exact .inr ⟨g, c, e, hg, Nat.lt_of_lt_of_le hl hb.size, fun j hj => (hb.cell (p := ⟨g, j, none⟩) hl).trans (hc j hj)⟩
/-- Kept by what writes in one block below. -/
theorem Bs.but {w w' : World} {base : Nat} {v : Value} {l : List UInt8} (h : Bs w base v l) {r : Option Nat} (hg : w.grownBy w' r) (hr : ∀ k, r = some k → k < base) : Bs w' base v l := by
  rcases h with h | ⟨g, c, e, hb, hl, hc⟩
  · exact .inl h
  · have hk := hg.block g hl (fun e => by have := hr g e.symm; omega)
    exact .inr ⟨g, c, e, hb, Nat.lt_of_lt_of_le hl hg.size, fun j hj => (cell_heap hk j).trans (hc j hj)⟩
theorem Bs.conv {w : World} {base : Nat} {v : Value} {l : List UInt8} (h : Bs w base v l) : (convert 23 9 v).run Tryz.prog w = .ok (.string ⟨l.toArray⟩) w := by
  rcases h with ⟨rfl, rfl⟩ | ⟨g, c, rfl, _, _, hc⟩
  · exact Lib.run_convert_nil_bytes w 23 9 5 0 Tryz.underlying23 Tryz.underlying5 Tryz.underlying9
  · exact run_convert_bytes_back w 23 9 5 ⟨g, 0, none⟩ c l Tryz.underlying23 Tryz.underlying5 Tryz.underlying9 fun j hj => by rw [add_pl, Nat.zero_add, hc j hj]
theorem OwnB.bs {w : World} {base : Nat} {v : Value} {l : List UInt8} (h : OwnB w base v l) : Bs w base v l := by
  have h' := h
  rcases h.2 with ⟨rfl, h0⟩ | ⟨g, cap, cur, rfl, hb, hg, _, _, _, ht⟩
  · exact .inl ⟨rfl, List.eq_nil_of_length_eq_zero h0⟩
  · refine .inr ⟨g, cap, rfl, hb, (Array.getElem?_eq_some_iff.1 hg).1, fun j hj => ?_⟩
    have := World.ownsRow.cells h' (g := g) rfl j (.int .u8 (l[j].toNat : Int)) (by unfold Lib.byteCells; simp [hj])
    rw [add_pl, Nat.zero_add] at this
    exact this
theorem RowF.bs {w : World} {g n : Nat} {f : Nat → UInt8} (h : RowF w g n f) (c : Nat) (l : List UInt8) (hl : l.length = n) (hf : ∀ j (hj : j < l.length), f j = l[j]) (base : Nat) (hb : base ≤ g) : Bs w base (.slice (some ⟨g, 0, none⟩) n c) l := by
  subst hl
  exact .inr ⟨g, c, rfl, hb, h.lt, fun j hj => by rw [h.cell j hj, hf j hj]⟩

set_option maxRecDepth 100000 in
theorem eqBytes_ref (v u : Value) (a b : List UInt8) (m n : Nat) (w : World) (h1 : Bs w m v a) (h2 : Bs w n u b) : Calls Tryz.prog 11 #[v, u] w fun e w' => e = .returned (.bool (a == b)) ∧ w = w' := by
  have c1 := h1.conv
  have c2 := h2.conv
  clear h1 h2
  go_enter Tryz.func11, Tryz.ntmps11
  go_wp2_with fail
  go_ret
  exact ⟨rfl, rfl⟩

def byR (l : List Hd) : List UInt8 := if chkE l = 0 then bytesL l else []
theorem app_mk (a b : List UInt8) : (⟨a.toArray⟩ : ByteArray) ++ ⟨b.toArray⟩ = ⟨(a ++ b).toArray⟩ := by
  apply ByteArray.ext
  simp
theorem line_app (a p z : List UInt8) : (((⟨a.toArray⟩ : ByteArray) ++ ⟨p.toArray⟩ ++ ⟨#[58, 32]⟩) ++ ⟨z.toArray⟩) ++ ⟨#[13, 10]⟩ = ⟨(a ++ lineB (p, z)).toArray⟩ := by
  have e1 : (⟨#[58, 32]⟩ : ByteArray) = ⟨([58, 32] : List UInt8).toArray⟩ := rfl
  have e2 : (⟨#[13, 10]⟩ : ByteArray) = ⟨([13, 10] : List UInt8).toArray⟩ := rfl
  rw [e1, e2, app_mk, app_mk, app_mk, app_mk]
  unfold lineB
  simp only [List.append_assoc]
theorem bytesL_le : ∀ {l : List Hd}, (∀ h ∈ l, h.1.length ≤ 1000 ∧ h.2.length ≤ 1000) → (bytesL l).length ≤ l.length * 2004
  | [], _ => by simp [bytesL]
  | x :: l, h => by
    have i := bytesL_le (l := l) fun y hy => h y (List.mem_cons_of_mem _ hy)
    obtain ⟨h1, h2⟩ := h x List.mem_cons_self
    have e : bytesL (x :: l) = lineB x ++ bytesL l := rfl
    have : (lineB x).length = x.1.length + 2 + x.2.length + 2 := by simp [lineB]; omega
    rw [e, List.length_append, List.length_cons]
    omega
theorem bytesL_step {l : List Hd} {k : Nat} (hk : k < l.length) : bytesL (l.take (k + 1)) = bytesL (l.take k) ++ lineB (l[k].1, l[k].2) := by rw [← List.take_append_getElem hk, bytesL_snoc]

set_option maxRecDepth 100000 in
set_option maxHeartbeats 1000000 in
/-- the chapter's Bytes -/
theorem bytes_ref (v : Value) (l : List Hd) (w : World) (hv : Hs w v l) (hs : Sm l) : Calls Tryz.prog 53 #[v] w fun e w' =>
    ∃ u, e = .returned (.tuple #[u, .int .i64 (chkE l)]) ∧ Bs w' w.heap.size u (byR l) ∧ Below w.heap.size w w' := by
  have c1 := Lib.hid (check_ref v l w hv hs)
  obtain ⟨A, c, rfl, hc, _, hr⟩ := hv
  obtain ⟨hn, hsz⟩ := hs
  have HR := Lib.hid hr
  have HS := Lib.hid hsz
  clear hr hsz
  unfold byR
  by_cases h0 : chkE l = 0
  · rw [h0] at c1 ⊢
    rw [if_pos rfl]
    clear h0
    go_enter Tryz.func53, Tryz.ntmps53
    go_wp2_with fail
    go_at_call 36
    refine c1.out.mono ?_
    rintro e w1 ⟨rfl, rfl⟩
    go_wp2_with fail
    go_loopw [5, 6] (fun s i wr => ∃ k n : Nat, k ≤ l.length ∧ i = .int .i64 k ∧ s = .string ⟨(bytesL (l.take k)).toArray⟩ ∧ wr = w.drewN n) (fun _ i _ => l.length - (intOf i).toNat)
    case atStart => exact ⟨0, 0, Nat.zero_le _, rfl, rfl, rfl⟩
    case round =>
      obtain ⟨k, n, hk, rfl, rfl, rfl⟩ := hrel
      by_cases hlt : k < l.length
      · obtain ⟨b, o, rfl, hbl, h1, h2⟩ := HR.out.head k hlt
        have i1 : (0 : Int) ≤ k := by omega
        have i2 : (k : Int) < l.length := by omega
        have hst := Lib.hid (bytesL_step hlt)
        obtain ⟨z1, z2⟩ := HS.out l[k] (List.getElem_mem hlt)
        have hgl : (bytesL (l.take k)).length ≤ 2004000 := Nat.le_trans (bytesL_le fun h hh => HS.out h (List.mem_of_mem_take hh)) (by rw [List.length_take]; omega)
        generalize l[k].1 = p at *
        generalize l[k].2 = z at *
        generalize bytesL (l.take k) = g at *
        have hst2 := line_app g p z
        have s0 := mk_size g
        have s1 := mk_size p
        have s2 := mk_size z
        generalize hG : (⟨g.toArray⟩ : ByteArray) = G at *
        generalize hP : (⟨p.toArray⟩ : ByteArray) = P at *
        generalize hZ : (⟨z.toArray⟩ : ByteArray) = Z at *
        have a1 : ∀ w, (Op.stringOp .add G P).run Tryz.prog w = .ok (.string (G ++ P)) w := fun w => run_string_add_sum w G P (by omega)
        have t1 : (G ++ P).size = G.size + P.size := ByteArray.size_append
        generalize G ++ P = X1 at *
        have a2 : ∀ w, (Op.stringOp .add X1 ⟨#[58, 32]⟩).run Tryz.prog w = .ok (.string (X1 ++ ⟨#[58, 32]⟩)) w := fun w => run_string_add_sum w _ _ (by rw [t1, s0, s1]; show _ + 2 ≤ _; omega)
        have t2 : (X1 ++ ⟨#[58, 32]⟩).size = X1.size + 2 := ByteArray.size_append
        generalize X1 ++ ⟨#[58, 32]⟩ = X2 at *
        have a3 : ∀ w, (Op.stringOp .add X2 Z).run Tryz.prog w = .ok (.string (X2 ++ Z)) w := fun w => run_string_add_sum w _ _ (by omega)
        have t3 : (X2 ++ Z).size = X2.size + Z.size := ByteArray.size_append
        generalize X2 ++ Z = X3 at *
        have a4 : ∀ w, (Op.stringOp .add X3 ⟨#[13, 10]⟩).run Tryz.prog w = .ok (.string (X3 ++ ⟨#[13, 10]⟩)) w := fun w => run_string_add_sum w _ _ (by rw [t3, t2, t1, s0, s1, s2]; show _ + 2 ≤ _; omega)
        generalize X3 ++ ⟨#[13, 10]⟩ = X4 at *
        have hst2 := Lib.hid hst2
        clear t1 t2 t3 s0 s1 s2 hG hZ
        go_wp2
        go_quiet (fail)
        go_wp2
        go_roundw
        case rel => exact ⟨k + 1, _, by omega, by go_num, by rw [hst.out, ← hst2.out], rfl⟩
        case measure => simp [intOf]; omega
      · rw [List.take_of_length_le (by omega)] at *
        have hcv := bytes_conv (w.drewN n) ⟨(bytesL l).toArray⟩
        have hrow := bytesWorld_row (w.drewN n) ⟨(bytesL l).toArray⟩
        have hbel := bytesWorld_below (w.drewN n) ⟨(bytesL l).toArray⟩
        have hsz := mk_size (bytesL l)
        have hB := Lib.hid (hrow.bs (grownCap (w.drewN n) (⟨(bytesL l).toArray⟩ : ByteArray).size 0 5) (bytesL l) hsz.symm (fun j hj => by rw [mk_toList, List.getD_eq_getElem?_getD, List.getElem?_eq_getElem hj]; rfl) w.heap.size (Nat.le_refl _))
        have hbel' := Lib.hid hbel
        clear hrow hbel hsz
        generalize Lib.bytesWorld (w.drewN n) 5 ⟨(bytesL l).toArray⟩ = w1 at *
        generalize (⟨(bytesL l).toArray⟩ : ByteArray) = S at *
        go_wp2_with fail
        go_ret2
        exact ⟨_, rfl, hB.out, Below.and (below_drewN (Below.refl _ _) n) hbel'.out⟩
  · rw [if_neg h0]
    have hne : (chkE l != 0) = true := by simpa using h0
    generalize chkE l = q at *
    go_enter Tryz.func53, Tryz.ntmps53
    go_wp2_with fail
    go_at_call 36
    refine c1.out.mono ?_
    rintro e w1 ⟨rfl, rfl⟩
    go_wp2_with fail
    go_ret2
    exact ⟨_, rfl, Bs.nil _ _, Below.refl _ _⟩
end Go.Proofs.YthniggdimfldhaaGreatDoor
