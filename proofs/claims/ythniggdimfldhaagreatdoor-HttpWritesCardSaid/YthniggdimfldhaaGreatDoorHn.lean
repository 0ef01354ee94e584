/- Walks of the program's Check, Set, Bytes and Line. -/
import Derived.Test.YthniggdimfldhaaGreatDoorHm
import Derived.Lib.AppendStr
namespace Go.Proofs.YthniggdimfldhaaGreatDoor
open Go Go.RowKit

set_option maxRecDepth 100000 in
set_option maxHeartbeats 1000000 in
/-- the program's Check -/
theorem check_any (v : Value) (l : List Hd) (w : World) (hv : Hs w v l) (hs : Sm l) : Calls Tryz.prog 31 #[v] w fun e w' => e = .returned (.int .i64 (chkE l)) ∧ Below w.heap.size w w' := by
  obtain ⟨A, c, rfl, hc, _, hr⟩ := hv
  obtain ⟨hn, hsz⟩ := hs
  have HR := Lib.hid hr
  have HS := Lib.hid hsz
  clear hr hsz
  by_cases h16 : 16 < l.length
  · rw [chkE_long h16]
    go_enter Tryz.func31, Tryz.ntmps31
    go_wp2_with fail
    go_ret
    exact ⟨rfl, Below.refl _ _⟩
  go_enter Tryz.func31, Tryz.ntmps31
  go_wp2_with fail
  go_loopw [10] (fun i wr => ∃ k : Nat, k ≤ l.length ∧ i = .int .i64 k ∧ Hid ((l.take k).all okH = true) ∧ Below w.heap.size w wr) (fun i _ => l.length - (intOf i).toNat)
  case atStart => exact ⟨0, Nat.zero_le _, rfl, by show _ = _; simp, Below.refl _ _⟩
  case round =>
    obtain ⟨k, hk, rfl, hall, hb⟩ := hrel
    by_cases hlt : k < l.length
    · obtain ⟨b, o, rfl, hbl, h1, h2⟩ := (HR.out.below hb).head k hlt
      obtain ⟨z1, z2⟩ := HS.out l[k] (List.getElem_mem hlt)
      have i1 : (0 : Int) ≤ k := by omega
      have i2 : (k : Int) < l.length := by omega
      have hb2 := hb.alloc hb.size (.cells #[.string ⟨l[k].1.toArray⟩, .string ⟨l[k].2.toArray⟩] 41)
      cases q1 : isNm l[k].1 with
      | false =>
        have hfin := Lib.hid (chkE_stop h16 k hlt (by unfold okH; rw [q1]; rfl))
        have c1 := Lib.hid (isName_anyL l[k].1 z1 false q1)
        clear q1 hall
        generalize l[k].1 = y at *
        generalize l[k].2 = z at *
        go_wp2_with (go_at_call 58; refine (c1.out _).mono ?_; rintro e w1 ⟨rfl, rfl⟩)
        go_ret
        exact ⟨ret_int hfin.out.symm, hb2⟩
      | true =>
        have c1 := Lib.hid (isName_anyL l[k].1 z1 true q1)
        cases q2 : isVl l[k].2 with
        | false =>
          have hfin := Lib.hid (chkE_stop h16 k hlt (by unfold okH; rw [q1, q2]; rfl))
          have c2 := Lib.hid (isValue_anyL l[k].2 z2 false q2)
          clear q1 q2 hall
          generalize l[k].1 = y at *
          generalize l[k].2 = z at *
          go_wp2_with fail
          go_at_call 58
          refine (c1.out _).mono ?_
          rintro e w1 ⟨rfl, rfl⟩
          go_wp2_with fail
          go_at_call 59
          refine (c2.out _).mono ?_
          rintro e w1 ⟨rfl, rfl⟩
          go_wp2_with fail
          go_ret
          exact ⟨ret_int hfin.out.symm, hb2⟩
        | true =>
          have c2 := Lib.hid (isValue_anyL l[k].2 z2 true q2)
          have hall' : Hid ((l.take (k + 1)).all okH = true) := ok_step hlt hall.out (by unfold okH; rw [q1, q2]; rfl)
          clear q1 q2 hall
          generalize l[k].1 = y at *
          generalize l[k].2 = z at *
          go_wp2_with fail
          go_at_call 58
          refine (c1.out _).mono ?_
          rintro e w1 ⟨rfl, rfl⟩
          go_wp2_with fail
          go_at_call 59
          refine (c2.out _).mono ?_
          rintro e w1 ⟨rfl, rfl⟩
          go_wp2_with fail
          go_roundw
          case rel => exact ⟨k + 1, by omega, by go_num, hall', hb2⟩
          case measure => simp [intOf]; omega
    · have hfin := Lib.hid (chkE_full h16 (by have := hall.out; rwa [List.take_of_length_le (by omega)] at this))
      clear hall
      go_wp2_with fail
      go_ret
      exact ⟨ret_int hfin.out.symm, hb⟩

theorem clone_anyL (y z : List UInt8) (w : World) (hy : y.length ≤ 1000) (hz : z.length ≤ 1000) : Calls Tryz.prog 112 #[.agg #[.string ⟨y.toArray⟩, .string ⟨z.toArray⟩]] w fun e w' =>
    e = .returned (.agg #[.string ⟨y.toArray⟩, .string ⟨z.toArray⟩]) ∧ Below w.heap.size w w' := clone_any _ _ w (by rw [mk_size]; omega) (by rw [mk_size]; omega)

theorem wpList_pushS {ops : Array Oper} {rest : List Oper} {o : Oper} {a : Act} {Q : Exit → Act → World → Prop} (hgd : o.guard = none) (s x : Operand)
    (ho : o.op = .call { callee := .builtin .append, args := #[s, x], argTypes := #[23, 9] }) (w : World) (base : Nat) (v : Value) (l z : List UInt8)
    (hs : a.eval s = v) (hown : OwnB w base v l) (hx : a.eval x = .string ⟨z.toArray⟩) (hbase : base ≤ w.heap.size) (hlen : l.length + z.length ≤ 1000000000)
    (h : ∀ v' w', OwnB w' base v' (l ++ z) → Below base w w' → w.grownBy w' v.ownBlock → wpList Tryz.prog ops Q rest (a.put o.dst v') w') :
    wpList Tryz.prog ops Q (o :: rest) a w := by
  obtain ⟨i0, hi, hz0, hz1, hz2⟩ := info_parts info5
  have hsz := mk_size z
  refine Lib.wpList_append_own_string _ hgd s x 23 9 ho base 5 i0 Tryz.underlying23 Tryz.underlying9 hi hz0 hz1 hz2 v l.length (Lib.byteCells l) hs hown ⟨z.toArray⟩ hx (by unfold maxLen; omega) (by omega) hbase ?_
  intro v' w' ho' hg _
  refine h v' w' ?_ ?_ hg
  · unfold OwnB
    rw [List.length_append, ← hsz]
    have e : Lib.byteCells (l ++ z) = Lib.byteCells l ++ Lib.strCells ⟨z.toArray⟩ := by simp [Lib.byteCells, Lib.strCells]
    rw [e]
    exact ho'
  · exact (Below.refl base w).grown hg hbase (fun k hk => (World.ownsRow.lt hown k hk).1)

theorem BoxH.kept {W W' : World} {g : Nat} {x : Hd} {row : Option Nat} (h : BoxH W g x) (hg : W.grownBy W' row) (hne : some g ≠ row) : BoxH W' g x := (hg.block g h.lt hne).trans h
theorem BoxH.not_bytes {W : World} {g base : Nat} {x : Hd} {v : Value} {l : List UInt8} (h : BoxH W g x) (hr : OwnB W base v l) : some g ≠ v.ownBlock := by
  rcases hr.2 with ⟨rfl, _⟩ | ⟨g', cap, cur, rfl, _, hg, _⟩
  · simp [Value.ownBlock]
  · intro e
    obtain rfl : g = g' := by simpa [Value.ownBlock] using e
    rw [show W.heap[g]? = _ from h] at hg
    injection hg with hg
    injection hg with _ ht
    exact absurd ht (by decide)
theorem lineB_split (g p z : List UInt8) : (((g ++ p) ++ [58, 32]) ++ z) ++ [13, 10] = g ++ lineB (p, z) := by unfold lineB; simp only [List.append_assoc]
set_option maxRecDepth 100000 in
set_option maxHeartbeats 1000000 in
/-- the program's Bytes -/
theorem bytes_own (v : Value) (l : List Hd) (w : World) (hv : Hs w v l) (hs : Sm l) : Calls Tryz.prog 50 #[v] w fun e w' =>
    ∃ u, e = .returned (.tuple #[u, .int .i64 (chkE l)]) ∧ OwnB w' w.heap.size u (byR l) ∧ Below w.heap.size w w' := by
  have c1 := Lib.hid (check_any v l w hv hs)
  obtain ⟨A, c, rfl, hc, _, hr⟩ := hv
  obtain ⟨hn, hsz⟩ := hs
  have HR := Lib.hid hr
  have HS := Lib.hid hsz
  clear hr hsz
  unfold byR
  by_cases h0 : chkE l = 0
  · rw [h0] at c1 ⊢
    rw [if_pos rfl]
    clear h0
    go_enter Tryz.func50, Tryz.ntmps50
    go_wp2_with fail
    go_at_call 31
    refine c1.out.mono ?_
    rintro e w1 ⟨rfl, hb1⟩
    go_wp2_with fail
    go_loopw [5, 15] (fun s i wr => ∃ k : Nat, k ≤ l.length ∧ i = .int .i64 k ∧ OwnB wr w.heap.size s (bytesL (l.take k)) ∧ Below w.heap.size w wr) (fun _ i _ => l.length - (intOf i).toNat)
    case atStart => exact ⟨0, Nat.zero_le _, rfl, OwnB.nil _ _, hb1⟩
    case round =>
      obtain ⟨k, hk, rfl, hown, hb⟩ := hrel
      by_cases hlt : k < l.length
      · obtain ⟨b, o, rfl, hbl, h1, h2⟩ := (HR.out.below hb).head k hlt
        have i1 : (0 : Int) ≤ k := by omega
        have i2 : (k : Int) < l.length := by omega
        have hst := Lib.hid (bytesL_step hlt)
        obtain ⟨z1, z2⟩ := HS.out l[k] (List.getElem_mem hlt)
        have hgl : (bytesL (l.take k)).length ≤ 2004000 := Nat.le_trans (bytesL_le fun h hh => HS.out h (List.mem_of_mem_take hh)) (by rw [List.length_take]; omega)
        generalize l[k].1 = p at *
        generalize l[k].2 = z at *
        generalize bytesL (l.take k) = g at *
        have hx : BoxH (wr.alloc (.cells #[.string ⟨p.toArray⟩, .string ⟨z.toArray⟩] 41)) wr.heap.size (p, z) := heap_alloc_new _ _
        have hown1 := OwnB.below hown (below_new wr (.cells #[.string ⟨p.toArray⟩, .string ⟨z.toArray⟩] 41))
        have hb2 := hb.alloc hb.size (.cells #[.string ⟨p.toArray⟩, .string ⟨z.toArray⟩] 41)
        have d1 := hx.c0
        have HX := Lib.hid hx
        clear hx hown hb
        have l0 : g.length + p.length ≤ 1000000000 := by omega
        have l1 : (g ++ p).length + ([58, 32] : List UInt8).length ≤ 1000000000 := by simp; omega
        have l2 : ((g ++ p) ++ [58, 32]).length + z.length ≤ 1000000000 := by simp; omega
        have l3 : (((g ++ p) ++ [58, 32]) ++ z).length + ([13, 10] : List UInt8).length ≤ 1000000000 := by simp; omega
        go_wp2_with (first
          | (at_builtin; refine wpList_pushS rfl (.tmp 19) (.tmp 21) rfl _ w.heap.size _ g p rfl hown1 rfl hb2.size l0 ?_; intro v3 w3 hown3 hb3 hg3; have hx3 := Lib.hid (HX.out.kept hg3 (HX.out.not_bytes hown1)); have hB3 := hb2.trans hb3)
          | (at_builtin; refine wpList_pushS rfl (.tmp 23) (.const (.string ⟨#[58, 32]⟩)) rfl _ w.heap.size _ (g ++ p) [58, 32] rfl hown3 rfl hB3.size l1 ?_; intro v4 w4 hown4 hb4 hg4; have hx4 := hx3.out.kept hg4 (hx3.out.not_bytes hown3); have d2 := hx4.c1; have hB4 := hB3.trans hb4)
          | (at_builtin; refine wpList_pushS rfl (.tmp 25) (.tmp 27) rfl _ w.heap.size _ _ z rfl hown4 rfl hB4.size l2 ?_; intro v5 w5 hown5 hb5 _; have hB5 := hB4.trans hb5)
          | (at_builtin; refine wpList_pushS rfl (.tmp 29) (.const (.string ⟨#[13, 10]⟩)) rfl _ w.heap.size _ _ [13, 10] rfl hown5 rfl hB5.size l3 ?_; intro v6 w6 hown6 hb6 _))
        rw [lineB_split] at hown6
        go_roundw
        case rel => exact ⟨k + 1, by omega, by go_num, by rw [hst.out]; exact hown6, hB5.trans hb6⟩
        case measure => simp [intOf]; omega
      · rw [List.take_of_length_le (by omega)] at *
        go_wp2_with fail
        go_ret2
        exact ⟨_, rfl, hown, hb⟩
  · rw [if_neg h0]
    have hne : (chkE l != 0) = true := by simpa using h0
    generalize chkE l = q at *
    go_enter Tryz.func50, Tryz.ntmps50
    go_wp2_with fail
    go_at_call 31
    refine c1.out.mono ?_
    rintro e w1 ⟨rfl, hb1⟩
    go_wp2_with fail
    go_ret2
    exact ⟨_, rfl, OwnB.nil _ _, hb1⟩
theorem bytes_any (v : Value) (l : List Hd) (w : World) (hv : Hs w v l) (hs : Sm l) : Calls Tryz.prog 50 #[v] w fun e w' =>
    ∃ u, e = .returned (.tuple #[u, .int .i64 (chkE l)]) ∧ Bs w' w.heap.size u (byR l) ∧ Below w.heap.size w w' :=
  (bytes_own v l w hv hs).mono fun _ _ ⟨u, h1, h2, h3⟩ => ⟨u, h1, h2.bs, h3⟩
end Go.Proofs.YthniggdimfldhaaGreatDoor
