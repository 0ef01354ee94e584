/- The law LatticeBroken. -/
import Derived.Test.YtaikhdmgcffflaaDoorVl
namespace Go.Proofs.YtaikhdmgcffflaaDoor
open Go Go.RowKit

theorem broken_n (n : Nat) (h2 : 2 ≤ n) (h8 : n ≤ 8) : mkE (nmL (n + 1)) (roofL n) = 30 ∧ mkE (nmL (n + 1)) (floorL n) = 30 ∧ mkE (nmL n) (roundL n n) = 20 ∧ mkE (nmL n) (roundL n (n - 1) ++ [(1, 1)]) = 20 ∧ mkE (nmL (n % 8 + 2)) (chainL (n % 8 + 1)) = 0 := by
  obtain ⟨q, rfl⟩ : ∃ q, n = q + 2 := ⟨n - 2, by omega⟩
  exact broken_all ⟨q, by omega⟩
theorem pvI_take (L : List (Int × Int)) : ∀ m, (pvI L).take (m * 2) = pvI (L.take m) := by
  induction L with
  | nil => intro m; simp [pvI]
  | cons p L ih =>
    intro m
    cases m with
    | zero => simp [pvI]
    | succ m =>
      have e : pvI (p :: L) = [.int .i64 p.1, .int .i64 p.2] ++ pvI L := by simp [pvI]
      rw [e, List.take_succ_cons, show pvI (p :: L.take m) = [.int .i64 p.1, .int .i64 p.2] ++ pvI (L.take m) by simp [pvI], ← ih m, show (m + 1) * 2 = 2 + m * 2 by omega, List.take_append, List.take_of_length_le (by simp)]
      simp
theorem roundL_take (n m k : Nat) (h : m ≤ k) : (roundL n k).take m = roundL n m := by
  unfold roundL
  rw [← List.map_take, List.take_range, Nat.min_eq_left h]
theorem row_below {w W : World} {base size n : Nat} {e : TypeId} {v : Value} {xs : List Value} (h : w.ownsRow base e size v n xs) (hb : Below w.heap.size w W) : W.ownsRow base e size v n xs :=
  h.kept (grownBy_below hb none) (Classical.em _)

theorem names_stay {W W' : World} {base base' n m : Nat} {u v : Value} {xs ys : List Value} (hv : W.ownsRow base 9 1 v n xs) (hr : W.ownsRow base' 41 2 u m ys) (hg : W.grownBy W' u.ownBlock) : W'.ownsRow base 9 1 v n xs := by
  refine hv.kept hg ?_
  rcases hr.2 with ⟨rfl, _⟩ | ⟨g, cap, cur, rfl, _, hk, _⟩
  · exact Classical.em _
  · exact .inr (row_ne hv hk (by decide))
theorem pvI_one (L : List (Int × Int)) (x y : Int) : pvI (L ++ [(x, y)]) = pvI L ++ [.int .i64 x, .int .i64 y] := by simp [pvI]
theorem fails_len (A0 : Option Addr) (c0 : Nat) (N : List (List UInt8)) (A1 : Option Addr) (c1 : Nat) (L : List (Int × Int)) (l : Nat) (hl : L.length = l) (want : Int) (w : World) (hT : Tab w) (hR : Rd w A0 (sv N)) (hc : N.length ≤ c0) (hnl : N.length ≤ 1000000) (hL : ∀ y ∈ N, y.length ≤ maxLen) (hP : Rd w A1 (pvI L)) (hll : l ≤ 1000)
    (hw : want ≠ 0) (hm : mkE N L = want) :
    Calls Tryd.prog 16 #[.slice A0 N.length c0, .slice A1 l c1, .int .i64 want] w fun e w' => e = .returned (.bool true) ∧ Below w.heap.size w w' := by
  subst hl
  exact fails_yes A0 c0 N A1 c1 L want w hT hR hc hnl hL hP hll hw hm
theorem names_len (n : Nat) (hn : n ≤ 10) (x : Int) (hx : (n : Int) = x) (w : World) : Calls Tryd.prog 17 #[.int .i64 x] w fun e w' => ∃ v, e = .returned v ∧ w'.ownsRow w.heap.size 9 1 v (nmL n).length (sv (nmL n)) ∧ Below w.heap.size w w' := by
  subst hx
  exact names_any n hn w

theorem step_append_at {P : Program} (w : World) {ops : Array Oper} {o : Oper} {a : Act} {K : Act → World → Prop} {Q : Exit → Act → World → Prop} {E : Prop} (hw : Region.wanted o (yielded ops a.tmps) = true) (s x : Operand) (t : TypeId)
    (ho : o.op = .call { callee := .builtin .append, args := #[s, x], argTypes := #[t, t] })
    (base : Nat) (e : TypeId) (i : TypeInfo) (z : Value) (size bytes : Nat) (ht : P.underlying t = some (.slice e)) (hi : P.info? e = some i) (hz : i.zero = some z)
    (hsize : i.size = size) (hby : i.bytes = bytes) (hzs : z.cells.size = size) (hsz : 0 < size)
    (v : Value) (n : Nat) (xs : List Value) (hs : a.eval s = v) (hown : w.ownsRow base e size v n xs)
    (ad : Addr) (m c : Nat) (news : List Value) (hx : a.eval x = .slice (some ad) m c) (hl : news.length = m * size) (hnews : ∀ j u, news[j]? = some u → w.cell? (ad.add j) = some u) (h1 : ∀ u ∈ news, u.oneCell' = true)
    (hm : 0 < m) (h63 : n + m ≤ maxLen) (hbytes : (n + m) * bytes ≤ 140737488355328) (hbase : base ≤ w.heap.size) (H : Nat) (hH : w.heap.size = H)
    (h : ∀ g cap w', w'.ownsRow base e size (.slice (some ⟨g, 0, none⟩) (n + m) cap) (n + m) (xs ++ news) → w.grownBy w' v.ownBlock → (v.ownBlock = some g ∨ g = H) → g < w'.heap.size → K (a.put o.dst (.slice (some ⟨g, 0, none⟩) (n + m) cap)) w') :
    if Region.wanted o (yielded ops a.tmps) = true then Oper.wp P o a w K Q else E := by
  rw [if_pos hw]
  exact wp_append_lies w s x t ho base e i z size bytes ht hi hz hsize hby hzs hsz v n xs hs hown ad m c news hx hl hnews h1 hm h63 hbytes hbase H hH h

set_option maxHeartbeats 2000000 in
set_option maxRecDepth 100000 in
theorem latticeBroken_any (many : Int) (w : World) (hT : Tab w) : Calls Tryd.prog 4 #[.int .i64 many] w fun e w' => e = .returned (.bool true) ∧ Below w.heap.size w w' := by
  obtain ⟨i0, hi, hz0, hz1, hz2⟩ := info_parts info31
  have hbr := bring_lt many (n := 7) (by decide)
  obtain ⟨n, hn⟩ : ∃ n, n = bring many 7 + 2 := ⟨_, rfl⟩
  have HE : Hid ((2 : Int) + (bring many 7 : Nat) = (n : Nat)) := by show _ = _; omega
  have h2 : 2 ≤ n := by omega
  have h8 : n ≤ 8 := by omega
  have hbk := Lib.hid (broken_n n h2 h8)
  have HT := Lib.hid hT
  clear hT hn
  go_enter Tryd.func4, Tryd.ntmps4
  go_wp2_with fail
  refine (bring_any many 7 (by decide) (by decide) w).mono ?_
  rintro e w' ⟨rfl, rfl⟩
  go_wp2_with fail
  rw [HE.out]
  clear hbr HE
  go_loopw [4, 5, 6] (fun u v i wr => ∃ k : Nat, k ≤ n ∧ i = .int .i64 ((k + 1 : Nat) : Int) ∧ wr.ownsRow w.heap.size 41 2 u (roofL k).length (pvI (roofL k)) ∧ wr.ownsRow w.heap.size 41 2 v (floorL k).length (pvI (floorL k)) ∧ Apart u v ∧ Below w.heap.size w wr) (fun _ _ i _ => n + 1 - (intOf i).toNat)
  case atStart => exact ⟨0, Nat.zero_le _, rfl, World.ownsRow_nil _ _ _ _, World.ownsRow_nil _ _ _ _, Apart.nil _, Below.refl _ _⟩
  case round =>
    obtain ⟨k, hk, rfl, hu, hv, ha, hb⟩ := hrel
    by_cases hlt : k < n
    · have c1 : ((k + 1 : Nat) : Int) ≤ n := by omega
      have hrs := Lib.hid (roofL_succ k)
      have hfs := Lib.hid (floorL_succ k)
      have HU := Lib.hid hu
      have HV := Lib.hid hv
      have HA := Lib.hid ha
      have hl1 := roofL_len k
      have hl2 := floorL_len k
      have HL1 : Hid ((roofL k).length ≤ 1000000000) := by show _ ≤ _; omega
      have HL2 : Hid ((floorL k).length ≤ 1000000000) := by show _ ≤ _; omega
      clear hu hv ha hl1 hl2
      go_wp2_with (first
        | (at_builtin; refine wpList_pushP rfl (.tmp 19) (.tmp 22) rfl wr w.heap.size u4 (roofL k) 0 ((k + 1 : Nat) : Int) rfl HU.out rfl hb.size HL1.out ?_; intro v3 w3 hown3 hb3 hg3 hat3; have hf3 := row_stays HV.out HA.out hg3; have ha3 := apart_next HV.out HA.out hat3; have HO3 := Lib.hid hown3; have HF3 := Lib.hid hf3; have HA3 := Lib.hid ha3; clear hown3 hg3 hat3 hf3 ha3)
        | (at_builtin; refine wpList_pushP rfl (.tmp 24) (.tmp 27) rfl w3 w.heap.size u5 (floorL k) ((k + 1 : Nat) : Int) 0 rfl HF3.out rfl (Nat.le_trans hb.size hb3.size) HL2.out ?_; intro v4 w4 hown4 hb4 hg4 hat4; have hf4 := row_stays HO3.out HA3.out.symm hg4; have ha4 := apart_next HO3.out HA3.out.symm hat4; have HO4 := Lib.hid hown4; have HF4 := Lib.hid hf4; have HA4 := Lib.hid ha4; clear hown4 hg4 hat4 hf4 ha4))
      go_roundw
      case rel => exact ⟨k + 1, by omega, by go_num, by rw [hrs.out]; exact HF4.out, by rw [hfs.out]; exact HO4.out, HA4.out.symm, (hb.trans hb3).trans hb4⟩
      case measure => simp [intOf]; omega
    · obtain rfl : k = n := by omega
      obtain ⟨A1, c1, rfl, _, hr1⟩ := own_cap hu
      obtain ⟨A2, c2, rfl, _, hr2⟩ := own_cap hv
      have HR1 := Lib.hid hr1
      have HR2 := Lib.hid hr2
      have HRL := Lib.hid (roofL_len k)
      have HFL := Lib.hid (floorL_len k)
      have hdk : decide ((k : Int) + 1 ≤ k) = false := decide_eq_false (by omega)
      clear hu hv ha hr1 hr2
      have B0 := below_new wr (.cells (pvI twoL).toArray 41)
      have R3 := Rd.made wr (pvI twoL) 41
      have c1n := names_any (k + 1) (by omega) (wr.alloc (.cells (pvI twoL).toArray 41))
      rw [show ((k + 1 : Nat) : Int) = (k : Int) + 1 by simp] at c1n
      have C1N := Lib.hid c1n
      have HR3 := Lib.hid R3
      clear c1n R3
      go_wp2_with fail
      refine Calls.mono C1N.out ?_
      rintro e w4 ⟨vn, rfl, hvn, hb4⟩
      obtain ⟨An, cn, rfl, hcn, hrn⟩ := own_cap hvn
      have B4 := Below.and B0 hb4
      have T4 := HT.out.below (hb.trans (B4.mono hb.size)) HT.out.lt
      have con := Lib.hid (fails_yes An cn (nmL (k + 1)) A1 c1 (roofL k) 30 w4 T4 hrn hcn (by rw [nmL_len]; omega) (nm_small _) (HR1.out.below B4) (by rw [HRL.out]; omega) (by decide) hbk.out.1)
      have D4 := hb4
      clear hvn hrn T4 B0 C1N hb4
      go_wp2_with fail
      refine Calls.mono con.out ?_
      rintro e w5 ⟨rfl, hb5⟩
      have B5 := Below.and B4 hb5
      have D5 := Below.and D4 hb5
      clear con hb5 B4 D4
      have c1n := names_any (k + 1) (by omega) w5
      rw [show ((k + 1 : Nat) : Int) = (k : Int) + 1 by simp] at c1n
      have C1N := Lib.hid c1n
      clear c1n
      go_wp2_with fail
      refine Calls.mono C1N.out ?_
      rintro e w6 ⟨vn, rfl, hvn, hb6⟩
      obtain ⟨An2, cn2, rfl, hcn2, hrn⟩ := own_cap hvn
      have B6 := Below.and B5 hb6
      have D6 := Below.and D5 hb6
      clear D5
      have T6 := HT.out.below (hb.trans (B6.mono hb.size)) HT.out.lt
      have con := Lib.hid (fails_yes An2 cn2 (nmL (k + 1)) A2 c2 (floorL k) 30 w6 T6 hrn hcn2 (by rw [nmL_len]; omega) (nm_small _) (HR2.out.below B6) (by rw [HFL.out]; omega) (by decide) hbk.out.2.1)
      clear hvn hrn T6 B5 C1N hb6
      go_wp2_with fail
      refine Calls.mono con.out ?_
      rintro e w7 ⟨rfl, hb7⟩
      have B7 := Below.and B6 hb7
      have D7 := Below.and D6 hb7
      clear con hb7 B6 D6
      have C1N := Lib.hid (names_any 6 (by decide) w7)
      go_wp2_with fail
      refine Calls.mono C1N.out ?_
      rintro e w8 ⟨vn, rfl, hvn, hb8⟩
      obtain ⟨An3, cn3, rfl, hcn3, hrn⟩ := own_cap hvn
      have B8 := Below.and B7 hb8
      have T8 := HT.out.below (hb.trans (B8.mono hb.size)) HT.out.lt
      have hA := Below.and D7 hb8
      clear D7
      have con := fails_yes An3 cn3 (nmL 6) _ 8 twoL 30 w8 T8 hrn hcn3 (by rw [nmL_len]; omega) (nm_small _) (HR3.out.below hA) (by decide) (by decide) two_mk
      change Calls _ _ #[_, .slice _ 8 8, _] _ _ at con
      have CON := Lib.hid con
      clear con hvn hrn T8 B7 C1N hb8 hA
      go_wp2_with fail
      refine Calls.mono CON.out ?_
      rintro e w9 ⟨rfl, hb9⟩
      have B9 := hb.trans ((Below.and B8 hb9).mono hb.size)
      clear CON hb9 B8 HR1 HR2 HR3 hb
      have T9 := HT.out.below B9 HT.out.lt
      have con := Lib.hid (made_chain k (k % 8) (by unfold bring; omega) hbk.out.2.2.2.2 w9 T9)
      clear T9
      go_wp2_with fail
      refine Calls.mono con.out ?_
      rintro e wa ⟨⟨b, rfl⟩, hba⟩
      have Ba := B9.trans (hba.mono B9.size)
      clear con hba B9
      obtain ⟨n, rfl⟩ : ∃ n, n = k := ⟨_, rfl⟩
      go_wp2_with fail
      go_loopw [9, 10] (fun u i wr => ∃ j : Nat, j ≤ n ∧ i = .int .i64 j ∧ wr.ownsRow w.heap.size 41 2 u (roundL n j).length (pvI (roundL n j)) ∧ Below w.heap.size w wr) (fun _ i _ => n - (intOf i).toNat)
      case atStart => exact ⟨0, Nat.zero_le _, rfl, World.ownsRow_nil _ _ _ _, Ba⟩
      case round =>
        obtain ⟨j, hj, rfl, hu, hbj⟩ := hrel
        clear Ba
        obtain ⟨wp, rfl⟩ : ∃ wp : World, wp = wr := ⟨_, rfl⟩
        by_cases hjl : j < n
        · have hrl := roundL_len n j
          have HL1 : Hid ((roundL n j).length ≤ 1000000000) := by show _ ≤ _; omega
          have hsu := Lib.hid (roundL_succ n j)
          have m1 : ((j : Int) + 1).tmod n = (((j + 1) % n : Nat) : Int) := by
            rw [Int.tmod_eq_emod_of_nonneg (by omega)]; simp
          have q0 : ¬ n = 0 := by omega
          have q1 : ((n : Int) == 0) = false := by rw [beq_eq_false_iff_ne]; omega
          have q2 : ((n : Int) == -1) = false := by rw [beq_eq_false_iff_ne]; omega
          generalize (((j + 1) % n : Nat) : Int) = y at *
          clear hrl
          go_wp2_with (at_builtin; refine wpList_pushP rfl (.tmp 68) (.tmp 75) rfl wp w.heap.size _ (roundL n j) j y rfl hu rfl hbj.size HL1.out ?_; intro v3 w3 hown3 hb3 _ _)
          rw [← hsu.out] at hown3
          go_roundw
          case rel => exact ⟨j + 1, by omega, by go_num, hown3, hbj.trans hb3⟩
          case measure => simp [intOf]; omega
        · obtain rfl : j = n := by omega
          obtain ⟨m, hm⟩ : ∃ m, j = m + 1 := ⟨j - 1, by omega⟩
          have hk3 := Lib.hid hbk.out.2.2.1
          have hk4 := Lib.hid hbk.out.2.2.2.1
          rw [show j - 1 = m by omega, hm] at hk4
          rw [hm] at hk3
          rw [roundL_len] at hu
          clear hbk
          subst hm
          obtain ⟨Ar, cr, rfl, hcr, hrr⟩ := own_cap hu
          have HU := Lib.hid hu
          have HRR := Lib.hid hrr
          have HB := Lib.hid hbj
          have k1 : (0 : Int) ≤ m := by omega
          have k2 : (m : Int) ≤ cr := by omega
          have wm : IntKind.i64.wrap (m : Int) = m := wrap_i64_small m (by omega)
          have hm0 : 0 < m := by omega
          have hxi : (((m + 1 : Nat)) : Int) = (m : Int) + 1 := by simp
          clear hu hrr hbj
          go_wp2_with fail
          go_region_held3 (fun _ => True) (first | trivial | go_keep)
            (first
              | (go_at_call 9; have b9 := B9; refine (works_any _ (HT.out.below b9 HT.out.lt)).mono ?_; rintro e wz ⟨rfl, hbz⟩; have BZ : Below w.heap.size w wz := b9.trans (hbz.mono b9.size))
              | (go_at_call 16; have b8 := B8; refine (fails_len An2 cn2 (nmL (m + 1)) (some ⟨g, 0, none⟩) cap (roundL (m + 1) m ++ [(1, 1)]) (m + 1) (by simp [roundL_len]) 20 _ (HT.out.below b8 HT.out.lt) hn8 hcn2 (by rw [nmL_len]; omega) (nm_small _) hr8 (by omega) (by decide) hk4.out).mono ?_; rintro e w9 ⟨rfl, hb9⟩; have B9 : Below w.heap.size w w9 := b8.trans (hb9.mono b8.size))
              | (refine step_append_at _ (by rfl) (.tmp 87) (.tmp 89) 23 rfl w.heap.size 41 i0 (.agg #[.int .i64 0, .int .i64 0]) 2 16 Tryd.underlying23 hi hz0 hz1 hz2 rfl (by decide) (.slice Ar m cr) m (pvI (roundL (m + 1) m)) rfl (OF.alloc (.cells #[.int .i64 1, .int .i64 1] 41)) ⟨w7.heap.size, 0, none⟩ 1 1 [.int .i64 1, .int .i64 1] rfl rfl (World.news_of_block (heap_alloc_new w7 (.cells #[.int .i64 1, .int .i64 1] 41))) (by simp [Value.oneCell']) (by decide) (by unfold maxLen; omega) (by omega) (by have := B7.size; simp; omega) _ rfl ?_; intro g cap w8 hown8 hgrow8 _ _; have hg8 : (w7.alloc (.cells #[.int .i64 1, .int .i64 1] 41)).grownBy w8 (Value.slice Ar m cr).ownBlock := ⟨hgrow8.os, hgrow8.tape, hgrow8.output, hgrow8.size, hgrow8.block⟩; have B8 : Below w.heap.size w w8 := (B7.alloc B7.size _).grown hg8 (by have := B7.size; simp; omega) (fun q hq => (World.ownsRow.lt OF q hq).1); have hv8 := names_stay (hvn2.alloc (.cells #[.int .i64 1, .int .i64 1] 41)) (OF.alloc (.cells #[.int .i64 1, .int .i64 1] 41)) hg8; obtain ⟨A9, c9, e9, hn8⟩ := Rd.own hv8; cases e9; rw [← pvI_one] at hown8; obtain ⟨A9, c9, e9, hr8⟩ := Rd.own hown8; cases e9)
              | (refine step_append_at _ (by rfl) (.tmp 87) (.tmp 89) 23 rfl w.heap.size 41 i0 (.agg #[.int .i64 0, .int .i64 0]) 2 16 Tryd.underlying23 hi hz0 hz1 hz2 rfl (by decide) (.slice Ar m cr) m (pvI (roundL (m + 1) m)) rfl (OF) ⟨w6.heap.size, 0, none⟩ 1 1 [.int .i64 1, .int .i64 1] rfl rfl (World.news_of_block NB) (by simp [Value.oneCell']) (by decide) (by unfold maxLen; omega) (by omega) (by have := B7.size; omega) _ rfl ?_; intro g cap w8 hown8 hgrow8 _ _; have hg8 : w7.grownBy w8 (Value.slice Ar m cr).ownBlock := ⟨hgrow8.os, hgrow8.tape, hgrow8.output, hgrow8.size, hgrow8.block⟩; have B8 : Below w.heap.size w w8 := B7.grown hg8 B7.size (fun q hq => (World.ownsRow.lt OF q hq).1); have hv8 := names_stay hvn2 OF hg8; obtain ⟨A9, c9, e9, hn8⟩ := Rd.own hv8; cases e9; rw [← pvI_one] at hown8; obtain ⟨A9, c9, e9, hr8⟩ := Rd.own hown8; cases e9)
              | (go_at_call 17; have b6 := B6; refine (names_len (m + 1) (by omega) _ hxi _).mono ?_; rintro e w7 ⟨vn2, rfl, hvn2, hbn2⟩; obtain ⟨An2, cn2, rfl, hcn2, hrn2⟩ := own_cap hvn2; have B7 : Below w.heap.size w w7 := b6.trans (hbn2.mono b6.size); have R7 := row_below R6 hbn2; have OF := own_first R7 (Nat.le_succ m) hm0; rw [pvI_take, roundL_take _ _ _ (Nat.le_succ m)] at OF)
              | (go_at_call 17; have b6 := B6; refine (names_len (m + 1) (by omega) _ hxi _).mono ?_; rintro e w7 ⟨vn2, rfl, hvn2, hbn2⟩; obtain ⟨An2, cn2, rfl, hcn2, hrn2⟩ := own_cap hvn2; have B7 : Below w.heap.size w w7 := (b6.alloc b6.size _).trans (hbn2.mono (by have := b6.size; simp; omega)); have R7 := row_below (R6.alloc (.cells #[.int .i64 1, .int .i64 1] 41)) hbn2; have NB := (hbn2.block w6.heap.size (by simp)).trans (heap_alloc_new w6 (.cells #[.int .i64 1, .int .i64 1] 41)); have OF := own_first R7 (Nat.le_succ m) hm0; rw [pvI_take, roundL_take _ _ _ (Nat.le_succ m)] at OF)
              | (go_at_call 16; refine (fails_len An cn (nmL (m + 1)) Ar cr (roundL (m + 1) (m + 1)) (m + 1) (roundL_len _ _) 20 _ (HT.out.below B5 HT.out.lt) hrn hcn (by rw [nmL_len]; omega) (nm_small _) (HRR.out.below P5) (by omega) (by decide) hk3.out).mono ?_; rintro e w6 ⟨rfl, hb6⟩; have B6 : Below w.heap.size w w6 := B5.trans (hb6.mono B5.size); have R6 := row_below HU.out (show Below wp.heap.size wp w6 from P5.trans (hb6.mono P5.size)))
              | (go_at_call 17; refine (names_len (m + 1) (by omega) _ hxi _).mono ?_; rintro e w5 ⟨vn, rfl, hvn, hbn⟩; obtain ⟨An, cn, rfl, hcn, hrn⟩ := own_cap hvn; have B5 : Below w.heap.size w w5 := HB.out.drew.trans (hbn.mono HB.out.size); have P5 : Below wp.heap.size wp w5 := (Below.refl _ wp).drew.trans hbn))
          all_goals (go_wp2_with fail; go_ret; exact ⟨rfl, BZ⟩)
end Go.Proofs.YtaikhdmgcffflaaDoor
