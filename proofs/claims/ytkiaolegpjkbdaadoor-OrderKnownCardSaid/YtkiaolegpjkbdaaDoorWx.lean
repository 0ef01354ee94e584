/- The law OrderPlays. -/
import Derived.Test.YtkiaolegpjkbdaaDoorWw
namespace Go.Proofs.YtkiaolegpjkbdaaDoor
open Go Go.RowKit Go.Shelf

/-- What Add answers, and what is said behind it. -/
def code (n : Nat) (T : List (Nat × Nat)) (x y : Int) : Int := if isEl n x && isEl n y then if le (ofL T) y.toNat x.toNat then 20 else 0 else 9
def nextL (n : Nat) (T : List (Nat × Nat)) (x y : Int) : List (Nat × Nat) := if isEl n x && isEl n y then if le (ofL T) y.toNat x.toNat then T else T ++ [(x.toNat, y.toNat)] else T
theorem next_took {n : Nat} {T : List (Nat × Nat)} (h : Took n T) (x y : Int) : Took n (nextL n T x y) := by
  unfold nextL
  split
  · rename_i he
    split
    · exact h
    · rename_i hl
      simp only [Bool.and_eq_true, isEl, decide_eq_true_eq] at he
      exact h.snoc_of (by omega) (by omega) (by simpa using hl)
  · exact h
theorem next_len {n : Nat} (T : List (Nat × Nat)) (x y : Int) : (nextL n T x y).length ≤ T.length + 1 := by
  unfold nextL
  split
  · split
    · omega
    · simp
  · omega
theorem Took.fine {n : Nat} {T : List (Nat × Nat)} (h : Took n T) (h1 : 1 ≤ n) (h2 : n ≤ 16) (hl : T.length ≤ 1000) : Fine n T := ⟨h1, h2, h.mem, hl⟩
theorem ord_ne {W : World} {b n base bm n' : Nat} {A : Nat → Nat} {v : Value} {L : List (Nat × Nat)} (h : IsOrd W b n A) (m : Ref W base bm n' v L) : b ≠ bm := by
  rintro rfl
  have h1 : W.heap[b]? = _ := h
  rw [m.blk] at h1
  injection h1 with h1
  injection h1 with _ h1 _
  cases h1
theorem Ref.other {W W' : World} {base bm n c : Nat} {v : Value} {L : List (Nat × Nat)} (m : Ref W base bm n v L) (hg : W.grownBy W' (some c)) (hne : c ≠ bm) {n' : Nat} {A : Nat → Nat} (ho : IsOrd W c n' A) : Ref W' base bm n v L :=
  ⟨(hg.block bm m.lt (by simp; omega)).trans m.blk, m.row.kept hg (.inr (row_ne m.row ho (by decide)))⟩

section
variable {w W : World} {b bm n : Nat} {v : Value} {T : List (Nat × Nat)}
theorem add_gen (S : OSt w b n (ofL T) W) (M : Ref W w.heap.size bm n v T) (hT : Tab w) (f : Fine n T) (x y : Int) :
    Calls Tryd.prog 12 #[.pointer (some ⟨b, 0, none⟩), .int .i64 x, .int .i64 y] W fun e W' => e = .returned (.int .i64 (code n T x y)) ∧ OSt w b n (ofL (nextL n T x y)) W' ∧ Ref W' w.heap.size bm n v T := by
  by_cases h : (0 ≤ x ∧ x < n) ∧ (0 ≤ y ∧ y < n)
  · obtain ⟨k, rfl, hk⟩ := isEl_nat h.1
    obtain ⟨j, rfl, hj⟩ := isEl_nat h.2
    cases hle : le (ofL T) j k with
    | true =>
      have e1 : code n T k j = 20 := by simp [code, isEl, hk, hj, hle]
      have e2 : nextL n T k j = T := by simp [nextL, isEl, hk, hj, hle]
      rw [e1, e2]
      exact (add_cycle b n (ofL T) f.good k j W S.tab S.ord hk hj hle).mono fun _ _ ⟨he, hb⟩ => ⟨he, S.below hb, M.below hb⟩
    | false =>
      have e1 : code n T k j = 0 := by simp [code, isEl, hk, hj, hle]
      have e2 : nextL n T k j = T ++ [(k, j)] := by simp [nextL, isEl, hk, hj, hle]
      rw [e1, e2, ofL_snoc]
      exact (add_ok b n (ofL T) f.good k j W S.tab S.ord hk hj hle).mono fun _ _ hp => ⟨hp.1, S.add hT hp, M.other hp.2.1 (ord_ne S.ord M) S.ord⟩
  · have hz : (isEl n x && isEl n y) = false := by
      unfold isEl
      rcases Classical.not_and_iff_not_or_not.1 h with h | h
      · rw [decide_eq_false h]; rfl
      · rw [decide_eq_false h, Bool.and_false]
    have e1 : code n T x y = 9 := by simp [code, hz]
    have e2 : nextL n T x y = T := by simp [nextL, hz]
    rw [e1, e2]
    exact (add_range b n (ofL T) x y W f.pos S.ord (Classical.not_and_iff_not_or_not.1 h)).mono fun _ _ ⟨he, hw⟩ => ⟨he, hw ▸ S, hw ▸ M⟩
theorem OSt.turned {A : Nat → Nat} {W' : World} (S : OSt w b n A W) (M : Ref W w.heap.size bm n v T) (hT : Tab w) (h : Turned W W' w.heap.size bm) : OSt w b n A W' :=
  ⟨S.tab.below (B := w.heap.size) h.bel hT.lt, (h.other b _ 51 S.ord (by decide) (ord_ne S.ord M)).trans S.ord, S.bel.trans h.bel, S.ge⟩
theorem refAdd_gen {A : Nat → Nat} (S : OSt w b n A W) (M : Ref W w.heap.size bm n v T) (hT : Tab w) (hbm : w.heap.size ≤ bm) (f : Fine n T) (x y : Int) :
    Calls Tryd.prog 13 #[.pointer (some ⟨bm, 0, none⟩), .int .i64 x, .int .i64 y] W fun e W' => e = .returned (.int .i64 (code n T x y)) ∧ OSt w b n A W' ∧ ∃ v', Ref W' w.heap.size bm n v' (nextL n T x y) := by
  by_cases h : (0 ≤ x ∧ x < n) ∧ (0 ≤ y ∧ y < n)
  · obtain ⟨k, rfl, hk⟩ := isEl_nat h.1
    obtain ⟨j, rfl, hj⟩ := isEl_nat h.2
    cases hle : le (ofL T) j k with
    | true =>
      have e1 : code n T k j = 20 := by simp [code, isEl, hk, hj, hle]
      have e2 : nextL n T k j = T := by simp [nextL, isEl, hk, hj, hle]
      rw [e1, e2]
      exact (refAdd_cycle w.heap.size bm n v T k j W M f hk hj hle).mono fun _ _ ⟨he, hb⟩ => ⟨he, S.below hb, v, M.below hb⟩
    | false =>
      have e1 : code n T k j = 0 := by simp [code, isEl, hk, hj, hle]
      have e2 : nextL n T k j = T ++ [(k, j)] := by simp [nextL, isEl, hk, hj, hle]
      rw [e1, e2]
      exact (refAdd_ok w.heap.size bm n v T k j W M f hbm hk hj hle).mono fun _ _ ⟨he, hm, ht⟩ => ⟨he, S.turned M hT ht, hm⟩
  · have hz : (isEl n x && isEl n y) = false := by
      unfold isEl
      rcases Classical.not_and_iff_not_or_not.1 h with h | h
      · rw [decide_eq_false h]; rfl
      · rw [decide_eq_false h, Bool.and_false]
    have e1 : code n T x y = 9 := by simp [code, hz]
    have e2 : nextL n T x y = T := by simp [nextL, hz]
    rw [e1, e2]
    exact (refAdd_range bm n x y W M.many (Classical.not_and_iff_not_or_not.1 h)).mono fun _ _ ⟨he, hw⟩ => ⟨he, hw ▸ S, v, hw ▸ M⟩
end

set_option maxHeartbeats 2000000 in
set_option maxRecDepth 100000 in
theorem orderPlays_no (many : Int) (A1 : Option Addr) (c1 : Nat) (l : List (Int × Int)) (w : World) (hT : Tab w) (hm : many < 1 ∨ 16 < many) :
    Calls Tryd.prog 3 #[.int .i64 many, .slice A1 l.length c1] w fun e w' => e = .returned (.bool true) ∧ Below w.heap.size w w' := by
  go_enter Tryd.func3, Tryd.ntmps3
  go_wp2_with fail
  refine (new_no many hm w).mono ?_
  rintro e w' ⟨rfl, rfl⟩
  go_wp2_with fail
  refine (refNew_no many hm w).mono ?_
  rintro e w' ⟨rfl, rfl⟩
  go_wp2_with fail
  refine wp_loop_rounds 1 ?_
  rw [rounds_succ]
  rcases Nat.eq_zero_or_pos l.length with h0 | h0
  · have hd : decide (0 < l.length) = false := by simp [h0]
    clear h0
    go_wp2_with fail
    refine (works_any w hT).mono ?_
    rintro e w6 ⟨rfl, hb6⟩
    go_wp2_with fail
    go_ret
    exact ⟨rfl, hb6⟩
  · go_wp2_with fail
    refine (works_any w hT).mono ?_
    rintro e w6 ⟨rfl, hb6⟩
    go_wp2_with fail
    go_ret
    exact ⟨rfl, hb6⟩

set_option maxHeartbeats 8000000 in
set_option maxRecDepth 100000 in
theorem orderPlays_yes (n : Nat) (h1 : 1 ≤ n) (h2 : n ≤ 16) (A1 : Option Addr) (c1 : Nat) (l : List (Int × Int)) (w : World) (hT : Tab w) (hl : Rd w A1 (pvI l)) :
    Calls Tryd.prog 3 #[.int .i64 n, .slice A1 l.length c1] w fun e w' => e = .returned (.bool true) ∧ Below w.heap.size w w' := by
  have HT := Lib.hid hT
  have HL := Lib.hid hl
  clear hl hT
  go_enter Tryd.func3, Tryd.ntmps3
  go_wp2_with fail
  refine (new_any n h1 h2 w).mono ?_
  rintro e w1 ⟨rfl, rfl⟩
  have S := OSt.new n HT.out
  have hsz : (w.alloc (.cells (ocells n fun _ => 0) 51)).heap.size = w.heap.size + 1 := World.size_alloc _ _
  generalize w.alloc (.cells (ocells n fun _ => 0) 51) = w1 at *
  go_wp2_with fail
  refine (refNew_any n h1 h2 w1).mono ?_
  rintro e w2 ⟨rfl, rfl⟩
  have S2 := S.below (below_new w1 (.cells #[.int .i64 n, .slice none 0 0] 35))
  have M2 := refNew_ref w1 n (base := w.heap.size)
  have hbm : w.heap.size ≤ w1.heap.size := by omega
  generalize w1.heap.size = bm at *
  generalize w1.alloc (.cells #[.int .i64 n, .slice none 0 0] 35) = w2 at *
  clear S hsz
  go_wp2_with fail
  go_loopw [5, 9] (fun o i wr => ∃ (k bo : Nat) (T : List (Nat × Nat)) (v : Value), k ≤ l.length ∧ k ≤ 40 ∧ i = .int .i64 k ∧ o = .pointer (some ⟨bo, 0, none⟩) ∧ Hid (Took n T) ∧ T.length ≤ k ∧ OSt w bo n (ofL T) wr ∧ Ref wr w.heap.size bm n v T) (fun _ i _ => 40 - (intOf i).toNat)
  case atStart => exact ⟨0, _, [], _, Nat.zero_le _, Nat.zero_le _, rfl, rfl, Took.nil, Nat.zero_le _, S2, M2⟩
  case round =>
    obtain ⟨k, bo, T, v, hk, hk40, rfl, rfl, hTk, hTl, So, Mo⟩ := hrel
    clear S2 M2
    obtain ⟨wo, rfl⟩ : ∃ wo : World, wo = wr := ⟨_, rfl⟩
    have f : Fine n T := hTk.out.fine h1 h2 (by omega)
    by_cases hkl : k < l.length
    · by_cases hk4 : k < 40
      · obtain ⟨bb, off, rfl, hbl, e10, e20⟩ := HL.out.pair k hkl
        obtain ⟨x, hx⟩ : ∃ x, x = l[k].1 := ⟨_, rfl⟩
        obtain ⟨y, hy⟩ : ∃ y, y = l[k].2 := ⟨_, rfl⟩
        rw [← hx] at e10
        rw [← hy] at e20
        clear hx hy
        have e1 := (So.bel.cell (p := ⟨bb, off + k * 2, none⟩) hbl).trans e10
        have e2 := (So.bel.cell (p := ⟨bb, off + k * 2 + 1, none⟩) hbl).trans e20
        have E1 := Lib.hid e10
        have E2 := Lib.hid e20
        have hcc : (code n T x y != code n T x y) = false := by simp
        have HTN := Lib.hid (next_took hTk.out x y)
        have hln := next_len (n := n) T x y
        have i5 : (0 : Int) ≤ k := by omega
        have i6 : (k : Int) < l.length := by omega
        have Sd := So.below (Below.refl wo.heap.size wo).drew
        have Md := Mo.below (Below.refl wo.heap.size wo).drew
        clear e10 e20 hTk
        go_wp2_with fail
        go_region_held3 (fun w' => w'.cell? ⟨bb, off + k * 2, none⟩ = some (.int .i64 x) ∧ w'.cell? ⟨bb, off + k * 2 + 1, none⟩ = some (.int .i64 y)) (go_keep)
          (first
            | (go_at_call 12; refine (add_gen (b := bo) (bm := bm) Sd Md HT.out f x y).mono ?_; rintro e w5 ⟨rfl, S5, M5⟩; have d1 := (S5.bel.cell (p := ⟨bb, off + k * 2, none⟩) hbl).trans E1.out; have d2 := (S5.bel.cell (p := ⟨bb, off + k * 2 + 1, none⟩) hbl).trans E2.out)
            | (go_at_call 13; refine (refAdd_gen (b := bo) (bm := bm) S5 M5 HT.out hbm f x y).mono ?_; rintro e w6 ⟨rfl, S6, v6, M6⟩; have g1 := (S6.bel.cell (p := ⟨bb, off + k * 2, none⟩) hbl).trans E1.out; have g2 := (S6.bel.cell (p := ⟨bb, off + k * 2 + 1, none⟩) hbl).trans E2.out))
        clear So Mo Sd Md S5 M5 d1 d2 g1 g2 e1 e2 f
        have HS6 := Lib.hid S6
        have HM6 := Lib.hid M6
        clear S6 M6
        generalize nextL n T x y = T2 at *
        have hT2 : T2.length ≤ k + 1 := by omega
        clear hln
        by_cases h9 : k % 9 = 8
        · have q1 : ((k : Int) % 9 == 8) = true := by rw [beq_iff_eq]; omega
          have q2 : ((k : Int).tmod 9 == 8) = true := by rw [beq_iff_eq, Int.tmod_eq_emod_of_nonneg (by omega)]; omega
          clear h9
          have f2 : Fine n T2 := HTN.out.fine h1 h2 (by omega)
          have t2 := HTN.out.anti h1 h2
          go_wp2_with fail
          refine (same_any ⟨HS6.out, HM6.out⟩ f2 t2).mono ?_
          rintro e w7 ⟨rfl, hb7⟩
          have S7 := HS6.out.below hb7
          have M7 := HM6.out.below hb7
          clear HS6 HM6 hb7 q1 q2
          go_wp2_with fail
          refine (copy_any bo n (ofL T2) w7 h1 S7.ord).mono ?_
          rintro e w8 ⟨rfl, rfl⟩
          have hT7 := S7.tab
          have Sc : OSt w7 w7.heap.size n (ofL T2) (w7.alloc (.cells (ocells n (ofL T2)) 51)) := ⟨hT7.below (below_new w7 _) hT7.lt, World.alloc_heap_new w7 _, below_new w7 _, Nat.le_refl _⟩
          generalize w7.alloc (.cells (ocells n (ofL T2)) 51) = w8 at *
          have HS7 := Lib.hid S7
          have HM7 := Lib.hid M7
          have hm7 := M7.many
          have hml := M7.lt
          clear S7 M7
          go_wp2_with fail
          go_loopw [11] (fun i wr => ∃ (a : Nat) (Tc : List (Nat × Nat)), a ≤ n ∧ i = .int .i64 a ∧ Hid (Took n Tc) ∧ OSt w7 w7.heap.size n (ofL Tc) wr) (fun i _ => n - (intOf i).toNat)
          case atStart => exact ⟨0, T2, Nat.zero_le _, rfl, HTN, Sc⟩
          case round =>
            obtain ⟨a, Tc, ha, rfl, hTc, Sa⟩ := hrel
            clear Sc
            obtain ⟨wp, rfl⟩ : ∃ wp : World, wp = wr := ⟨_, rfl⟩
            have hmw := (Sa.bel.cell (p := ⟨bm, 0, none⟩) hml).trans hm7
            by_cases han : a < n
            · have hnz : ((n : Int) == 0) = false := by rw [beq_eq_false_iff_ne]; omega
              have hm1 : ((n : Int) == -1) = false := by rw [beq_eq_false_iff_ne]; omega
              have gc := hTc.out.good h1 h2
              obtain ⟨a2, ha2⟩ : ∃ a2 : Nat, a2 = (a + 1) % n := ⟨_, rfl⟩
              have ha2n : a2 < n := by rw [ha2]; exact Nat.mod_lt _ (by omega)
              have HA2 : Hid ((((a : Int) + 1) % (n : Int)) = (a2 : Nat)) := by show _ = _; rw [ha2]; simp
              have HA3 : Hid ((((a : Int) + 1).tmod (n : Int)) = (a2 : Nat)) := by show _ = _; rw [Int.tmod_eq_emod_of_nonneg (by omega), ha2]; simp
              clear ha2
              go_wp2_with fail
              rw [HA2.out]
              cases hle : le (ofL Tc) a2 a with
              | true =>
                refine (add_cycle w7.heap.size n (ofL Tc) gc a a2 wp Sa.tab Sa.ord han ha2n hle).mono ?_
                rintro e w9 ⟨rfl, hb9⟩
                have S9 := Sa.below hb9
                clear Sa hb9 hle hmw
                go_wp2_with fail
                go_roundw
                case rel => exact ⟨a + 1, Tc, by omega, by go_num, hTc, S9⟩
                case measure => simp [intOf]; omega
              | false =>
                refine (add_ok w7.heap.size n (ofL Tc) gc a a2 wp Sa.tab Sa.ord han ha2n hle).mono ?_
                have HTC := Lib.hid (hTc.out.snoc_of han ha2n hle)
                rintro e w9 hp
                have S9 := Sa.add hT7 hp
                obtain ⟨rfl, _⟩ := hp
                have HS9 := Lib.hid S9
                clear Sa S9 hle hmw
                go_wp2_with fail
                go_roundw
                case rel => exact ⟨a + 1, Tc ++ [(a, a2)], by omega, by go_num, HTC.out, by rw [ofL_snoc]; exact HS9.out⟩
                case measure => simp [intOf]; omega
            · have S9 := HS7.out.below Sa.bel
              have M9 := HM7.out.below Sa.bel
              go_wp2_with fail
              refine (copy_any bo n (ofL T2) wp h1 S9.ord).mono ?_
              rintro e w10 ⟨rfl, rfl⟩
              have hb10 := below_new wp (.cells (ocells n (ofL T2)) 51)
              have S10 : OSt w wp.heap.size n (ofL T2) (wp.alloc (.cells (ocells n (ofL T2)) 51)) := ⟨S9.tab.below hb10 S9.tab.lt, World.alloc_heap_new wp _, S9.bel.trans (hb10.mono S9.bel.size), S9.bel.size⟩
              have M10 := M9.below hb10
              have HS10 := Lib.hid S10
              have HM10 := Lib.hid M10
              clear Sa S9 M9 hb10 S10 M10 hmw
              generalize wp.alloc (.cells (ocells n (ofL T2)) 51) = w10 at *
              go_wp2_with fail
              go_roundw
              case rel => exact ⟨k + 1, _, T2, v6, by omega, by omega, by go_num, rfl, HTN, by omega, HS10.out, HM10.out⟩
              case measure => simp [intOf]; omega
        · have q1 : ((k : Int) % 9 == 8) = false := by rw [beq_eq_false_iff_ne]; omega
          have q2 : ((k : Int).tmod 9 == 8) = false := by rw [beq_eq_false_iff_ne, Int.tmod_eq_emod_of_nonneg (by omega)]; omega
          clear h9
          go_wp2_with fail
          go_roundw
          case rel => exact ⟨k + 1, bo, T2, v6, by omega, by omega, by go_num, rfl, HTN, by omega, HS6.out, HM6.out⟩
          case measure => simp [intOf]; omega
      · have e40 : decide (k < 40) = false := by simp; omega
        go_wp2_with fail
        refine (same_any ⟨So, Mo⟩ f (hTk.out.anti h1 h2)).mono ?_
        rintro e w7 ⟨rfl, hb7⟩
        have S7 := So.below hb7
        go_wp2_with fail
        refine (works_any w7 S7.tab).mono ?_
        rintro e w8 ⟨rfl, hb8⟩
        have S8 := S7.below hb8
        go_wp2_with fail
        go_ret
        exact ⟨rfl, S8.bel⟩
    · have e40 : decide (k < l.length) = false := by simp; omega
      go_wp2_with fail
      refine (same_any ⟨So, Mo⟩ f (hTk.out.anti h1 h2)).mono ?_
      rintro e w7 ⟨rfl, hb7⟩
      have S7 := So.below hb7
      go_wp2_with fail
      refine (works_any w7 S7.tab).mono ?_
      rintro e w8 ⟨rfl, hb8⟩
      have S8 := S7.below hb8
      go_wp2_with fail
      go_ret
      exact ⟨rfl, S8.bel⟩

theorem orderPlays_any (many : Int) (A1 : Option Addr) (c1 : Nat) (l : List (Int × Int)) (w : World) (hT : Tab w) (hl : Rd w A1 (pvI l)) :
    Calls Tryd.prog 3 #[.int .i64 many, .slice A1 l.length c1] w fun e w' => e = .returned (.bool true) ∧ Below w.heap.size w w' := by
  by_cases h : 1 ≤ many ∧ many ≤ 16
  · obtain ⟨n, rfl⟩ : ∃ n : Nat, many = n := ⟨many.toNat, by omega⟩
    exact orderPlays_yes n (by omega) (by omega) A1 c1 l w hT hl
  · exact orderPlays_no many A1 c1 l w hT (by omega)
end Go.Proofs.YtkiaolegpjkbdaaDoor
