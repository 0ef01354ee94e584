/- The law LatticeBroken, walked. -/
import Derived.Test.YtaikhdmgcffflaaDoorVk
import Derived.Deep.AppendLies
namespace Go.Proofs.YtaikhdmgcffflaaDoor
open Go Go.RowKit

theorem Rd.pairAt {w : World} {A : Option Addr} {L : List (Int × Int)} (h : Rd w A (pvI L)) (i : Nat) (hi : i < L.length) {x y : Int} (e : L[i] = (x, y)) : ∃ b off, A = some ⟨b, off, none⟩ ∧ b < w.heap.size ∧
    w.cell? ⟨b, off + i * 2, none⟩ = some (.int .i64 x) ∧ w.cell? ⟨b, off + i * 2 + 1, none⟩ = some (.int .i64 y) := by
  obtain ⟨b, off, e1, e2, e3, e4⟩ := h.pair i hi
  rw [e] at e3 e4
  exact ⟨b, off, e1, e2, e3, e4⟩
theorem nm_small (n : Nat) : ∀ y ∈ nmL n, y.length ≤ maxLen := fun y hy => by
  obtain ⟨i, _, rfl⟩ := List.mem_map.1 hy
  unfold maxLen
  simp
theorem own_cap {w : World} {base size n : Nat} {e : TypeId} {v : Value} {xs : List Value} (h : w.ownsRow base e size v n xs) : ∃ A c, v = .slice A n c ∧ n ≤ c ∧ Rd w A xs := by
  obtain ⟨A, c, e1, hr⟩ := Rd.own h
  refine ⟨A, c, e1, ?_, hr⟩
  rcases h.2 with ⟨_, rfl⟩ | ⟨g, cap, cur, e2, _, _, hn, _⟩
  · omega
  · rw [e1] at e2
    cases e2
    exact hn
/-- The first of a row's pairs. -/
theorem own_first {w : World} {base n m c : Nat} {e : TypeId} {A : Option Addr} {xs : List Value} {size : Nat} (h : w.ownsRow base e size (.slice A n c) n xs) (hm : m ≤ n) (h0 : 0 < m) : w.ownsRow base e size (.slice A m c) m (xs.take (m * size)) := by
  rcases h.2 with ⟨e1, rfl⟩ | ⟨g, cap, cur, e1, h1, h2, h3, h4, h5, h6⟩
  · omega
  · cases e1
    have hle := Nat.mul_le_mul_right size hm
    refine ⟨by rw [List.length_take, h.1]; omega, .inr ⟨g, c, cur, rfl, h1, h2, by omega, h4, h5, ?_⟩⟩
    rw [← h6, List.take_take, Nat.min_eq_left hle]

set_option maxHeartbeats 1600000 in
set_option maxRecDepth 100000 in
theorem made_chain (x : Int) (m : Nat) (hm : bring x 8 = m) (hmk : mkE (nmL (m + 2)) (chainL (m + 1)) = 0) (w : World) (hT : Tab w) :
    Calls Tryd.prog 18 #[.agg #[.int .i64 0, .int .i64 x, .int .i64 0]] w fun e w' => (∃ b, e = .returned (.pointer (some ⟨b, 0, none⟩))) ∧ Below w.heap.size w w' := by
  obtain ⟨i0, hi, hz0, hz1, hz2⟩ := info_parts info31
  have hb8 : m < 8 := by rw [← hm]; exact bring_lt x (n := 8) (by decide)
  have hB0 := below_new w (.cells #[.int .i64 0, .int .i64 x, .int .i64 0] 45)
  have hc0 : (w.alloc (.cells #[.int .i64 0, .int .i64 x, .int .i64 0] 45)).cell? ⟨w.heap.size, 2, none⟩ = some (.int .i64 0) := by simp
  have hs0 : w.heap.size < (w.alloc (.cells #[.int .i64 0, .int .i64 x, .int .i64 0] 45)).heap.size := by simp
  have con := Lib.hid (pairs_chain x m hm (w.alloc (.cells #[.int .i64 0, .int .i64 x, .int .i64 0] 45)))
  have HT := Lib.hid hT
  have HMK := Lib.hid hmk
  clear hT hm hmk
  go_enter Tryd.func18, Tryd.ntmps18
  go_wp2_with fail
  refine Calls.mono con.out ?_
  rintro e w1 ⟨v, rfl, hown, hb1⟩
  have hb := hB0.trans (hb1.mono hB0.size)
  have hc1 := (hb1.cell (p := ⟨w.heap.size, 2, none⟩) hs0).trans hc0
  have hbase : w.heap.size ≤ (w.alloc (.cells #[.int .i64 0, .int .i64 x, .int .i64 0] 45)).heap.size := hB0.size
  clear hB0 hc0 hs0 hb1 con
  generalize (w.alloc (.cells #[.int .i64 0, .int .i64 x, .int .i64 0] 45)).heap.size = base1 at *
  obtain ⟨nn, hnn⟩ : ∃ nn, nn = m + 2 := ⟨_, rfl⟩
  rw [← hnn]
  have hcl := chainL_len (m + 1)
  have HNN := Lib.hid hnn
  have hn1 : 2 ≤ nn := by omega
  have hn2 : nn ≤ 9 := by omega
  have hmn : m + 1 < nn := by omega
  clear hnn
  go_wp2_with fail
  refine (bring_any 0 nn (by omega) (by omega) _).mono ?_
  rw [show bring 0 nn = 0 by simp [bring]]
  rintro e w' ⟨rfl, rfl⟩
  obtain ⟨Al, cl, rfl, hcap, _⟩ := own_cap hown
  rw [hcl] at hown hcap
  rw [hcl]
  go_wp2_with fail
  go_loopw [5, 7] (fun u i wr => ∃ k : Nat, k ≤ m + 1 ∧ i = .int .i64 k ∧ wr.ownsRow w.heap.size 41 2 u (chainL k).length (pvI (chainL k)) ∧ wr.ownsRow base1 41 2 (.slice Al (m + 1) cl) (m + 1) (pvI (chainL (m + 1))) ∧ Apart u (.slice Al (m + 1) cl) ∧ Below w.heap.size w wr) (fun _ i _ => m + 1 - (intOf i).toNat)
  case atStart => exact ⟨0, Nat.zero_le _, rfl, World.ownsRow_nil _ _ _ _, hown, Apart.nil _, hb⟩
  case round =>
    obtain ⟨k, hk, rfl, hu, hl, ha, hbw⟩ := hrel
    clear hb hown
    by_cases hlt : k < m + 1
    · obtain ⟨A2, c2, heq, hrl⟩ := Rd.own hl
      cases heq
      obtain ⟨y, hy⟩ : ∃ y : Nat, y = k + 1 := ⟨_, rfl⟩
      have hat := chainL_at (m + 1) k hlt
      rw [← hy] at hat
      obtain ⟨bb, off, rfl, _, e1, e2⟩ := hrl.pairAt k (by rw [hcl]; exact hlt) hat
      have HAT := Lib.hid hat
      have HY := Lib.hid hy
      have hyn : y < nn := by omega
      have m1 : (k : Int).tmod nn = k := by rw [Int.tmod_eq_emod_of_nonneg (by omega)]; exact Int.emod_eq_of_lt (by omega) (by omega)
      have m2 : (y : Int).tmod nn = y := by rw [Int.tmod_eq_emod_of_nonneg (by omega)]; exact Int.emod_eq_of_lt (by omega) (by omega)
      have hnz : ((nn : Int) == 0) = false := by rw [beq_eq_false_iff_ne]; omega
      have hm1 : ((nn : Int) == -1) = false := by rw [beq_eq_false_iff_ne]; omega
      have wk : IntKind.i64.wrap (k : Int) = k := wrap_i64_small k (by omega)
      have wy : IntKind.i64.wrap (y : Int) = y := wrap_i64_small y (by omega)
      have q0 : ¬ nn = 0 := by omega
      have q1 : ¬ (nn : Int) = 0 := by omega
      have q2 : ¬ (nn : Int) = -1 := by omega
      have hsu := Lib.hid (chainL_succ k)
      have hkl := chainL_len k
      have k1 : (0 : Int) ≤ k := by omega
      have k2 : (k : Int) < (m : Int) + 1 := by omega
      have HU := Lib.hid hu
      have HLr := Lib.hid hl
      have HA := Lib.hid ha
      clear hu hl ha hrl hat hy
      go_wp2_with fail
      go_region_held3 (fun w' => w'.cell? ⟨bb, off + k * 2, none⟩ = some (.int .i64 (k : Nat)) ∧ w'.cell? ⟨bb, off + k * 2 + 1, none⟩ = some (.int .i64 (y : Nat))) (first | go_keep | exact ⟨g1, g2⟩)
        (first | (refine step_append_lies _ rfl (.tmp 25) (.tmp 45) 23 rfl w.heap.size 41 i0 (.agg #[.int .i64 0, .int .i64 0]) 2 16 Tryd.underlying23 hi hz0 hz1 hz2 rfl (by decide) _ _ _ rfl (HU.out.alloc (.cells #[.int .i64 (k : Nat), .int .i64 (y : Nat)] 41)) ⟨wr.heap.size, 0, none⟩ 1 1 [.int .i64 (k : Nat), .int .i64 (y : Nat)] rfl rfl (World.news_of_block (heap_alloc_new wr (.cells #[.int .i64 (k : Nat), .int .i64 (y : Nat)] 41))) (by simp [Value.oneCell']) (by decide) (by unfold maxLen; omega) (by omega) (by have := hbw.size; simp; omega) _ rfl ?_; intro g cap w3 hown3 hgrow hatg hlt3; have hg2 : (wr.alloc (.cells #[.int .i64 (k : Nat), .int .i64 (y : Nat)] 41)).grownBy w3 u5.ownBlock := ⟨hgrow.os, hgrow.tape, hgrow.output, hgrow.size, hgrow.block⟩; have hl3 := row_stays (M := chainL (m + 1)) (by rw [hcl]; exact HLr.out) HA.out hg2; rw [hcl] at hl3; obtain ⟨A3, c3, heq3, hr3⟩ := Rd.own hl3; cases heq3; obtain ⟨b3, o3, heq4, _, g1, g2⟩ := hr3.pairAt k (by rw [hcl]; exact hlt) HAT.out; cases heq4; have ha3 := apart_next (M := chainL (m + 1)) (u' := .slice (some ⟨g, 0, none⟩) ((chainL k).length + 1) cap) (by rw [hcl]; exact HLr.out) HA.out (by rcases hatg with h | h; exact .inl (show u5.ownBlock = some g from h).symm; exact .inr (show some g = some (wr.heap.size + 1) by rw [h]; exact congrArg some (World.size_alloc wr _)))))
      have hB3 : Below w.heap.size w w3 := (hbw.alloc hbw.size _).grown hg2 (by have := hbw.size; simp; omega) (fun q hq => (World.ownsRow.lt HU.out q hq).1)
      have hu3 : w3.ownsRow w.heap.size 41 2 (.slice (some ⟨g, 0, none⟩) (k + 1) cap) (chainL (k + 1)).length (pvI (chainL (k + 1))) := by
        have e : pvI (chainL (k + 1)) = pvI (chainL k) ++ [.int .i64 (k : Nat), .int .i64 (y : Nat)] := by rw [hsu.out, HY.out]; simp [pvI]
        rw [e, hsu.out, List.length_append, hkl]
        rw [hkl] at hown3
        exact hown3
      have HU3 := Lib.hid hu3
      have HL3 := Lib.hid hl3
      rw [hkl] at ha3
      have HA3 := Lib.hid ha3
      clear hown3 hgrow hatg hg2 hl3 hr3 ha3 hu3 HU HLr HA
      go_wp2_with fail
      go_roundw
      case rel => exact ⟨k + 1, by omega, by go_num, HU3.out, HL3.out, HA3.out, hB3⟩
      case measure => simp [intOf]; omega
    · obtain rfl : k = m + 1 := by omega
      have T1 := HT.out.below hbw HT.out.lt
      obtain ⟨Au, cu, rfl, _, hru⟩ := own_cap hu
      have con2 := Lib.hid (names_any nn (by omega) wr)
      clear hu hl ha
      have HRU := Lib.hid hru
      go_wp2_with fail
      refine Calls.mono con2.out ?_
      rintro e w4 ⟨vn, rfl, hvn, hb4⟩
      obtain ⟨An, cn, rfl, hcn, hrn⟩ := own_cap hvn
      have con3 := make_any An cn (nmL nn) Au cu (chainL (m + 1)) w4 (T1.below hb4 T1.lt) hrn hcn (by rw [nmL_len]; omega) (nm_small nn) (HRU.out.below hb4) (by rw [hcl]; omega)
      rw [hcl] at con3
      have CON3 := Lib.hid con3
      have hbb := hbw.trans (hb4.mono hbw.size)
      clear con3 hvn hrn con2
      go_wp2_with fail
      refine Calls.mono CON3.out ?_
      rintro e w5 ⟨hb5, ⟨hr, _⟩ | ⟨_, ok, b, rfl, hge, P⟩⟩
      · rw [HNN.out] at hr
        exact absurd HMK.out hr
      have hmw : w5.cell? ⟨b, 0, none⟩ = some (.int .i64 ((nmL nn).length : Nat)) := by
        obtain ⟨d, j, m', L⟩ := P.some
        exact L.many
      rw [nmL_len] at hmw
      have hB5 := hbb.trans (hb5.mono hbb.size)
      clear P ok CON3
      go_wp2_with fail
      refine (latMany_any b nn w5 hmw).mono ?_
      rintro e w' ⟨rfl, rfl⟩
      have hq : ((nn : Int) != nn) = false := by simp
      go_wp2_with fail
      go_ret
      exact ⟨⟨b, rfl⟩, hB5⟩
end Go.Proofs.YtaikhdmgcffflaaDoor
