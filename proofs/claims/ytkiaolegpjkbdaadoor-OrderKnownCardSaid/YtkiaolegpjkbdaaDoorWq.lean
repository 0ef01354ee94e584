/- An order of numbers (made). -/
import Derived.Test.YtkiaolegpjkbdaaDoorWp
namespace Go.Proofs.YtkiaolegpjkbdaaDoor
open Go Go.RowKit Go.Shelf

theorem OSt.append {w W W2 : World} {b n : Nat} {A : Nat → Nat} {v : Value} {k : Nat} {xs : List Value} {o : Obj} (h : OSt w b n A W) (hw : 0 < w.heap.size) (hown : W.ownsRow w.heap.size 31 2 v k xs) (hgrow : (W.alloc o).grownBy W2 v.ownBlock) : OSt w b n A W2 := by
  have hb : Below w.heap.size w W2 := own_grown h.bel h.bel.size hown hgrow
  have h1 := h.below (below_new W o)
  have hne : v.ownBlock ≠ some b := row_ne (hown.alloc o) h1.ord (by decide)
  refine ⟨?_, h1.ord.kept hgrow (fun e => hne e.symm), hb, h.ge⟩
  have ht := h1.tab
  refine ht.below (B := 1) ⟨hgrow.os, hgrow.tape, hgrow.output, hgrow.size, fun k hk => hgrow.block k (by have := ht.lt; omega) (fun e => ?_)⟩ (by omega)
  rcases hown.2 with ⟨rfl, _⟩ | ⟨g, cap, cur, rfl, hbb, _⟩
  · cases e
  · have e2 : some k = some g := e
    injection e2 with e2
    omega
theorem bring_q (i : Int) (n : Nat) (h1 : 1 ≤ n) (h2 : n ≤ 16) (w : World) : Calls Tryd.prog 35 #[.int .i64 i, .int .i64 n] w fun e w' => e = .returned (.int .i64 (bring i n : Nat)) ∧ w' = w :=
  (bring_any i n h1 h2 w).mono fun _ _ ⟨he, hw⟩ => ⟨he, hw.symm⟩

/-- What made leaves: an order, and what was taken. -/
def MadePost (n : Nat) (l : List (Int × Int)) (w : World) (e : Ending) (w' : World) : Prop :=
  ∃ b v T, e = .returned (.tuple #[.pointer (some ⟨b, 0, none⟩), v]) ∧ OSt w b n (ofL T) w' ∧ Took n T ∧ T.length ≤ 40 ∧ T.length ≤ l.length ∧ w'.ownsRow w.heap.size 31 2 v T.length (pv T)
def manyOf (many : Int) : Nat := bring many 16 + 1
theorem manyOf_pos (many : Int) : 1 ≤ manyOf many := by unfold manyOf; omega
theorem manyOf_le (many : Int) : manyOf many ≤ 16 := by have := bring_lt many (n := 16) (by decide); unfold manyOf; omega

set_option maxHeartbeats 2000000 in
theorem made_any (many : Int) (A1 : Option Addr) (c1 : Nat) (l : List (Int × Int)) (w : World) (hT : Tab w) (hl : Rd w A1 (pvI l)) :
    Calls Tryd.prog 17 #[.int .i64 many, .slice A1 l.length c1] w (MadePost (manyOf many) l w) := by
  obtain ⟨i0, hi, hz0, hz1, hz2⟩ := info_parts info31
  have h1 := manyOf_pos many
  have h2 := manyOf_le many
  have hw0 := hT.lt
  have HT := Lib.hid hT
  have HL := Lib.hid hl
  clear hT hl
  have HE : Hid ((1 : Int) + (bring many 16 : Nat) = (manyOf many : Nat)) := by show _ = _; unfold manyOf; omega
  have hbr := bring_lt many (n := 16) (by decide)
  go_enter Tryd.func17, Tryd.ntmps17
  go_wp2_with fail
  refine (bring_any many 16 (by decide) (by decide) w).mono ?_
  rintro e w' ⟨rfl, rfl⟩
  go_wp2_with fail
  rw [HE.out]
  clear hbr
  generalize manyOf many = n at *
  refine (new_any n h1 h2 w).mono ?_
  rintro e w1 ⟨rfl, rfl⟩
  have S := OSt.new n HT.out
  generalize w.alloc (.cells (ocells n fun _ => 0) 51) = w1 at *
  go_wp2_with fail
  refine (many_any w.heap.size n (fun _ => 0) w1 S.ord).mono ?_
  rintro e w' ⟨rfl, rfl⟩
  have hnn : ((n : Int) != n) = false := by simp
  go_wp2_with fail
  go_loopw [9, 10] (fun u i wr => ∃ (k : Nat) (T : List (Nat × Nat)), k ≤ l.length ∧ k ≤ 40 ∧ i = .int .i64 k ∧ T.length ≤ k ∧ Took n T ∧ OSt w w.heap.size n (ofL T) wr ∧ wr.ownsRow w.heap.size 31 2 u T.length (pv T)) (fun _ i _ => 40 - (intOf i).toNat)
  case atStart => exact ⟨0, [], Nat.zero_le _, Nat.zero_le _, rfl, Nat.zero_le _, .nil, S, World.ownsRow_nil _ _ _ _⟩
  case round =>
    obtain ⟨k, T, hk, hk40, rfl, hTk, hTook, hS, hown⟩ := hrel
    clear S
    by_cases hkl : k < l.length
    · by_cases hk4 : k < 40
      · obtain ⟨b, off, rfl, hbl, hc1, hc2⟩ := (HL.out.below hS.bel).pair k hkl
        have i5 : (0 : Int) ≤ k := by omega
        have i6 : (k : Int) < l.length := by omega
        obtain ⟨x, hx⟩ : ∃ x, x = l[k].1 := ⟨_, rfl⟩
        obtain ⟨y, hy⟩ : ∃ y, y = l[k].2 := ⟨_, rfl⟩
        rw [← hx] at hc1
        rw [← hy] at hc2
        clear hx hy
        have hxa := bring_lt x h1
        have hya := bring_lt y h1
        have HS := Lib.hid hS
        have HO := Lib.hid hown
        clear hS hown
        go_wp2_with fail
        go_quiet ((go_at_call 35; exact Calls.quiet_of_same (bring_q _ n h1 h2 _)))
        go_wp2_with fail
        have S2 := HS.out.below (below_drewN (Below.refl _ wr) nq)
        have O2 : (wr.drewN nq).ownsRow w.heap.size 31 2 _ T.length (pv T) := HO.out
        clear hc1 hc2 hbl
        generalize wr.drewN nq = wq at *
        have gT := hTook.good h1 h2
        cases hle : le (ofL T) (bring y n) (bring x n) with
        | true =>
          refine (add_cycle w.heap.size n (ofL T) gT _ _ wq S2.tab S2.ord hxa hya hle).mono ?_
          clear hle
          rintro e w2 ⟨rfl, hb⟩
          have S3 := S2.below hb
          have O3 := O2.kept (grownBy_below hb none) (Classical.em _)
          clear S2 O2 HS HO hb
          go_wp2_with fail
          go_roundw
          case rel => exact ⟨k + 1, T, by omega, by omega, by go_num, by omega, hTook, S3, O3⟩
          case measure => simp [intOf]; omega
        | false =>
          refine (add_ok w.heap.size n (ofL T) gT _ _ wq S2.tab S2.ord hxa hya hle).mono ?_
          have HTK := Lib.hid (hTook.snoc_of hxa hya hle)
          clear hle
          rintro e w2 hp
          have S3 := S2.add HT.out hp
          have O3 := O2.kept hp.2.1 (.inr (row_ne O2 S2.ord (by decide)))
          obtain ⟨rfl, _⟩ := hp
          have hsz := S3.bel.size
          have HS3 := Lib.hid S3
          have HO3 := Lib.hid O3
          clear S2 O2 HS HO S3 O3
          go_wp2_with (at_builtin; refine wpList_append_own _ rfl _ _ 22 rfl w.heap.size 31 i0 (.agg #[.int .i64 0, .int .i64 0]) 2 16 Tryd.underlying22 hi hz0 hz1 hz2 rfl (by decide) _ _ _ rfl (HO3.out.alloc _) ⟨w2.heap.size, 0, none⟩ 1 1 [.int .i64 (bring x n : Nat), .int .i64 (bring y n : Nat)] rfl rfl (World.news_of_block (heap_alloc_new w2 _)) (by simp [Value.oneCell']) (by unfold maxLen; omega) (by omega) (by simp; omega) ?_; intro v' w3 hown' hgrow _)
          go_roundw
          case rel =>
            refine ⟨k + 1, T ++ [(bring x n, bring y n)], by omega, by omega, by go_num, by simp; omega, HTK.out, ?_, ?_⟩
            · rw [ofL_snoc]
              exact HS3.out.append hw0 HO3.out hgrow
            · rw [pv_snoc, List.length_append]
              exact hown'
          case measure => simp [intOf]; omega
      · have e40 : decide ((k : Int) < 40) = false := by simp; omega
        go_wp2_with fail
        go_ret2
        exact ⟨_, _, T, rfl, hS, hTook, by omega, by omega, hown⟩
    · go_wp2_with fail
      go_ret2
      exact ⟨_, _, T, rfl, hS, hTook, by omega, by omega, hown⟩
end Go.Proofs.YtkiaolegpjkbdaaDoor
