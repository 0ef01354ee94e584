/- Walks of the chapter's test of names, and of orderOf. -/
import Derived.Test.YtaikhdmgcffflaaDoorVf
import Derived.Test.YtaikhdmgcffflaaDoorWo
namespace Go.Proofs.YtaikhdmgcffflaaDoor
open Go Go.RowKit

set_option maxHeartbeats 1000000 in
theorem refFine_any (A : Option Addr) (c : Nat) (N : List (List UInt8)) (w : World) (h : Rd w A (sv N)) (hn : N.length ≤ 1000000) (hL : ∀ y ∈ N, y.length ≤ maxLen) :
    Calls Tryd.prog 32 #[.slice A N.length c] w fun e w' => e = .returned (.bool (fineB N)) ∧ ∃ q, w' = w.drewN q := by
  have HR := Lib.hid h
  have HL := Lib.hid hL
  clear h hL
  go_enter Tryd.func32, Tryd.ntmps32
  go_wp2
  go_loopw [3] (fun i wr => ∃ k q : Nat, k ≤ N.length ∧ i = .int .i64 k ∧ Hid (fineK N k = true) ∧ wr = w.drewN q) (fun i _ => N.length - (intOf i).toNat)
  case atStart => exact ⟨0, 0, Nat.zero_le _, rfl, rfl, rfl⟩
  case round =>
    obtain ⟨k, q, hk, rfl, hall, rfl⟩ := hrel
    by_cases hlt : k < N.length
    · obtain ⟨b, off, rfl, hb, hcell⟩ := HR.out.str k hlt
      have k1 : (0 : Int) ≤ k := by omega
      have k2 : (k : Int) < N.length := by omega
      have hyl := HL.out _ (List.getElem_mem hlt)
      have hst := Lib.hid (fineK_succ N k)
      have hgd : N.getD k [] = N[k] := by rw [List.getD_eq_getElem?_getD, List.getElem?_eq_getElem hlt]; rfl
      rw [hgd] at hst
      clear hgd
      generalize N[k] = z at *
      have hname := refNameL_any z (w.drewN q) hyl
      cases hq : Pl.isName z with
      | false =>
        have hfin : Hid (fineB N = false) := by
          have h1 := hst.out
          rw [hq, Bool.false_and, Bool.and_false] at h1
          exact fineK_false N hlt h1
        have he : nameE z = 31 := by unfold nameE; rw [hq]; rfl
        rw [he] at hname
        have HN := Lib.hid hname
        clear hall hst he hname
        go_wp2_with (go_at_call 57; refine Calls.mono HN.out ?_; rintro e w' ⟨rfl, rfl⟩)
        go_ret
        exact ⟨ret_bool hfin.out.symm, _, rfl⟩
      | true =>
        have he : nameE z = 0 := by unfold nameE; rw [hq]; rfl
        rw [he] at hname
        have HN := Lib.hid hname
        have HQ := Lib.hid hq
        clear he hname hq
        go_wp2_with (go_at_call 57; refine Calls.mono HN.out ?_; rintro e w' ⟨rfl, rfl⟩)
        go_loopw [4] (fun i wr => ∃ j q : Nat, j ≤ k ∧ i = .int .i64 j ∧ Hid ((N.take j).contains z = false) ∧ wr = w.drewN q) (fun i _ => k - (intOf i).toNat)
        case atStart => exact ⟨0, q, Nat.zero_le _, rfl, by simp [Hid], rfl⟩
        case round =>
          obtain ⟨j, q2, hj, rfl, hno, rfl⟩ := hrel
          by_cases hjk : j < k
          · obtain ⟨b2, off2, hb2, hbl2, hcell2⟩ := HR.out.str j (by omega)
            cases hb2
            have j1 : (0 : Int) ≤ j := by omega
            have j2 : (j : Int) < N.length := by omega
            have htk := Lib.hid (List.take_succ_eq_append_getElem (show j < N.length by omega))
            have hmem := Lib.hid (show N[j]'(by omega) ∈ N.take k from List.mem_iff_getElem.2 ⟨j, by rw [List.length_take]; omega, by rw [List.getElem_take]⟩)
            generalize N[j] = z2 at *
            cases hz : (z2 == z) with
            | true =>
              have hfin : Hid (fineB N = false) := by
                have h1 := hst.out
                rw [beq_iff_eq] at hz
                subst hz
                have h2 : (N.take k).contains z2 = true := by simpa using hmem.out
                rw [h2, Bool.not_true, Bool.and_false, Bool.and_false] at h1
                exact fineK_false N hlt h1
              clear hall hst hno htk hmem
              go_wp2
              go_quiet (fail)
              go_wp2
              go_ret
              exact ⟨ret_bool hfin.out.symm, _, World.drewN_drewN _ _ _⟩
            | false =>
              have hno' : Hid ((N.take (j + 1)).contains z = false) := by
                have h1 := hno.out
                show _ = _
                rw [beq_eq_false_iff_ne] at hz
                rw [htk.out]
                simp at h1 ⊢
                exact ⟨h1, fun e => hz e.symm⟩
              clear hno htk hmem
              go_wp2
              go_quiet (fail)
              go_wp2
              go_roundw
              case rel => exact ⟨j + 1, _, by omega, by go_num, hno', rfl⟩
              case measure => simp [intOf]; omega
          · obtain rfl : j = k := by omega
            have hall' : Hid (fineK N (j + 1) = true) := by
              have h1 := hst.out
              rw [hall.out, HQ.out, hno.out] at h1
              exact h1
            clear hall hst hno
            go_wp2
            go_roundw
            case rel => exact ⟨j + 1, _, by omega, by go_num, hall', rfl⟩
            case measure => simp [intOf]; omega
    · have hfin : Hid (fineB N = true) := by
        have h1 := hall.out
        rw [show k = N.length by omega] at h1
        exact h1
      clear hall
      go_wp2
      go_ret
      exact ⟨ret_bool hfin.out.symm, _, rfl⟩

/-! Pairs. -/
def natL (L : List (Int × Int)) : List (Nat × Nat) := L.map fun p => (p.1.toNat, p.2.toNat)
def inP (n : Nat) (p : Int × Int) : Bool := decide (0 ≤ p.1) && decide (p.1 < n) && decide (0 ≤ p.2) && decide (p.2 < n)
def allIn (n : Nat) (L : List (Int × Int)) : Bool := L.all (inP n)
/-- Is each pair taken, in order? -/
def tookB (M : List (Nat × Nat)) : Bool := (List.range M.length).all fun k => !le (ofL (M.take k)) (M.getD k (0, 0)).2 (M.getD k (0, 0)).1
def ordE (n : Nat) (L : List (Int × Int)) : Int := if allIn n L then if tookB (natL L) then 0 else 20 else 9
theorem natL_len (L : List (Int × Int)) : (natL L).length = L.length := by simp [natL]
theorem allIn_false {n : Nat} {L : List (Int × Int)} {k : Nat} (hk : k < L.length) (h : inP n L[k] = false) : allIn n L = false := by
  unfold allIn
  rw [List.all_eq_false]
  exact ⟨L[k], List.getElem_mem hk, by simp [h]⟩
theorem allIn_take {n : Nat} {L : List (Int × Int)} {k : Nat} (hk : k < L.length) (h : allIn n (L.take k) = true) (h2 : inP n L[k] = true) : allIn n (L.take (k + 1)) = true := by
  unfold allIn at *
  rw [List.take_succ_eq_append_getElem hk, List.all_append, h]
  simp [h2]
theorem allIn_at {n : Nat} {L : List (Int × Int)} (h : allIn n L = true) {k : Nat} (hk : k < L.length) : ∃ x y : Nat, L[k] = ((x : Int), (y : Int)) ∧ x < n ∧ y < n := by
  unfold allIn at h
  rw [List.all_eq_true] at h
  have := h _ (List.getElem_mem hk)
  simp only [inP, Bool.and_eq_true, decide_eq_true_eq] at this
  refine ⟨L[k].1.toNat, L[k].2.toNat, ?_, by omega, by omega⟩
  apply Prod.ext <;> simp <;> omega
theorem natL_at {L : List (Int × Int)} {k x y : Nat} (hk : k < L.length) (h : L[k] = ((x : Int), (y : Int))) : (natL L).getD k (0, 0) = (x, y) := by
  unfold natL
  rw [List.getD_eq_getElem?_getD, List.getElem?_map, List.getElem?_eq_getElem hk, h]
  simp
theorem natL_snoc {L : List (Int × Int)} {k x y : Nat} (hk : k < L.length) (h : L[k] = ((x : Int), (y : Int))) : natL (L.take (k + 1)) = natL (L.take k) ++ [(x, y)] := by
  unfold natL
  rw [List.take_succ_eq_append_getElem hk, List.map_append, h]
  simp
theorem natL_take (L : List (Int × Int)) (k : Nat) : natL (L.take k) = (natL L).take k := by simp [natL, List.map_take]
theorem tookB_false {M : List (Nat × Nat)} {k x y : Nat} (hk : k < M.length) (h : M.getD k (0, 0) = (x, y)) (hl : le (ofL (M.take k)) y x = true) : tookB M = false := by
  unfold tookB
  rw [List.all_eq_false]
  exact ⟨k, List.mem_range.2 hk, by rw [h]; simp [hl]⟩
theorem Took.tookB {n : Nat} {M : List (Nat × Nat)} (t : Took n M) : tookB M = true := by
  unfold YtaikhdmgcffflaaDoor.tookB
  rw [List.all_eq_true]
  induction t with
  | nil => simp
  | @snoc L l h t hl hh hc ih =>
    intro k hk
    rw [List.mem_range, List.length_append, List.length_singleton] at hk
    rcases Nat.lt_or_ge k L.length with h1 | h1
    · have := ih k (List.mem_range.2 h1)
      rw [List.take_append_of_le_length (by omega), List.getD_eq_getElem?_getD, List.getElem?_append_left h1, ← List.getD_eq_getElem?_getD]
      exact this
    · obtain rfl : k = L.length := by omega
      simp [hc]

/-- What orderOf leaves. -/
def OrdPost (n : Nat) (L : List (Int × Int)) (w : World) (e : Ending) (w' : World) : Prop := Below w.heap.size w w' ∧
  ((ordE n L ≠ 0 ∧ e = .returned (.tuple #[.pointer none, .int .i64 (ordE n L)])) ∨
   (ordE n L = 0 ∧ Took n (natL L) ∧ ∃ bo, e = .returned (.tuple #[.pointer (some ⟨bo, 0, none⟩), .int .i64 0]) ∧ OSt w bo n (ofL (natL L)) w'))
set_option maxHeartbeats 2000000 in
set_option maxRecDepth 100000 in
theorem orderOf_any (n : Nat) (h1 : 1 ≤ n) (h2 : n ≤ 10) (A1 : Option Addr) (c1 : Nat) (L : List (Int × Int)) (w : World) (hT : Tab w) (hl : Rd w A1 (pvI L)) (hll : L.length ≤ 1000) :
    Calls Tryd.prog 29 #[.int .i64 n, .slice A1 L.length c1] w (OrdPost n L w) := by
  have HT := Lib.hid hT
  have HL := Lib.hid hl
  clear hT hl
  go_enter Tryd.func29, Tryd.ntmps29
  go_wp2
  go_loopw [15] (fun i wr => ∃ k : Nat, k ≤ L.length ∧ i = .int .i64 k ∧ Hid (allIn n (L.take k) = true) ∧ Below w.heap.size w wr) (fun i _ => L.length - (intOf i).toNat)
  case atStart => exact ⟨0, Nat.zero_le _, rfl, rfl, Below.refl _ _⟩
  case round =>
    obtain ⟨k, hk, rfl, hall, hb⟩ := hrel
    by_cases hlt : k < L.length
    · obtain ⟨bb, off, rfl, hbl, e10, e20⟩ := HL.out.pair k hlt
      have e1 := (hb.cell (p := ⟨bb, off + k * 2, none⟩) hbl).trans e10
      have e2 := (hb.cell (p := ⟨bb, off + k * 2 + 1, none⟩) hbl).trans e20
      have HA := Lib.hid (allIn_false (n := n) hlt)
      have HB := Lib.hid (allIn_take (n := n) hlt)
      generalize L[k] = p at *
      obtain ⟨x, y⟩ := p
      dsimp only at e1 e2
      clear e10 e20
      have k1 : (0 : Int) ≤ k := by omega
      have k2 : (k : Int) < L.length := by omega
      have fin : inP n (x, y) = false → Hid (ordE n L = 9) := fun hp => by
        show _ = _
        unfold ordE
        rw [HA.out hp]
        rfl
      by_cases c1 : x < 0
      · have hfin := fin (by simp [inP]; omega)
        clear fin
        go_wp2_with fail
        go_ret2
        exact ⟨hb.alloc hb.size _, .inl ⟨by rw [hfin.out]; decide, by rw [hfin.out]; rfl⟩⟩
      by_cases c2 : (n : Int) ≤ x
      · have hfin := fin (by simp [inP]; omega)
        clear fin
        go_wp2_with fail
        go_ret2
        exact ⟨hb.alloc hb.size _, .inl ⟨by rw [hfin.out]; decide, by rw [hfin.out]; rfl⟩⟩
      by_cases c3 : y < 0
      · have hfin := fin (by simp [inP]; omega)
        clear fin
        go_wp2_with fail
        go_ret2
        exact ⟨hb.alloc hb.size _, .inl ⟨by rw [hfin.out]; decide, by rw [hfin.out]; rfl⟩⟩
      by_cases c4 : (n : Int) ≤ y
      · have hfin := fin (by simp [inP]; omega)
        clear fin
        go_wp2_with fail
        go_ret2
        exact ⟨hb.alloc hb.size _, .inl ⟨by rw [hfin.out]; decide, by rw [hfin.out]; rfl⟩⟩
      have hall' := Lib.hid (HB.out hall.out (by simp [inP]; omega))
      clear fin hall
      go_wp2_with fail
      go_roundw
      case rel => exact ⟨k + 1, by omega, by go_num, hall', hb.alloc hb.size _⟩
      case measure => simp [intOf]; omega
    · have hal : Hid (allIn n L = true) := by
        have := hall.out
        rwa [List.take_of_length_le (by omega)] at this
      clear hall
      go_wp2_with fail
      refine (new_any n h1 (by omega) _).mono ?_
      rintro e w1 ⟨rfl, rfl⟩
      have S0 := OSt.new n (HT.out.below hb HT.out.lt)
      have S1 : OSt w wr.heap.size n (ofL (natL (L.take 0))) (wr.alloc (.cells (ocells n fun _ => 0) 113)) := ⟨S0.tab, S0.ord, hb.trans (S0.bel.mono hb.size), hb.size⟩
      generalize wr.heap.size = bo at *
      generalize wr.alloc (.cells (ocells n fun _ => 0) 113) = w2 at *
      clear S0 hb
      go_wp2_with fail
      go_loopw [50] (fun i wr => ∃ k : Nat, k ≤ L.length ∧ i = .int .i64 k ∧ Hid (Took n (natL (L.take k))) ∧ OSt w bo n (ofL (natL (L.take k))) wr) (fun i _ => L.length - (intOf i).toNat)
      case atStart => exact ⟨0, Nat.zero_le _, rfl, Took.nil, S1⟩
      case round =>
        obtain ⟨k, hk, rfl, hTk, S⟩ := hrel
        clear S1
        obtain ⟨wo, rfl⟩ : ∃ wo : World, wo = wr := ⟨_, rfl⟩
        by_cases hlt : k < L.length
        · obtain ⟨bb, off, rfl, hbl, e10, e20⟩ := HL.out.pair k hlt
          obtain ⟨x, y, hxy, hx, hy⟩ := allIn_at hal.out hlt
          have e1 := (S.bel.cell (p := ⟨bb, off + k * 2, none⟩) hbl).trans e10
          have e2 := (S.bel.cell (p := ⟨bb, off + k * 2 + 1, none⟩) hbl).trans e20
          rw [hxy] at e1 e2
          dsimp only at e1 e2
          have HXY := Lib.hid hxy
          have g := hTk.out.good h1 (by omega)
          have k1 : (0 : Int) ≤ k := by omega
          have k2 : (k : Int) < L.length := by omega
          have S2 := S.below (below_new wo (.cells #[.int .i64 x, .int .i64 y] 41))
          clear e10 e20 hxy
          cases hle : le (ofL (natL (L.take k))) y x with
          | true =>
            have hfin : Hid (ordE n L = 20) := by
              have h3 : tookB (natL L) = false := tookB_false (by rw [natL_len]; exact hlt) (natL_at hlt HXY.out) (by rw [← natL_take]; exact hle)
              show _ = _
              unfold ordE
              rw [hal.out, h3]
              rfl
            have con := Lib.hid (add_cycle bo n _ g x y _ S2.tab S2.ord hx hy hle)
            have HS2 := Lib.hid S2
            clear S2 S hTk hle
            go_wp2_with (go_at_call 53; refine Calls.mono con.out ?_; rintro e w5 ⟨rfl, hb5⟩)
            go_ret2
            exact ⟨(HS2.out.below hb5).bel, .inl ⟨by rw [hfin.out]; decide, by rw [hfin.out]; rfl⟩⟩
          | false =>
            have con := Lib.hid (add_ok bo n _ g x y _ S2.tab S2.ord hx hy hle)
            have HTN : Hid (Took n (natL (L.take (k + 1)))) := by
              show Took _ _
              rw [natL_snoc hlt HXY.out]
              exact hTk.out.snoc_of hx hy hle
            have HSN := Lib.hid (natL_snoc hlt HXY.out)
            have HS2 := Lib.hid S2
            clear S2 S hTk hle
            go_wp2_with (go_at_call 53; refine Calls.mono con.out ?_; rintro e w5 hp; have S5 := HS2.out.add HT.out hp; obtain ⟨rfl, _⟩ := hp; have HS5 := Lib.hid S5; clear S5)
            go_roundw
            case rel => exact ⟨k + 1, by omega, by go_num, HTN, by rw [HSN.out, ofL_snoc]; exact HS5.out⟩
            case measure => simp [intOf]; omega
        · have hk' : L.take k = L := List.take_of_length_le (by omega)
          rw [hk'] at hTk S
          have hfin : Hid (ordE n L = 0) := by
            show _ = _
            unfold ordE
            rw [hal.out, hTk.out.tookB]
            rfl
          have HS := Lib.hid S
          clear S hk'
          go_wp2_with fail
          go_ret2
          exact ⟨HS.out.bel, .inr ⟨hfin.out, hTk.out, bo, rfl, HS.out⟩⟩
end Go.Proofs.YtaikhdmgcffflaaDoor
