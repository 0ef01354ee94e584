/- The program's Line. -/
import Derived.Test.YthniggdimfldhaaGreatDoorHn
namespace Go.Proofs.YthniggdimfldhaaGreatDoor
open Go Go.RowKit

theorem bl_ascii : ∀ (j : Nat) b, (⟨#[32, 9]⟩ : ByteArray).data.toList[j]? = some b → b.toNat < 128 := ascii_of_all (by decide)
theorem tail58_len (l : List UInt8) : (tail58 l).length ≤ l.length := by rw [← drop_head58, List.length_drop]; omega
theorem head58_le (l : List UInt8) : (head58 l).length ≤ l.length := (List.takeWhile_sublist _).length_le
theorem trim_len (l cs : List UInt8) : (Lib.trimS l cs).length ≤ l.length := by
  unfold Lib.trimS Lib.trimLeftS Lib.trimRightS
  refine Nat.le_trans (List.dropWhile_sublist _).length_le ?_
  rw [List.length_reverse]
  refine Nat.le_trans (List.dropWhile_sublist _).length_le ?_
  rw [List.length_reverse]
  exact Nat.le_refl _
theorem trim_any (z : List UInt8) (hz : z.length ≤ 1000) (w : World) : Calls Tryz.prog 111 #[.string ⟨z.toArray⟩, .string ⟨#[32, 9]⟩] w fun e w' =>
    e = .returned (.string ⟨(Lib.trimS z bl).toArray⟩) ∧ Below w.heap.size w w' :=
  (Tryz.strings_Trim ⟨z.toArray⟩ ⟨#[32, 9]⟩ w (by rw [mk_size]; omega) (by show 2 < _; omega) bl_ascii).mono fun _ _ ⟨h1, h2⟩ => ⟨by rw [h1, mk_toList]; rfl, h2⟩
theorem has_line {l : List UInt8} : has58 l = decide (58 ∈ l) := rfl

set_option maxRecDepth 100000 in
set_option maxHeartbeats 1000000 in
theorem line_any (s : ByteArray) (w : World) (hs : s.size ≤ 1000) : Calls Tryz.prog 95 #[.string s] w fun e w' =>
    e = .returned (lineV (lineP s.data.toList)) ∧ Below w.heap.size w w' := by
  have hsl := Lib.size_eq s
  by_cases h300 : 300 < s.size
  · rw [lineP_long (by omega)]
    clear hsl
    go_enter Tryz.func95, Tryz.ntmps95
    go_wp2_with fail
    refine bodyPost_ret (results_line rfl _ _ w.heap.size ⟨#[]⟩ ⟨#[]⟩ rfl (alloc_head _ _ _).1 (alloc_head _ _ _).2) rfl ?_
    exact ⟨rfl, below_new _ _⟩
  obtain ⟨a1, a2⟩ := alloc_head w (.string ⟨#[]⟩) (.string ⟨#[]⟩)
  have a3 := alloc_free w #[.string ⟨#[]⟩, .string ⟨#[]⟩] 41 0
  have a4 := alloc_free w #[.string ⟨#[]⟩, .string ⟨#[]⟩] 41 1
  have hb0 := below_new w (.cells #[.string ⟨#[]⟩, .string ⟨#[]⟩] 41)
  have hlt0 : w.heap.size < (w.alloc (.cells #[.string ⟨#[]⟩, .string ⟨#[]⟩] 41)).heap.size := by simp
  have hR : ∀ w2, Below (w.alloc (.cells #[.string ⟨#[]⟩, .string ⟨#[]⟩] 41)).heap.size (w.alloc (.cells #[.string ⟨#[]⟩, .string ⟨#[]⟩] 41)) w2 → w2.cell? ⟨w.heap.size, 0, none⟩ = some (.string ⟨#[]⟩) ∧ w2.cell? ⟨w.heap.size, 1, none⟩ = some (.string ⟨#[]⟩) ∧
      w2.frozen? ⟨w.heap.size, 0, none⟩ = false ∧ w2.frozen? ⟨w.heap.size, 1, none⟩ = false ∧ Below w.heap.size w w2 := fun w2 hb => ⟨(hb.cell (p := ⟨w.heap.size, 0, none⟩) hlt0).trans a1, (hb.cell (p := ⟨w.heap.size, 1, none⟩) hlt0).trans a2, (hb.frozen (p := ⟨w.heap.size, 0, none⟩) hlt0).trans a3, (hb.frozen (p := ⟨w.heap.size, 1, none⟩) hlt0).trans a4, Below.and hb0 hb⟩
  have HR := Lib.hid hR
  clear a1 a2 a3 a4 hb0 hR
  have c0 := Lib.hid fun w => cut58_any s w (by unfold maxLen; omega)
  have hn1 : (head58 s.data.toList).length ≤ 1000 := Nat.le_trans (head58_le _) (by omega)
  have ht1 : (tail58 s.data.toList).length ≤ 1000 := Nat.le_trans (tail58_len _) (by omega)
  have c3 := Lib.hid fun w => trim_any (tail58 s.data.toList) ht1 w
  have hv1 : (Lib.trimS (tail58 s.data.toList) bl).length ≤ 1000 := Nat.le_trans (trim_len _ _) ht1
  have E0 := @lineP_no s.data.toList
  have E1 := @lineP_bad s.data.toList
  have E2 := @lineP_good s.data.toList (by omega)
  have hh := @has_line s.data.toList
  unfold okH at E1 E2
  generalize head58 s.data.toList = n at *
  generalize Lib.trimS (tail58 s.data.toList) bl = v at *
  generalize tail58 s.data.toList = t at *
  dsimp only at E1 E2
  cases hq : has58 s.data.toList with
  | false =>
    rw [hq] at c0
    have E := Lib.hid (E0 (of_decide_eq_false (by rw [← hh, hq])))
    clear E0 E1 E2 hh hq hsl
    go_enter Tryz.func95, Tryz.ntmps95
    go_wp2_with fail
    generalize w.alloc (.cells #[.string ⟨#[]⟩, .string ⟨#[]⟩] 41) = w1 at *
    go_at_call 108
    refine (c0.out _).mono ?_
    rintro e w2 ⟨rfl, n2, rfl⟩
    go_wp2_with fail
    go_at_call 111
    refine (c3.out _).mono ?_
    rintro e w3 ⟨rfl, b3⟩
    have B3 : Below w1.heap.size w1 w3 := Below.trans (below_drewN (Below.refl _ w1) n2) b3
    obtain ⟨d0, d1, d2, d3, d4⟩ := HR.out w3 B3
    go_wp2_with fail
    refine bodyPost_ret (results_line rfl _ _ w.heap.size ⟨#[]⟩ ⟨#[]⟩ rfl (set_head _ _ _ _ _ _ d0 d1).1 (set_head _ _ _ _ _ _ d0 d1).2) rfl ?_
    rw [E.out]
    exact ⟨rfl, set_head_below d4 (Nat.le_refl _) _ _⟩
  | true =>
    rw [hq] at c0
    have hm : 58 ∈ s.data.toList := of_decide_eq_true (by rw [← hh, hq])
    cases q1 : isNm n with
    | false =>
      have cn := Lib.hid (isName_anyL n hn1 false q1)
      have E := Lib.hid (E1 (by rw [q1]; rfl))
      clear E0 E1 E2 hh hq hsl q1 hm
      go_enter Tryz.func95, Tryz.ntmps95
      go_wp2_with fail
      generalize w.alloc (.cells #[.string ⟨#[]⟩, .string ⟨#[]⟩] 41) = w1 at *
      go_at_call 108
      refine (c0.out _).mono ?_
      rintro e w2 ⟨rfl, n2, rfl⟩
      go_wp2_with fail
      go_at_call 111
      refine (c3.out _).mono ?_
      rintro e w3 ⟨rfl, b3⟩
      have B3 : Below w1.heap.size w1 w3 := Below.trans (below_drewN (Below.refl _ w1) n2) b3
      obtain ⟨d0, d1, d2, d3, d4⟩ := HR.out w3 B3
      go_wp2_with fail
      go_at_call 58
      refine (cn.out _).mono ?_
      rintro e w4 ⟨rfl, rfl⟩
      go_wp2_with fail
      refine bodyPost_ret (results_line rfl _ _ w.heap.size ⟨#[]⟩ ⟨#[]⟩ rfl (set_head _ _ _ _ _ _ d0 d1).1 (set_head _ _ _ _ _ _ d0 d1).2) rfl ?_
      rw [E.out]
      exact ⟨rfl, set_head_below d4 (Nat.le_refl _) _ _⟩
    | true =>
      have cn := Lib.hid (isName_anyL n hn1 true q1)
      cases q2 : isVl v with
      | false =>
        have cv := Lib.hid (isValue_anyL v hv1 false q2)
        have E := Lib.hid (E1 (by rw [q1, q2]; rfl))
        clear E0 E1 E2 hh hq hsl q1 q2 hm
        go_enter Tryz.func95, Tryz.ntmps95
        go_wp2_with fail
        generalize w.alloc (.cells #[.string ⟨#[]⟩, .string ⟨#[]⟩] 41) = w1 at *
        go_at_call 108
        refine (c0.out _).mono ?_
        rintro e w2 ⟨rfl, n2, rfl⟩
        go_wp2_with fail
        go_at_call 111
        refine (c3.out _).mono ?_
        rintro e w3 ⟨rfl, b3⟩
        have B3 : Below w1.heap.size w1 w3 := Below.trans (below_drewN (Below.refl _ w1) n2) b3
        obtain ⟨d0, d1, d2, d3, d4⟩ := HR.out w3 B3
        go_wp2_with fail
        go_at_call 58
        refine (cn.out _).mono ?_
        rintro e w4 ⟨rfl, rfl⟩
        go_wp2_with fail
        go_at_call 59
        refine (cv.out _).mono ?_
        rintro e w4 ⟨rfl, rfl⟩
        go_wp2_with fail
        refine bodyPost_ret (results_line rfl _ _ w.heap.size ⟨#[]⟩ ⟨#[]⟩ rfl (set_head _ _ _ _ _ _ d0 d1).1 (set_head _ _ _ _ _ _ d0 d1).2) rfl ?_
        rw [E.out]
        exact ⟨rfl, set_head_below d4 (Nat.le_refl _) _ _⟩
      | true =>
        have cv := Lib.hid (isValue_anyL v hv1 true q2)
        have E := Lib.hid (E2 hm (by rw [q1, q2]; rfl))
        clear E0 E1 E2 hh hq hsl q1 q2 hm
        go_enter Tryz.func95, Tryz.ntmps95
        go_wp2_with fail
        generalize w.alloc (.cells #[.string ⟨#[]⟩, .string ⟨#[]⟩] 41) = w1 at *
        go_at_call 108
        refine (c0.out _).mono ?_
        rintro e w2 ⟨rfl, n2, rfl⟩
        go_wp2_with fail
        go_at_call 111
        refine (c3.out _).mono ?_
        rintro e w3 ⟨rfl, b3⟩
        have B3 : Below w1.heap.size w1 w3 := Below.trans (below_drewN (Below.refl _ w1) n2) b3
        go_wp2_with fail
        go_at_call 58
        refine (cn.out _).mono ?_
        rintro e w4 ⟨rfl, rfl⟩
        go_wp2_with fail
        go_at_call 59
        refine (cv.out _).mono ?_
        rintro e w4 ⟨rfl, rfl⟩
        have con := Lib.hid (clone_anyL n v w3 hn1 hv1)
        go_wp2_with fail
        go_at_call 112
        refine con.out.mono ?_
        rintro e w4 ⟨rfl, b4⟩
        obtain ⟨d0, d1, d2, d3, d4⟩ := HR.out w4 (B3.trans (b4.mono B3.size))
        go_wp2_with fail
        refine bodyPost_ret (results_line rfl _ _ w.heap.size ⟨n.toArray⟩ ⟨v.toArray⟩ rfl (set_head _ _ _ _ _ _ d0 d1).1 (set_head _ _ _ _ _ _ d0 d1).2) rfl ?_
        rw [E.out]
        exact ⟨rfl, set_head_below d4 (Nat.le_refl _) _ _⟩
end Go.Proofs.YthniggdimfldhaaGreatDoor
