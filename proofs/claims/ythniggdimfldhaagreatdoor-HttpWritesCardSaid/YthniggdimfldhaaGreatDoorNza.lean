/- The program: what a message's bytes are. The program: Itoa of small numbers, the first line, what stands ahead of a body. -/
import Derived.Test.YthniggdimfldhaaGreatDoorNx
import Derived.Test.YthniggdimfldhaaGreatDoorNt
import Derived.Lib.AppendIntMem
import Derived.Test.YthniggdimfldhaaGreatDoorNr
namespace Go.Proofs.YthniggdimfldhaaGreatDoor
open Go Go.RowKit

theorem dgt_dec (v : Nat) (h : v < 10) : UInt8.ofNat (48 + v) = dgt v := by unfold dgt; rw [if_pos h]
set_option maxRecDepth 100000 in
theorem word_any (n : Int) (w : World) : Calls Tryz.prog 14 #[.int .i64 n] w fun e w' => e = .returned (.string ⟨(wordOf n).toArray⟩) ∧ w = w' := by
  have H := Lib.hid (show wordOf n = _ from rfl)
  unfold wordOf
  by_cases h1 : n = 200
  · subst h1
    go_enter Tryz.func14, Tryz.ntmps14
    go_wp2_with fail
    go_ret
    exact ⟨rfl, rfl⟩
  by_cases h2 : n = 400
  · subst h2
    go_enter Tryz.func14, Tryz.ntmps14
    go_wp2_with fail
    go_ret
    exact ⟨rfl, rfl⟩
  by_cases h3 : n = 403
  · subst h3
    go_enter Tryz.func14, Tryz.ntmps14
    go_wp2_with fail
    go_ret
    exact ⟨rfl, rfl⟩
  by_cases h4 : n = 404
  · subst h4
    go_enter Tryz.func14, Tryz.ntmps14
    go_wp2_with fail
    go_ret
    exact ⟨rfl, rfl⟩
  by_cases h5 : n = 503
  · subst h5
    go_enter Tryz.func14, Tryz.ntmps14
    go_wp2_with fail
    go_ret
    exact ⟨rfl, rfl⟩
  by_cases h6 : n = 504
  · subst h6
    go_enter Tryz.func14, Tryz.ntmps14
    go_wp2_with fail
    go_ret
    exact ⟨rfl, rfl⟩
  · rw [if_neg h1, if_neg h2, if_neg h3, if_neg h4, if_neg h5, if_neg h6]
    have e1 : (n == 200) = false := by rw [beq_eq_false_iff_ne]; exact h1
    have e2 : (n == 400) = false := by rw [beq_eq_false_iff_ne]; exact h2
    have e3 : (n == 403) = false := by rw [beq_eq_false_iff_ne]; exact h3
    have e4 : (n == 404) = false := by rw [beq_eq_false_iff_ne]; exact h4
    have e5 : (n == 503) = false := by rw [beq_eq_false_iff_ne]; exact h5
    have e6 : (n == 504) = false := by rw [beq_eq_false_iff_ne]; exact h6
    clear h1 h2 h3 h4 h5 h6 H
    go_enter Tryz.func14, Tryz.ntmps14
    go_wp2_with fail
    go_ret
    exact ⟨rfl, rfl⟩
end Go.Proofs.YthniggdimfldhaaGreatDoor
namespace Go.Proofs.YthniggdimfldhaaGreatDoor
open Go Go.RowKit

theorem dec_more {u : Nat} (h : ¬ u < 10) : Lib.decDigits u = Lib.decDigits (u / 10) ++ [UInt8.ofNat (48 + u % 10)] := by rw [Lib.decDigits, dif_neg h]
theorem dec_one {u : Nat} (h : u < 10) : Lib.decDigits u = [dgt u] := by rw [Lib.decDigits_one h, dgt_dec u h]
theorem dec_snoc {u : Nat} (h : ¬ u < 10) : Lib.decDigits u = Lib.decDigits (u / 10) ++ [dgt (u % 10)] := by rw [dec_more h, dgt_dec _ (Nat.mod_lt _ (by decide))]
theorem dec_digs {n : Nat} (h : n < 10000) : Lib.decDigits n = digs 10 n := by
  unfold digs
  by_cases h1 : n < 10
  · rw [if_pos h1, dec_one h1]
  rw [if_neg h1, dec_snoc h1]
  by_cases h2 : n < 10 * 10
  · rw [if_pos h2, dec_one (by omega)]
    rfl
  rw [if_neg h2, dec_snoc (u := n / 10) (by omega), Nat.div_div_eq_div_mul]
  by_cases h3 : n < 10 * 10 * 10
  · rw [if_pos h3, dec_one (by omega)]
    rfl
  rw [if_neg h3, dec_snoc (u := n / (10 * 10)) (by omega), Nat.div_div_eq_div_mul, dec_one (by omega)]
  rfl
theorem itoa_any (n : Nat) (hn : n < 10000) (w : World) (hG : Gl w) : Calls Tryz.prog 24 #[.int .i64 n] w fun e w' => e = .returned (.string ⟨(digs 10 n).toArray⟩) ∧ Below w.heap.size w w' :=
  (Tryz.strconv_Itoa n (by omega) (by omega) w hG.pw).mono fun e w' ⟨h1, k, os, h2⟩ => by
    subst h2
    rw [h1]
    refine ⟨?_, Lib.below_grow _ w (Nat.le_refl _) k os⟩
    unfold Lib.itoa
    rw [if_neg (by omega), Int.toNat_natCast, dec_digs hn]
theorem ok_req {m : Msg} (h : okM m = true) : reqB m.meth m.path m.status m.heads = decide (m.status = 0) := by
  rw [okM_is, Bool.and_eq_true, Bool.or_eq_true] at h
  rcases h.1 with h | h
  · rw [h]
    unfold reqB at h
    simp only [Bool.and_eq_true] at h
    exact h.2.2.1.symm
  · have h0 := h
    unfold ansB at h
    simp only [Bool.and_eq_true, beq_iff_eq] at h
    obtain ⟨h1, _, h3⟩ := h
    unfold isSt at h3
    simp only [Bool.and_eq_true, decide_eq_true_eq] at h3
    rw [decide_eq_false (by omega)]
    unfold reqB
    rw [h1]
    rfl
theorem ok_status {m : Msg} (h : okM m = true) (h0 : m.status ≠ 0) : ∃ n : Nat, m.status = n ∧ n < 10000 := by
  rcases (okM_split h).1 with h | h
  · unfold isReq at h
    simp only [Bool.and_eq_true, decide_eq_true_eq] at h
    exact absurd h.2.2 h0
  · unfold isAns isSt at h
    simp only [Bool.and_eq_true, decide_eq_true_eq] at h
    exact ⟨m.status.toNat, by omega, by omega⟩
theorem first_ans {m : Msg} {n : Nat} (hn : m.status = n) (h0 : m.status ≠ 0) : (⟨#[72, 84, 84, 80, 47, 49, 46, 49, 32]⟩ : ByteArray) ++ ⟨(digs 10 n).toArray⟩ ++ ⟨#[32]⟩ ++ ⟨(wordOf m.status).toArray⟩ = ⟨(firstS m).toArray⟩ := by
  rw [show (⟨#[72, 84, 84, 80, 47, 49, 46, 49, 32]⟩ : ByteArray) = ⟨(ver ++ [32]).toArray⟩ from rfl, show (⟨#[32]⟩ : ByteArray) = ⟨[32].toArray⟩ from rfl, cat_mk, cat_mk, cat_mk]
  unfold firstS
  rw [if_pos h0, hn, Int.toNat_natCast]
theorem first_req {m : Msg} (h0 : m.status = 0) : (⟨m.meth.toArray⟩ : ByteArray) ++ ⟨#[32]⟩ ++ ⟨m.path.toArray⟩ ++ ⟨#[32]⟩ ++ ⟨#[72, 84, 84, 80, 47, 49, 46, 49]⟩ = ⟨(firstS m).toArray⟩ := by
  rw [show (⟨#[72, 84, 84, 80, 47, 49, 46, 49]⟩ : ByteArray) = ⟨ver.toArray⟩ from rfl, show (⟨#[32]⟩ : ByteArray) = ⟨[32].toArray⟩ from rfl, cat_mk, cat_mk, cat_mk, cat_mk]
  unfold firstS
  rw [if_neg (by omega)]
theorem first_req_len {m : Msg} (hok : okM m = true) (h0 : m.status = 0) : m.meth.length + m.path.length + 10 ≤ 300 := by
  have h := (first_ok hok).2.1
  unfold firstS at h
  rw [if_neg (by omega)] at h
  simp only [List.length_append, List.length_cons, List.length_nil] at h
  have : ver.length = 8 := rfl
  omega
theorem first_ans_len {m : Msg} {n : Nat} (hok : okM m = true) (hn : m.status = n) (h0 : m.status ≠ 0) : (digs 10 n).length + (wordOf m.status).length + 10 ≤ 300 := by
  have h := (first_ok hok).2.1
  unfold firstS at h
  rw [if_pos h0, hn, Int.toNat_natCast] at h
  rw [hn]
  simp only [List.length_append, List.length_cons, List.length_nil] at h
  have : ver.length = 8 := rfl
  omega
set_option maxRecDepth 100000 in
set_option maxHeartbeats 1000000 in
theorem firstLineOf_any (m : Msg) (hV bV : Value) (w : World) (hv : Hs w hV m.heads) (hsm : Sm m.heads) (hp : m.path.length ≤ 1000000) (hG : Gl w) (hok : okM m = true) :
    Calls Tryz.prog 51 #[.agg #[.string ⟨m.meth.toArray⟩, .string ⟨m.path.toArray⟩, .int .i64 m.status, hV, bV]] w fun e w' => e = .returned (.string ⟨(firstS m).toArray⟩) ∧ Below w.heap.size w w' := by
  have hb := below_new w (.cells #[.string ⟨m.meth.toArray⟩, .string ⟨m.path.toArray⟩, .int .i64 m.status, hV, bV] 25)
  have C1 := isRequest_any m.meth m.path m.status hV bV m.heads _ (hv.below hb) hsm hp
  rw [ok_req hok] at C1
  have CS := Lib.hid (box_cs w m.meth m.path m.status hV bV)
  have B1 := Lib.hid hb
  have HS := Lib.hid (ok_status hok)
  have HG := Lib.hid fun w' (h : Below w.heap.size w w') => hG.fresh h
  have CW := Lib.hid fun w => word_any m.status w
  have F1 := @first_ans m
  have F2 := Lib.hid (@first_req m)
  have Z1 := Lib.hid (first_req_len hok)
  have Z2 := Lib.hid fun n => first_ans_len (n := n) hok
  clear hb hv hp hsm hG hok
  generalize firstS m = fs at *
  generalize wordOf m.status = wo at *
  generalize m.meth = a at *
  generalize m.path = p at *
  by_cases h0 : m.status = 0
  · have F := Lib.hid (F2.out h0)
    have z1 := Z1.out h0
    clear Z2
    rw [decide_eq_true h0] at C1
    have C1 := Lib.hid C1
    clear F1 F2 HS CW
    generalize m.status = n at *
    subst h0
    go_enter Tryz.func51, Tryz.ntmps51
    go_wp2_with fail
    generalize w.alloc (.cells #[.string ⟨a.toArray⟩, .string ⟨p.toArray⟩, .int .i64 0, hV, bV] 25) = w1 at *
    go_at_call 29
    refine C1.out.mono ?_
    rintro e w2 ⟨rfl, hb2⟩
    have HC := Lib.hid (CS.out.keep hb2.size (hb2.block _ CS.out.lt))
    have B2 := Lib.hid (Below.trans B1.out (hb2.mono B1.out.size))
    have d0 := HC.out.c 0 (by simp)
    have d1 := HC.out.c 1 (by simp)
    clear hb2 C1
    go_wp2_with fail
    go_ret
    exact ⟨ret_str F.out, B2.out⟩
  · obtain ⟨n, hn, hn2⟩ := HS.out h0
    have F := Lib.hid (F1 hn h0)
    have z1 := Z2.out n hn h0
    have q1 : (⟨#[72, 84, 84, 80, 47, 49, 46, 49, 32]⟩ : ByteArray).size = 9 := rfl
    have q2 : (⟨#[32]⟩ : ByteArray).size = 1 := rfl
    have q3 := mk_size (digs 10 n)
    have q4 := mk_size (wo)
    have s1 : ∀ w', (Op.stringOp .add ⟨#[72, 84, 84, 80, 47, 49, 46, 49, 32]⟩ ⟨(digs 10 n).toArray⟩).run Tryz.prog w' = .ok (.string (⟨#[72, 84, 84, 80, 47, 49, 46, 49, 32]⟩ ++ ⟨(digs 10 n).toArray⟩)) w' := fun w' => run_string_add_sum w' _ _ (by omega)
    have s2 : ∀ w', (Op.stringOp .add (⟨#[72, 84, 84, 80, 47, 49, 46, 49, 32]⟩ ++ ⟨(digs 10 n).toArray⟩) ⟨#[32]⟩).run Tryz.prog w' = .ok (.string (⟨#[72, 84, 84, 80, 47, 49, 46, 49, 32]⟩ ++ ⟨(digs 10 n).toArray⟩ ++ ⟨#[32]⟩)) w' := fun w' => run_string_add_sum w' _ _ (by rw [ByteArray.size_append]; omega)
    have s3 : ∀ w', (Op.stringOp .add (⟨#[72, 84, 84, 80, 47, 49, 46, 49, 32]⟩ ++ ⟨(digs 10 n).toArray⟩ ++ ⟨#[32]⟩) ⟨(wo).toArray⟩).run Tryz.prog w' = .ok (.string (⟨#[72, 84, 84, 80, 47, 49, 46, 49, 32]⟩ ++ ⟨(digs 10 n).toArray⟩ ++ ⟨#[32]⟩ ++ ⟨(wo).toArray⟩)) w' := fun w' => run_string_add_sum w' _ _ (by rw [ByteArray.size_append, ByteArray.size_append]; omega)
    clear Z1 Z2 q1 q2 q3 q4
    rw [decide_eq_false h0] at C1
    have C1 := Lib.hid C1
    clear F1 F2 HS
    generalize m.status = n' at *
    subst hn
    have CI := Lib.hid fun w' (h : Below w.heap.size w w') => itoa_any n hn2 w' (HG.out w' h)
    clear HG hn2 h0
    generalize digs 10 n = ds at *
    go_enter Tryz.func51, Tryz.ntmps51
    go_wp2_with fail
    generalize w.alloc (.cells #[.string ⟨a.toArray⟩, .string ⟨p.toArray⟩, .int .i64 n, hV, bV] 25) = w1 at *
    go_at_call 29
    refine C1.out.mono ?_
    rintro e w2 ⟨rfl, hb2⟩
    have HC := Lib.hid (CS.out.keep hb2.size (hb2.block _ CS.out.lt))
    have B2 : Hid (Below w.heap.size w w2.drew) := below_drewN (Below.trans B1.out (hb2.mono B1.out.size)) 1
    have d2 := HC.out.c 2 (by simp)
    have HL : Hid (w.heap.size < w2.heap.size) := HC.out.lt
    clear hb2 C1 CS HC B1
    generalize hg : w.heap.size = g at *
    have HK : Hid (∀ w', Below w2.drew.heap.size w2.drew w' → w'.cell? ⟨g, 2, none⟩ = some (.int .i64 n)) := fun w' h => (h.cell (p := ⟨g, 2, none⟩) HL.out).trans d2
    have HG2 : Hid (g ≤ w2.drew.heap.size) := by show g ≤ _; rw [← hg]; exact B2.out.size
    go_wp2_with fail
    go_region_held3 (fun w' => w'.cell? ⟨g, 2, none⟩ = some (.int .i64 n)) (first | exact d2 | exact Hid.out (by assumption))
      ((first
        | (go_at_call 24; refine Calls.mono (CI.out _ (Hid.out (by assumption))) ?_; rintro e w3 ⟨rfl, hb3⟩; have K3 := Lib.hid (HK.out w3 hb3); have B3 := Lib.hid (Below.trans B2.out (hb3.mono HG2.out)))
        | (go_at_call 14; refine (CW.out _).mono ?_; rintro e w' ⟨rfl, rfl⟩)))
    all_goals
      go_wp2_with fail
      go_ret
      exact ⟨ret_str F.out, by rw [hg]; exact Hid.out (by assumption)⟩
end Go.Proofs.YthniggdimfldhaaGreatDoor
