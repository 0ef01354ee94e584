/- The program's Bytes. -/
import Derived.Test.YtajkbkllgbalkaaUh
namespace Go.Proofs.Ytajkbkllgbalkaa
open Go Go.RowKit

def outB (p : Psh) : Bs := if checkP p then bytesP p else []
theorem write_len {p : Psh} (hc : checkP p = true) (k : Nat) (hk : k < 8) (hm : (fldL p.kind).contains k = true) : (writeF p k).length ≤ 66000000 := by
  have hs := check_all hc k hk
  unfold stepK at hs
  rw [if_pos hm] at hs
  have num : ∀ n : Nat, (rowB n 7).length ≤ 66000000 := fun n => by rw [rowB_len]; omega
  match k, hk, hs with
  | 0, _, _ => exact num _
  | 1, _, _ => exact num _
  | 2, _, _ => exact num _
  | 3, _, _ => exact num _
  | 4, _, _ => exact num _
  | 5, _, _ => exact num _
  | 6, _, hs =>
    have hs : decide (p.text.length ≤ 65536) = true := hs
    have hs := of_decide_eq_true hs
    show (rowB p.text.length 3 ++ p.text).length ≤ _
    rw [List.length_append, rowB_len]; omega
  | 7, _, hs =>
    have hs : areL p.lines = true := hs
    unfold areL at hs
    rw [Bool.and_eq_true, Bool.and_eq_true, decide_eq_true_iff, decide_eq_true_iff] at hs
    obtain ⟨⟨_, h1⟩, h2⟩ := hs
    have h3 := flat_len (l := p.lines) (m := 65536) fun s hs => Nat.le_trans (sum_mem hs) h2
    have h4 := Nat.mul_le_mul_right (65536 + 3) h1
    show (rowB p.lines.length 2 ++ p.lines.flatMap cntL).length ≤ _
    rw [List.length_append, rowB_len]; omega
theorem preW_len {p : Psh} (hc : checkP p = true) : (preW p 8).length ≤ 600000000 := by
  have key : ∀ k, k ≤ 8 → (preW p k).length ≤ k * 66000000 := fun k => by
    induction k with
    | zero => intro _; exact Nat.le_refl _
    | succ k ih =>
      intro hk
      rw [preW_succ, List.length_append, Nat.succ_mul]
      refine Nat.add_le_add (ih (by omega)) ?_
      by_cases hm : (fldL p.kind).contains k = true
      · rw [if_pos hm]
        exact write_len hc k (by omega) hm
      · rw [if_neg hm]; exact Nat.zero_le _
  have := key 8 (Nat.le_refl _)
  omega
/-- what Bytes leaves -/
def BytP (p : Psh) (w : World) (e : Ending) (w' : World) : Prop := ∃ (A : Option Addr) (c : Nat), e = .returned (.tuple #[.slice A (outB p).length c, .int .i64 (errI (checkP p))]) ∧ RowG w' w.heap.size A c (outB p) ∧ Below w.heap.size w w'
set_option maxRecDepth 100000 in
theorem bytes_prog {w : World} {p : Psh} {B : Option Addr} {n d : Nat} (hp : PsIn w.heap.size w p B n d) :
    Calls Try.prog 12 #[.agg (pshA p B n d)] w (BytP p w) := by
  have hb := below_new w (.cells (pshA p B n d) 24)
  have hbs := hb.size
  have CC := Lib.hid (check_any (w := w.alloc (.cells (pshA p B n d) 24)) (hp.keep fun j hj => hb.block j hj) hbs)
  have HX := Lib.hid (box_new w 24 (pshA p B n d))
  have HB := Lib.hid hb
  have d0 : (w.alloc (.cells (pshA p B n d) 24)).cell? ⟨w.heap.size, 0, none⟩ = some (.int .i64 p.kind) := by rw [psh_cell]; rfl
  unfold BytP
  cases hc : checkP p with
  | false =>
    have HO : Hid (outB p = []) := Lib.hid (by unfold outB; rw [hc]; rfl)
    rw [hc] at CC
    rw [HO.out]
    clear hp hb hbs hc d0
    go_enter Try.func12, Try.ntmps12
    go_upto_region 1 with fail
    generalize w.alloc (.cells (pshA p B n d) 24) = w2 at *
    go_wp2_with (first
      | (refine wpList_load_row rfl 24 (.tmp 1) rfl w.heap.size rfl 24 _ (0, 0) _ HX.out Try.underlying24 rfl pshInfo ?_)
      | (go_at_call 15; refine CC.out.mono ?_; rintro E w1 ⟨rfl, hb1⟩; have B1 := Lib.hid (HB.out.trans (hb1.mono HB.out.size)); clear hb1))
    go_ret2
    exact ⟨none, 0, rfl, RowG.nil _ _, B1.out⟩
  | true =>
    have HO : Hid (outB p = rowB p.kind.toNat 1 ++ preW p 8) := Lib.hid (by unfold outB; rw [hc, preW_8]; rfl)
    have hk := check_kind hc
    obtain ⟨k, hkk⟩ : ∃ k : Nat, p.kind = (k : Int) := ⟨p.kind.toNat, by omega⟩
    have hl : (rowB k 1 ++ preW p 8).length ≤ 1000000000 := by have := preW_len hc; rw [List.length_append, rowB_len]; omega
    rw [hc, show errI true = 0 from rfl] at CC
    rw [show errI true = 0 from rfl]
    have e1 : p.kind.toNat = k := by omega
    rw [e1] at HO
    rw [HO.out]
    have CN := Lib.hid fun (w2 : World) (h2 : w.heap.size + 1 ≤ w2.heap.size) => number_prog (base := w.heap.size + 1) (w := w2) k 1 (RowG.nil w2 (w.heap.size + 1)) rfl h2 (by decide) (by decide)
    have CT : Hid (∀ (A : Option Addr) (c : Nat) (w2 : World), RowG w2 (w.heap.size + 1) A c ([] ++ rowB k 1) → Below w.heap.size w w2 → Box w2 w.heap.size 24 (pshA p B n d) → Calls Try.prog 34 #[.int .i64 (fldN p.kind), .slice A 1 c, .func (.func 36) #[] #[.pointer (some ⟨w.heap.size, 0, none⟩)]] w2 (GrewP (w.heap.size + 1) A ([] ++ rowB k 1) (preW p 8) w2)) := Lib.hid fun A c w2 hR hb2 hx =>
      trav_bytes (base := w.heap.size + 1) (g := w.heap.size) (p := p) hR (rowB_len k 1) hl (fun j A' c' l w' hj hm hr hll hg => by
        have hne : A ≠ some ⟨w.heap.size, 0, none⟩ := fun e => by have h2 := (hR.lt e).1; omega
        refine bytes1_any (D := w.heap.size) hr rfl ?_ hll ((hp.keep fun i hi => hb2.block i hi).keep fun i hi => hg.below.block i (by omega)) (Nat.le_succ _) hc ?_ j hj hm
        · have := hg.below.size; have := hx.lt; omega
        · exact (hg.old w.heap.size hx.lt hne).trans hx)
    have hrl := rowB_len k 1
    have hs1 : w.heap.size + 1 ≤ (w.alloc (.cells (pshA p B n d) 24)).heap.size := by simp
    have HS1 := Lib.hid hs1
    rw [hkk] at d0
    have HW : Hid (∀ w1, Below (w.alloc (.cells (pshA p B n d) 24)).heap.size (w.alloc (.cells (pshA p B n d) 24)) w1 → w1.cell? ⟨w.heap.size, 0, none⟩ = some (.int .i64 k) ∧ Box w1 w.heap.size 24 (pshA p B n d) ∧ w.heap.size + 1 ≤ w1.heap.size) := Lib.hid fun w1 h1 => ⟨by rw [(HX.out.below h1).cell]; show some (Value.int .i64 p.kind) = _; rw [hkk], HX.out.below h1, Nat.le_trans hs1 h1.size⟩
    have HK0 : Hid (∀ w1, Box w1 w.heap.size 24 (pshA p B n d) → w1.cell? ⟨w.heap.size, 0, none⟩ = some (.int .i64 k)) := Lib.hid fun w1 h1 => by rw [h1.cell]; show some (Value.int .i64 p.kind) = _; rw [hkk]
    rw [hkk] at CT
    unfold GrewP at *
    clear hp hb hbs hc hk hkk e1 hl HO hs1
    generalize preW p 8 = Z at *
    generalize rowB k 1 = Y at *
    go_enter Try.func12, Try.ntmps12
    go_upto_region 1 with fail
    generalize w.alloc (.cells (pshA p B n d) 24) = w2 at *
    go_wp2_with (first
      | (refine wpList_load_row rfl 24 (.tmp 1) rfl w.heap.size rfl 24 _ (0, 0) _ HX.out Try.underlying24 rfl pshInfo ?_)
      | (go_at_call 15; refine CC.out.mono ?_; rintro E w1 ⟨rfl, hb1⟩; have B1 := Lib.hid (HB.out.trans (hb1.mono HB.out.size)); have W1 := Lib.hid (HW.out w1 hb1); have e1 := W1.out.1; clear hb1 d0)
      | (go_at_call 33; refine (CN.out w1 W1.out.2.2).mono ?_; rintro E w3 ⟨A3, c3, rfl, hr3, hg3⟩; have R3 := Lib.hid hr3; have G3 := Lib.hid hg3; have X3 : Hid (Box w3 w.heap.size 24 (pshA p B n d)) := Lib.hid ((hg3.below.block w.heap.size (Nat.lt_succ_self _)).trans W1.out.2.1); have e3 := HK0.out w3 X3.out; have B3 := Lib.hid (B1.out.trans (hg3.below.mono (Nat.le_succ _))); clear hr3 hg3 e1)
      | (go_at_call 35; refine (fieldsOf_any _ _).mono ?_; rintro E w4 ⟨rfl, rfl⟩)
      | (go_at_call 34; refine (CT.out A3 c3 w3 R3.out B3.out X3.out).mono ?_; rintro E w5 ⟨A5, c5, rfl, hr5, hg5⟩; have R5 := Lib.hid hr5; have B5 := Lib.hid (B3.out.trans (hg5.below.mono (Nat.le_succ _))); clear hr5 hg5))
    go_ret2
    exact ⟨A5, c5, by simp [hrl], R5.out.up (Nat.le_succ _), B5.out⟩
end Go.Proofs.Ytajkbkllgbalkaa
