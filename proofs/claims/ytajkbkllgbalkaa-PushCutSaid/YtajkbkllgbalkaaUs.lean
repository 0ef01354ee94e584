/- The program's Apply. -/
import Derived.Test.YtajkbkllgbalkaaUr
namespace Go.Proofs.Ytajkbkllgbalkaa
open Go Go.RowKit

/-- lines, each with a line feed -/
def joinL (l : List Bs) : Bs := l.flatMap fun s => s ++ [10]
theorem joinL_app (a b : List Bs) : joinL (a ++ b) = joinL a ++ joinL b := by unfold joinL; rw [List.flatMap_append]
theorem joinL_cons (s : Bs) (l : List Bs) : joinL (s :: l) = s ++ [10] ++ joinL l := by unfold joinL; rw [List.flatMap_cons]
theorem joinL_len (l : List Bs) : (joinL l).length = sumL l + l.length := by
  induction l with
  | nil => rfl
  | cons s l ih =>
    rw [joinL_cons, List.length_append, List.length_append, ih]
    unfold sumL
    rw [List.map_cons, List.sum_cons, List.length_cons, List.length_cons, List.length_nil]
    omega
theorem joinL_lines : ∀ (n : Nat) (l : Bs), l.length ≤ n → (joinL (Pl.lines l)).length ≤ l.length + 1
  | 0, l, h => by
    have : l = [] := List.eq_nil_of_length_eq_zero (by omega)
    subst this
    rw [Pl.lines_nil]; exact Nat.zero_le _
  | n + 1, l, h => by
    by_cases h0 : l = []
    · subst h0; rw [Pl.lines_nil]; exact Nat.zero_le _
    · rw [Pl.lines_cons h0, joinL_cons, List.length_append, List.length_append, List.length_singleton]
      have h1 := Pl.head10_len l
      have h2 := Pl.tail10_len h0
      have h3 := joinL_lines n (Pl.tail10 l) (by omega)
      have h4 := congrArg List.length (Pl.drop_head10 l)
      rw [List.length_drop] at h4
      by_cases ht : Pl.tail10 l = []
      · rw [ht, Pl.lines_nil]; simp [joinL]; omega
      · have : 0 < (Pl.tail10 l).length := List.length_pos_iff.2 ht
        omega
theorem joinL_take (l : List Bs) (k : Nat) : (joinL (l.take k)).length ≤ (joinL l).length := by
  conv => rhs; rw [← List.take_append_drop k l, joinL_app, List.length_append]
  omega
theorem joinL_drop (l : List Bs) (k : Nat) : (joinL (l.drop k)).length ≤ (joinL l).length := by
  conv => rhs; rw [← List.take_append_drop k l, joinL_app, List.length_append]
  omega
def applyL (old : List Bs) (p : Psh) : Bs × Int :=
  if (old.length : Int) < p.head + p.tail then ([], 2)
  else if 65536 < (joinL (old.take p.head.toNat ++ p.lines ++ old.drop (old.length - p.tail.toNat))).length then ([], 5)
  else (joinL (old.take p.head.toNat ++ p.lines ++ old.drop (old.length - p.tail.toNat)), 0)
def applyP (a : Bs) (p : Psh) : Bs × Int :=
  if p.kind ≠ 2 ∨ checkP p = false ∨ 65536 < a.length then ([], 2) else applyL (Pl.lines a) p
/-- what Apply hands back -/
def AppP (x : Bs × Int) (w : World) (E : Ending) (w' : World) : Prop := E = .returned (.tuple #[.string ⟨x.1.toArray⟩, .int .i64 x.2]) ∧ Below w.heap.size w w'
/-- three parts -/
def accL (x y z : List Bs) : Nat → Bs
  | 0 => []
  | 1 => joinL x
  | 2 => joinL x ++ joinL y
  | _ => joinL x ++ joinL y ++ joinL z
theorem accL_le (x y z : List Bs) : ∀ k, (accL x y z k).length ≤ (accL x y z 3).length
  | 0 => Nat.zero_le _
  | 1 => by show (joinL x).length ≤ (joinL x ++ joinL y ++ joinL z).length; rw [List.length_append, List.length_append]; omega
  | 2 => by show (joinL x ++ joinL y).length ≤ ((joinL x ++ joinL y) ++ joinL z).length; generalize joinL x ++ joinL y = u; rw [List.length_append]; omega
  | _ + 3 => Nat.le_refl _
theorem accL_3 (x y z : List Bs) : accL x y z 3 = joinL (x ++ y ++ z) := by rw [joinL_app, joinL_app]; rfl
theorem head_range {p : Psh} (hc : checkP p = true) (hk : p.kind = 2) : 0 ≤ p.head ∧ p.head ≤ 65536 ∧ 0 ≤ p.tail ∧ p.tail ≤ 65536 ∧ p.lines.length ≤ 1000 ∧ sumL p.lines ≤ 65536 := by
  have h4 := check_all hc 4 (by decide)
  have h5 := check_all hc 5 (by decide)
  have h7 := check_all hc 7 (by decide)
  unfold stepK at h4 h5 h7
  rw [hk] at h4 h5 h7
  rw [if_pos (by rfl)] at h4 h5 h7
  have a4 := (inR_iff _ _ _).1 h4
  have a5 := (inR_iff _ _ _).1 h5
  have a7 : areL p.lines = true := h7
  unfold areL at a7
  rw [Bool.and_eq_true, Bool.and_eq_true, decide_eq_true_iff, decide_eq_true_iff] at a7
  exact ⟨a4.1, a4.2, a5.1, a5.2, a7.1.2, a7.2⟩
set_option maxRecDepth 100000 in
set_option maxHeartbeats 2000000 in
theorem apply_prog (a : Bs) (w : World) (ha : a.length ≤ 1000000) {p : Psh} {B : Option Addr} {n d : Nat} (hp : PsIn w.heap.size w p B n d) :
    Calls Try.prog 27 #[.string ⟨a.toArray⟩, .agg (pshA p B n d)] w (AppP (applyP a p) w) := by
  have hZ := below_new w (.cells (pshA p B n d) 24)
  have HX := Lib.hid (box_new w 24 (pshA p B n d))
  have HB := Lib.hid hZ
  have d0 : (w.alloc (.cells (pshA p B n d) 24)).cell? ⟨w.heap.size, 0, none⟩ = some (.int .i64 p.kind) := by rw [psh_cell]; rfl
  unfold AppP
  by_cases hk : p.kind = 2
  rotate_left
  · have HV : Hid (applyP a p = ([], 2)) := Lib.hid (by unfold applyP; rw [if_pos (.inl hk)])
    have q1 : (p.kind == 2) = false := by rw [beq_eq_false_iff_ne]; exact hk
    have q2 : (p.kind != 2) = true := by unfold bne; rw [q1]; rfl
    clear hZ hk hp
    go_enter Try.func27, Try.ntmps27
    go_upto_region 1 with fail
    generalize w.alloc (.cells (pshA p B n d) 24) = w2 at *
    go_wp2_with fail
    go_ret2
    rw [HV.out]
    exact ⟨rfl, HB.out⟩
  have CC := Lib.hid (check_any (w := w.alloc (.cells (pshA p B n d) 24)) (hp.keep fun j hj => hZ.block j hj) hZ.size)
  rw [hk] at d0
  cases hc : checkP p with
  | false =>
    have HV : Hid (applyP a p = ([], 2)) := Lib.hid (by unfold applyP; rw [if_pos (.inr (.inl hc))])
    rw [hc, show errI false = 2 from rfl] at CC
    clear hZ hk hp hc
    go_enter Try.func27, Try.ntmps27
    go_upto_region 1 with fail
    generalize w.alloc (.cells (pshA p B n d) 24) = w2 at *
    go_wp2_with (first
      | (refine wpList_load_rowG rfl 24 (.tmp 3) rfl w.heap.size rfl 24 _ (0, 0) _ HX.out Try.underlying24 rfl pshInfo ?_)
      | (go_at_call 15; refine CC.out.mono ?_; rintro E w3 ⟨rfl, hb3⟩; have B3 := Lib.hid (HB.out.trans (hb3.mono HB.out.size)); clear hb3))
    go_ret2
    rw [HV.out]
    exact ⟨rfl, B3.out⟩
  | true =>
    rw [hc, show errI true = 0 from rfl] at CC
    by_cases h1 : 65536 < a.length
    · have HV : Hid (applyP a p = ([], 2)) := Lib.hid (by unfold applyP; rw [if_pos (.inr (.inr h1))])
      have CL := Lib.hid fun w' : World => lines_big ⟨a.toArray⟩ w' (by rw [mk_size]; exact h1) (by rw [mk_size]; unfold maxLen; omega)
      clear hZ hk hp hc h1
      go_enter Try.func27, Try.ntmps27
      go_upto_region 1 with fail
      generalize w.alloc (.cells (pshA p B n d) 24) = w2 at *
      go_wp2_with (first
        | (refine wpList_load_rowG rfl 24 (.tmp 3) rfl w.heap.size rfl 24 _ (0, 0) _ HX.out Try.underlying24 rfl pshInfo ?_)
        | (go_at_call 15; refine CC.out.mono ?_; rintro E w3 ⟨rfl, hb3⟩; have B3 := Lib.hid (HB.out.trans (hb3.mono HB.out.size)); clear hb3)
        | (go_at_call 60; refine (CL.out _).mono ?_; rintro E w4 ⟨rfl, rfl⟩))
      go_ret2
      rw [HV.out]
      exact ⟨rfl, B3.out⟩
    have HV : Hid (applyP a p = applyL (Pl.lines a) p) := Lib.hid (by unfold applyP; rw [if_neg (by rw [hc]; simp [hk, h1])])
    have CL := Lib.hid fun w' : World => lines_any ⟨a.toArray⟩ w' (by rw [mk_size]; omega)
    rw [mk_toList] at CL
    have HJ := Lib.hid (joinL_lines _ a (Nat.le_refl _))
    obtain ⟨r1, r2, r3, r4, r5, r6⟩ := head_range hc hk
    obtain ⟨h, hh⟩ : ∃ h : Nat, p.head = h := ⟨p.head.toNat, by omega⟩
    obtain ⟨t, ht⟩ : ∃ t : Nat, p.tail = t := ⟨p.tail.toNat, by omega⟩
    have HLF := Lib.hid (lines_few (a := a) (by omega))
    have HAL : Hid (∀ la, Pl.lines a = la → applyP a p = if la.length < h + t then ([], 2) else if 65536 < (joinL (la.take h ++ p.lines ++ la.drop (la.length - t))).length then ([], 5) else (joinL (la.take h ++ p.lines ++ la.drop (la.length - t)), 0)) := Lib.hid fun la e => by
      rw [HV.out, e]
      unfold applyL
      rw [hh, ht, show ((h : Int)).toNat = h by omega, show ((t : Int)).toNat = t by omega]
      by_cases hx : la.length < h + t
      · rw [if_pos hx, if_pos (by omega)]
      · rw [if_neg hx, if_neg (by omega)]
    have hh6 : h ≤ 65536 := by omega
    have ht6 : t ≤ 65536 := by omega
    have hw2 : (w.alloc (.cells (pshA p B n d) 24)).heap.size = w.heap.size + 1 := by simp
    have HPI := Lib.hid (hp.keep fun j hj => hZ.block j hj)
    have HJ2 : Hid ((joinL (Pl.lines a)).length ≤ 65537) := Lib.hid (by have := HJ.out; omega)
    have HQ6 : Hid ((joinL p.lines).length ≤ 66536) := Lib.hid (by rw [joinL_len]; omega)
    have HC8 : Hid (∀ w', Box w' w.heap.size 24 (pshA p B n d) → w'.cell? ⟨w.heap.size, 5, none⟩ = some (.int .i64 h) ∧ w'.cell? ⟨w.heap.size, 6, none⟩ = some (.int .i64 t) ∧ w'.cell? ⟨w.heap.size, 8, none⟩ = some (.slice B n d)) := Lib.hid fun w' hb => ⟨by rw [hb.cell]; show some (Value.int .i64 p.head) = _; rw [hh], by rw [hb.cell]; show some (Value.int .i64 p.tail) = _; rw [ht], hb.cell 8⟩
    clear hZ hk hp hc h1 HV HJ hh ht r1 r2 r3 r4 r5 r6 ha
    obtain ⟨la, hla⟩ : ∃ la, Pl.lines a = la := ⟨_, rfl⟩
    have HAL := Lib.hid (HAL.out la hla)
    rw [hla] at CL HLF HJ2
    clear hla
    have hlf := HLF.out
    have u1 : IntKind.i64.wrap ((h : Int) + t) = ((h + t : Nat) : Int) := by rw [IntKind.wrap_i64]; omega
    go_enter Try.func27, Try.ntmps27
    go_upto_region 1 with fail
    generalize w.alloc (.cells (pshA p B n d) 24) = w2 at *
    go_upto_region 4 with (first
      | (refine wpList_load_rowG rfl 24 (.tmp 3) rfl w.heap.size rfl 24 _ (0, 0) _ HX.out Try.underlying24 rfl pshInfo ?_)
      | (go_at_call 15; refine CC.out.mono ?_; rintro E w3 ⟨rfl, hb3⟩; have B3 := Lib.hid (HB.out.trans (hb3.mono HB.out.size)); have X3 := Lib.hid (HX.out.below hb3); have P3 := Lib.hid (HPI.out.keep fun j hj => hb3.block j (by omega)); clear hb3)
      | (go_at_call 60; refine (CL.out _).mono ?_; rintro E w4 ⟨v, rfl, ho4, hb4⟩; obtain ⟨A1, c1, rfl, ht4⟩ := ho4.ts; have T4 := Lib.hid ht4; have B4 := Lib.hid (B3.out.trans (hb4.mono B3.out.size)); have X4 := Lib.hid (X3.out.below hb4); have P4 := Lib.hid (P3.out.keep fun j hj => hb4.block j (Nat.lt_of_lt_of_le hj B3.out.size)); clear ho4 hb4 ht4))
    obtain ⟨e5, e6, e8⟩ := HC8.out w4 X4.out
    by_cases hlt : la.length < h + t
    · have q1 : ((la.length : Nat) : Int) < ((h + t : Nat) : Int) := by omega
      rw [if_pos hlt] at HAL
      clear hlt
      go_wp2_with fail
      go_ret2
      rw [HAL.out]
      exact ⟨rfl, B4.out⟩
    have q1 : ¬ ((la.length : Nat) : Int) < ((h + t : Nat) : Int) := by omega
    rw [if_neg hlt] at HAL
    clear CC CL d0 P3 X3 B3
    go_upto_region 7 with fail
    have hsz5 : (w4.alloc (.cells #[.pointer none, .slice none 0 0] 89)).heap.size = w4.heap.size + 1 := by simp
    have hb5 := below_new w4 (.cells #[.pointer none, .slice none 0 0] 89)
    have BX5 := Lib.hid (box_new w4 89 #[.pointer none, .slice none 0 0])
    have X5 := Lib.hid (X4.out.below hb5)
    have B5 := Lib.hid (B4.out.trans (hb5.mono B4.out.size))
    have T5 := Lib.hid (T4.out.keep fun j hj => hb5.block j hj)
    have P5 := Lib.hid (P4.out.keep fun j hj => hb5.block j (Nat.lt_of_lt_of_le hj B4.out.size))
    have hsw4 := B4.out.size
    have hxl4 := X4.out.lt
    clear hb5 X4 B4 T4 P4 e5 e6 e8
    generalize w4.alloc (.cells #[.pointer none, .slice none 0 0] 89) = w5 at *
    generalize w4.heap.size = g at *
    obtain ⟨k2, hk2⟩ : ∃ k2 : Nat, k2 = la.length - t := ⟨_, rfl⟩
    have u2 : IntKind.i64.wrap ((la.length : Int) - t) = k2 := by rw [IntKind.wrap_i64]; omega
    have hcap := T5.out.cap
    have hh1 : h ≤ c1 := by omega
    have hh2 : k2 ≤ la.length := by omega
    have HK2 := Lib.hid hk2
    clear hk2
    refine wp_region_held_drew (S := fun w' => Box w' w.heap.size 24 (pshA p B n d)) (by kernel_rfl) X5.out (fun hH => ?_)
    refine wpAnyH_take (i := 0) (v := .slice A1 la.length c1) rfl (by kernel_rfl) (by kernel_rfl) (by kernel_rfl) (fun _ _ _ h => h) (Or.inl ⟨by rfl, fun w' hw => by go_simp⟩) hH ?_
    simp only [Act.put, List.setIfInBounds_toArray, List.set_cons_zero, List.set_cons_succ, List.getElem_toArray, List.getElem_cons_zero]
    refine wpAnyH_take (i := 1) (v := .pointer (some ⟨w.heap.size, 5, none⟩)) rfl (by kernel_rfl) (by kernel_rfl) (by kernel_rfl) (fun _ _ _ h => h) (Or.inl ⟨by rfl, fun w' hw => by go_simp⟩) hH ?_
    simp only [Act.put, List.setIfInBounds_toArray, List.set_cons_zero, List.set_cons_succ, List.getElem_toArray, List.getElem_cons_zero, List.getElem_cons_succ]
    refine wpAnyH_take (i := 2) (v := .int .i64 (h : Nat)) rfl (by kernel_rfl) (by kernel_rfl) (by kernel_rfl) (fun _ _ _ h => h) (Or.inl ⟨by rfl, fun w' hw => by have hc : w'.cell? ⟨w.heap.size, 5, none⟩ = some (.int .i64 (h : Nat)) := (HC8.out w' hw).1; go_simp⟩) hH ?_
    simp only [Act.put, List.setIfInBounds_toArray, List.set_cons_zero, List.set_cons_succ, List.getElem_toArray, List.getElem_cons_zero, List.getElem_cons_succ]
    refine wpAnyH_take (i := 3) (v := .slice A1 (h : Nat) c1) rfl (by kernel_rfl) (by kernel_rfl) (by kernel_rfl) (fun _ _ _ h => h) (Or.inl ⟨by rfl, fun w' hw => run_sliceHi w' (.tmp 38) (.tmp 40) rfl A1 la.length c1 h rfl rfl hh1⟩) hH ?_
    simp only [Act.put, List.setIfInBounds_toArray, List.set_cons_zero, List.set_cons_succ, List.getElem_toArray, List.getElem_cons_zero, List.getElem_cons_succ]
    refine wpAnyH_take (i := 4) (v := .pointer (some ⟨w.heap.size, 8, none⟩)) rfl (by kernel_rfl) (by kernel_rfl) (by kernel_rfl) (fun _ _ _ h => h) (Or.inl ⟨by rfl, fun w' hw => by go_simp⟩) hH ?_
    simp only [Act.put, List.setIfInBounds_toArray, List.set_cons_zero, List.set_cons_succ, List.getElem_toArray, List.getElem_cons_zero, List.getElem_cons_succ]
    refine wpAnyH_take (i := 5) (v := .slice B n d) rfl (by kernel_rfl) (by kernel_rfl) (by kernel_rfl) (fun _ _ _ h => h) (Or.inl ⟨by rfl, fun w' hw => by have hc : w'.cell? ⟨w.heap.size, 8, none⟩ = some (.slice B n d) := (HC8.out w' hw).2.2; go_simp⟩) hH ?_
    simp only [Act.put, List.setIfInBounds_toArray, List.set_cons_zero, List.set_cons_succ, List.getElem_toArray, List.getElem_cons_zero, List.getElem_cons_succ]
    refine wpAnyH_take (i := 6) (v := .slice A1 la.length c1) rfl (by kernel_rfl) (by kernel_rfl) (by kernel_rfl) (fun _ _ _ h => h) (Or.inl ⟨by rfl, fun w' hw => by go_simp⟩) hH ?_
    simp only [Act.put, List.setIfInBounds_toArray, List.set_cons_zero, List.set_cons_succ, List.getElem_toArray, List.getElem_cons_zero, List.getElem_cons_succ]
    refine wpAnyH_take (i := 7) (v := .slice A1 la.length c1) rfl (by kernel_rfl) (by kernel_rfl) (by kernel_rfl) (fun _ _ _ h => h) (Or.inl ⟨by rfl, fun w' hw => by go_simp⟩) hH ?_
    simp only [Act.put, List.setIfInBounds_toArray, List.set_cons_zero, List.set_cons_succ, List.getElem_toArray, List.getElem_cons_zero, List.getElem_cons_succ]
    refine wpAnyH_take (i := 8) (v := .int .i64 (la.length : Nat)) rfl (by kernel_rfl) (by kernel_rfl) (by kernel_rfl) (fun _ _ _ h => h) (Or.inl ⟨by rfl, fun w' hw => by go_simp⟩) hH ?_
    simp only [Act.put, List.setIfInBounds_toArray, List.set_cons_zero, List.set_cons_succ, List.getElem_toArray, List.getElem_cons_zero, List.getElem_cons_succ]
    refine wpAnyH_take (i := 9) (v := .pointer (some ⟨w.heap.size, 6, none⟩)) rfl (by kernel_rfl) (by kernel_rfl) (by kernel_rfl) (fun _ _ _ h => h) (Or.inl ⟨by rfl, fun w' hw => by go_simp⟩) hH ?_
    simp only [Act.put, List.setIfInBounds_toArray, List.set_cons_zero, List.set_cons_succ, List.getElem_toArray, List.getElem_cons_zero, List.getElem_cons_succ]
    refine wpAnyH_take (i := 10) (v := .int .i64 (t : Nat)) rfl (by kernel_rfl) (by kernel_rfl) (by kernel_rfl) (fun _ _ _ h => h) (Or.inl ⟨by rfl, fun w' hw => by have hc : w'.cell? ⟨w.heap.size, 6, none⟩ = some (.int .i64 (t : Nat)) := (HC8.out w' hw).2.1; go_simp⟩) hH ?_
    simp only [Act.put, List.setIfInBounds_toArray, List.set_cons_zero, List.set_cons_succ, List.getElem_toArray, List.getElem_cons_zero, List.getElem_cons_succ]
    refine wpAnyH_take (i := 11) (v := .int .i64 (k2 : Nat)) rfl (by kernel_rfl) (by kernel_rfl) (by kernel_rfl) (fun _ _ _ h => h) (Or.inl ⟨by rfl, fun w' hw => by go_simp⟩) hH ?_
    simp only [Act.put, List.setIfInBounds_toArray, List.set_cons_zero, List.set_cons_succ, List.getElem_toArray, List.getElem_cons_zero, List.getElem_cons_succ]
    refine wpAnyH_take (i := 12) (v := .slice (if c1 = k2 then A1 else A1.map fun a => a.add k2) (la.length - k2 : Nat) (c1 - k2)) rfl (by kernel_rfl) (by kernel_rfl) (by kernel_rfl) (fun _ _ _ h => h) (Or.inl ⟨by rfl, fun w' hw => run_sliceLo w' (.tmp 44) (.tmp 49) rfl A1 la.length c1 k2 rfl rfl hh2 hcap T5.out.nil⟩) hH ?_
    simp only [Act.put, List.setIfInBounds_toArray, List.set_cons_zero, List.set_cons_succ, List.getElem_toArray, List.getElem_cons_zero, List.getElem_cons_succ]
    have TD := Lib.hid (T5.out.drop k2 hh2)
    have hld : (la.drop k2).length = la.length - k2 := List.length_drop ..
    generalize (if c1 = k2 then A1 else A1.map fun a => a.add k2) = A3 at *
    refine wpAnyH_take (i := 15) (v := .int .i64 0) rfl (by kernel_rfl) (by kernel_rfl) (by kernel_rfl) (fun _ _ _ h => h) (Or.inl ⟨by rfl, fun w' hw => by go_simp⟩) hH ?_
    simp only [Act.put, List.setIfInBounds_toArray, List.set_cons_zero, List.set_cons_succ, List.getElem_toArray, List.getElem_cons_zero, List.getElem_cons_succ]
    refine wpAnyH_ready (rs := [13]) (by kernel_rfl) (by simp) (AllReadyH.cons rfl (fun K hK => ?_) AllReadyH.nil)
    go_simp
    have hb6 : Below w5.heap.size w5 ((w5.alloc (.cells #[.slice A1 (h : Nat) c1, .slice B n d, .slice A3 (la.length - k2 : Nat) (c1 - k2)] 22)).drew) := below_drewN (below_new w5 _) 1
    refine hK.out _ _ (show Box ((w5.alloc (.cells #[.slice A1 (h : Nat) c1, .slice B n d, .slice A3 (la.length - k2 : Nat) (c1 - k2)] 22)).drew) w.heap.size 24 (pshA p B n d) from X5.out.below hb6) (fun hH => ?_)
    clear hK K
    refine wpAnyH_take (i := 14) (v := .int .i64 3) rfl (by kernel_rfl) (by kernel_rfl) (by kernel_rfl) (fun _ _ _ h => h) (Or.inl ⟨by rfl, fun w' hw => by go_simp⟩) hH ?_
    simp only [Act.put, List.setIfInBounds_toArray, List.set_cons_zero, List.set_cons_succ, List.getElem_toArray, List.getElem_cons_zero, List.getElem_cons_succ]
    refine wpAnyH_done (by kernel_rfl) ?_ _
    have PX6 : Hid (Box ((w5.alloc (.cells #[.slice A1 (h : Nat) c1, .slice B n d, .slice A3 (la.length - k2 : Nat) (c1 - k2)] 22)).drew) (g + 1) 22 #[.slice A1 (h : Nat) c1, .slice B n d, .slice A3 (la.length - k2 : Nat) (c1 - k2)]) := Lib.hid (by have := box_new w5 22 #[.slice A1 (h : Nat) c1, .slice B n d, .slice A3 (la.length - k2 : Nat) (c1 - k2)]; rw [hsz5] at this; exact this)
    have hs6 : ((w5.alloc (.cells #[.slice A1 (h : Nat) c1, .slice B n d, .slice A3 (la.length - k2 : Nat) (c1 - k2)] 22)).drew).heap.size = g + 2 := by show (w5.alloc (.cells #[.slice A1 (h : Nat) c1, .slice B n d, .slice A3 (la.length - k2 : Nat) (c1 - k2)] 22)).heap.size = _; rw [show (w5.alloc (.cells #[.slice A1 (h : Nat) c1, .slice B n d, .slice A3 (la.length - k2 : Nat) (c1 - k2)] 22)).heap.size = w5.heap.size + 1 by simp, hsz5]
    have BL6 : Hid (Bld ((w5.alloc (.cells #[.slice A1 (h : Nat) c1, .slice B n d, .slice A3 (la.length - k2 : Nat) (c1 - k2)] 22)).drew) g (g + 2) []) := Lib.hid ⟨by omega, by omega, _, _, BX5.out.below hb6, OwnB.nil _ _, .inl rfl⟩
    have hbw : Below (g + 1) w5 ((w5.alloc (.cells #[.slice A1 (h : Nat) c1, .slice B n d, .slice A3 (la.length - k2 : Nat) (c1 - k2)] 22)).drew) := hb6.mono (by omega)
    have B6 := Lib.hid (B5.out.trans (hbw.mono (by omega)))
    have T6 := Lib.hid ((T5.out.take h).keep fun j hj => hbw.block j (by omega))
    have T6d := Lib.hid (TD.out.keep fun j hj => hbw.block j (by omega))
    have P6 := Lib.hid (P5.out.ts.keep fun j hj => hbw.block j (by omega))
    have hP5n := P5.out.len
    clear hb6 hbw BX5 X5 B5 T5 TD P5 hH
    generalize (w5.alloc (.cells #[.slice A1 (h : Nat) c1, .slice B n d, .slice A3 (la.length - k2 : Nat) (c1 - k2)] 22)).drew = w6 at *
    rw [← HK2.out] at HAL
    have hlt1 : (la.take h).length = h := by rw [List.length_take]; have := HK2.out; omega
    have H3 : Hid (∀ k, (accL (la.take h) p.lines (la.drop k2) k).length ≤ 300000) := Lib.hid fun k => by
      refine Nat.le_trans (accL_le _ _ _ k) ?_
      show ((joinL (la.take h) ++ joinL p.lines) ++ joinL (la.drop k2)).length ≤ 300000
      rw [List.length_append, List.length_append]
      have e1 := joinL_take la h
      have e2 := joinL_drop la k2
      have e3 := HJ2.out
      have e4 := HQ6.out
      omega
    have HPK : Hid (∀ k, k < 3 → ∃ (Ak : Option Addr) (ck : Nat) (Lk : List Bs), #[Value.slice A1 (h : Nat) c1, .slice B n d, .slice A3 (la.length - k2 : Nat) (c1 - k2)][k]? = some (.slice Ak Lk.length ck) ∧ Ts g w6 Ak ck Lk ∧ accL (la.take h) p.lines (la.drop k2) (k + 1) = accL (la.take h) p.lines (la.drop k2) k ++ joinL Lk) := Lib.hid fun k hk => by
      match k, hk with
      | 0, _ => exact ⟨A1, c1, la.take h, by rw [hlt1]; rfl, T6.out, rfl⟩
      | 1, _ => exact ⟨B, d, p.lines, by rw [← hP5n]; rfl, P6.out.mono (by omega), rfl⟩
      | 2, _ => exact ⟨A3, c1 - k2, la.drop k2, by rw [hld]; rfl, T6d.out, rfl⟩
    have HA3 := Lib.hid (accL_3 (la.take h) p.lines (la.drop k2))
    have HA0 : Hid (accL (la.take h) p.lines (la.drop k2) 0 = []) := Lib.hid rfl
    clear T6 T6d P6 HJ2 HQ6
    rw [← HA3.out] at HAL
    generalize hac : accL (la.take h) p.lines (la.drop k2) = ac at *
    clear hac
    go_wp2_with fail
    go_loopw [53] (fun i wr => ∃ k : Nat, k ≤ 3 ∧ i = .int .i64 k ∧ Bld wr g (g + 2) (ac k) ∧ Kp g (g + 2) w6 wr) (fun i _ => 3 - (intOf i).toNat)
    case atStart => exact ⟨0, by omega, rfl, by rw [HA0.out]; exact BL6.out, Kp.refl _ _ _⟩
    case round =>
      obtain ⟨k, hk, rfl, hbl, hkp⟩ := hrel
      by_cases hk3 : k < 3
      · obtain ⟨Ak, ck, Lk, hcell, hts, hacc⟩ := HPK.out k hk3
        have q1 : (k : Int) < 3 := by omega
        have q0 : (0 : Int) ≤ k := by omega
        have d1 : wr.cell? ⟨g + 1, k, none⟩ = some (.slice Ak Lk.length ck) := by rw [(PX6.out.kp hkp (by omega) (by omega)).cell]; exact hcell
        have BLR := Lib.hid hbl
        have KR := Lib.hid hkp
        have TS := Lib.hid hts
        have AC := Lib.hid hacc
        have hLl : Lk.length ≤ 300000 := by
          have e1 := H3.out (k + 1)
          rw [hacc, List.length_append, joinL_len] at e1
          omega
        clear hbl hkp hts hacc hcell
        go_wp2_with fail
        go_loopw [59] (fun i wi => ∃ j : Nat, j ≤ Lk.length ∧ i = .int .i64 j ∧ Bld wi g (g + 2) (ac k ++ joinL (Lk.take j)) ∧ Kp g (g + 2) w6 wi) (fun i _ => Lk.length - (intOf i).toNat)
        case atStart => exact ⟨0, Nat.zero_le _, rfl, by rw [List.take_zero, show joinL [] = [] from rfl, List.append_nil]; exact BLR.out, KR.out⟩
        case round =>
          rename World => wi
          obtain ⟨j, hj, rfl, hbl, hkp⟩ := hrel
          by_cases hjl : j < Lk.length
          · obtain ⟨b1, o1, rfl, hb1, hc1⟩ := TS.out.rd j hjl
            have hcapk := TS.out.cap
            have p0 : (0 : Int) ≤ j := by omega
            have p1 : (j : Int) < Lk.length := by omega
            have d2 : wi.cell? ⟨b1, o1 + j, none⟩ = some (.string ⟨(Lk[j]'hjl).toArray⟩) := by
              rw [← hc1]
              unfold World.cell?
              rw [show wi.heap[(⟨b1, o1 + j, none⟩ : Addr).block]? = w6.heap[b1]? from hkp.block b1 (by omega) (by omega)]
            have hJT : joinL (Lk.take (j + 1)) = joinL (Lk.take j) ++ (Lk[j]'hjl) ++ [10] := by rw [List.take_succ_eq_append_getElem hjl, joinL_app, joinL_cons, ← List.append_assoc, ← List.append_assoc]; simp [joinL]
            have HJT : Hid (ac k ++ joinL (Lk.take (j + 1)) = ac k ++ joinL (Lk.take j) ++ (Lk[j]'hjl) ++ [10]) := Lib.hid (by rw [hJT]; simp only [List.append_assoc])
            have hle : (ac k ++ joinL (Lk.take (j + 1))).length ≤ 300000 := by
              refine Nat.le_trans ?_ (H3.out (k + 1))
              rw [AC.out, List.length_append, List.length_append]
              exact Nat.add_le_add_left (joinL_take _ _) _
            rw [HJT.out, List.length_append, List.length_append] at hle
            have KI := Lib.hid hkp
            have CW := Lib.hid (wstr_prog hbl (Lk[j]'hjl) (by simp only [List.length_singleton] at hle; omega))
            have CV := Lib.hid fun (w' : World) (h' : Bld w' g (g + 2) (ac k ++ joinL (Lk.take j) ++ (Lk[j]'hjl))) => wstr_prog h' [10] (by rw [List.length_append]; omega)
            clear hbl hkp hJT hle hc1
            generalize ac k ++ joinL (Lk.take j) = Z at *
            generalize (Lk[j]'hjl) = z at *
            go_wp2_with (first
              | (go_at_call 64; refine CW.out.mono ?_; rintro E wa ⟨⟨va, rfl⟩, hba, hka⟩; have CX := Lib.hid (CV.out wa hba); have KA := Lib.hid (KI.out.trans hka); clear hba hka CW CV)
              | (go_at_call 64; refine CX.out.mono ?_; rintro E wb ⟨⟨vb, rfl⟩, hbb, hkb⟩; have BB := Lib.hid hbb; have KB := Lib.hid (KA.out.trans hkb); clear hbb hkb CX))
            go_roundw
            case rel => exact ⟨j + 1, by omega, by go_num, by rw [HJT.out]; exact BB.out, KB.out⟩
            case measure => simp [intOf]; omega
          · obtain rfl : j = Lk.length := by omega
            rw [List.take_length, ← AC.out] at hbl
            have BLI := Lib.hid hbl
            have KI := Lib.hid hkp
            clear hbl hkp
            go_wp2_with fail
            go_roundw
            case rel => exact ⟨k + 1, by omega, by go_num, BLI.out, KI.out⟩
            case measure => simp [intOf]; omega
      · obtain rfl : k = 3 := by omega
        have BLR := Lib.hid hbl
        have KR := Lib.hid hkp
        clear hbl hkp
        have BT := Lib.hid (B6.out.trans (KR.out.to (D := w.heap.size) (by omega) (by omega)))
        have CLn := Lib.hid (Try.Builder_Len g g _ wr BLR.out.is)
        have CSt := Lib.hid (Try.Builder_String_any g g _ wr BLR.out.is (by have := BLR.out.le; omega))
        rw [Lib.byteCells_length] at CLn
        generalize ac 3 = OUT at *
        by_cases hbig : 65536 < OUT.length
        · have q1 : (65536 : Int) < OUT.length := by omega
          rw [if_pos hbig] at HAL
          go_wp2_with (go_at_call 65; refine CLn.out.mono ?_; rintro E wz ⟨rfl, rfl⟩)
          go_ret2
          rw [HAL.out]
          exact ⟨rfl, BT.out⟩
        · have q1 : ¬ (65536 : Int) < OUT.length := by omega
          rw [if_neg hbig] at HAL
          go_wp2_with (first
            | (go_at_call 65; refine CLn.out.mono ?_; rintro E wz ⟨rfl, rfl⟩)
            | (go_at_call 66; refine CSt.out.mono ?_; rintro E wz ⟨rfl, hbz⟩; have BZ := Lib.hid (BT.out.trans (hbz.mono (by omega))); clear hbz))
          go_ret2
          rw [HAL.out]
          exact ⟨rfl, BZ.out⟩
end Go.Proofs.Ytajkbkllgbalkaa
