/- The program's areLines, slices.Equal of texts; equal, isZero, fits. -/
import Derived.Test.YtajkbkllgbalkaaUd
import Derived.Deep.RegionHeld3
import Derived.Deep.DeepCutAuto
import Derived.Deep.RegionWith
namespace Go.Proofs.Ytajkbkllgbalkaa
open Go Go.RowKit

theorem has10 (l : Bs) : decide (0 ≤ Lib.indexByte l 10) = l.contains 10 := by
  rw [Pl.indexByte10]
  by_cases h : (10 : UInt8) ∈ l
  · rw [if_pos h, List.contains_iff_mem.2 h]
    exact decide_eq_true (Int.natCast_nonneg _)
  · rw [if_neg h]
    have : l.contains 10 = false := by
      cases hc : l.contains (10 : UInt8) with
      | false => rfl
      | true => exact absurd (List.contains_iff_mem.1 hc) h
    rw [this]; rfl
theorem sumL_take {l : List Bs} {k : Nat} (h : k < l.length) : sumL (l.take (k + 1)) = sumL (l.take k) + l[k].length := by
  unfold sumL
  rw [List.take_succ_eq_append_getElem h, List.map_append, List.sum_append]
  rfl
theorem sumL_le {l : List Bs} {m : Nat} (h : ∀ s ∈ l, s.length ≤ m) : sumL l ≤ l.length * m := by
  induction l with
  | nil => simp [sumL]
  | cons a l ih =>
    have h1 := ih fun s hs => h s (by simp [hs])
    have h2 := h a (by simp)
    unfold sumL at *
    rw [List.map_cons, List.sum_cons, List.length_cons, Nat.succ_mul]
    omega
theorem allNo_take {l : List Bs} {k : Nat} (h : k < l.length) (ha : (l.take k).all noLf = true) (hb : l[k].contains 10 = false) : (l.take (k + 1)).all noLf = true := by
  have hn : noLf l[k] = true := by unfold noLf; rw [hb]; rfl
  rw [List.take_succ_eq_append_getElem h, List.all_append, ha, List.all_cons, hn]
  rfl
theorem allNo_stop {l : List Bs} {k : Nat} (h : k < l.length) (hb : l[k].contains 10 = true) : areL l = false := by
  unfold areL
  have : l.all noLf = false := by
    rw [List.all_eq_false]
    exact ⟨l[k], List.getElem_mem h, by unfold noLf; rw [hb]; decide⟩
  rw [this]; rfl
set_option maxRecDepth 100000 in
theorem areLines_any {D : Nat} {w : World} {A : Option Addr} {c n : Nat} {l : List Bs} (h : Ts D w A c l) (hn : n = l.length) (hf : l.length ≤ 1000000) (hs : ∀ s ∈ l, s.length ≤ 1000000) :
    Calls Try.prog 73 #[.slice A n c] w fun e w' => e = .returned (.bool (areL l)) ∧ w = w' := by
  subst hn
  have H := Lib.hid h
  have HS := Lib.hid hs
  clear h hs
  go_enter Try.func73, Try.ntmps73
  go_wp2_with fail
  go_loop [3, 8] (fun v i => ∃ k : Nat, k ≤ l.length ∧ i = .int .i64 k ∧ v = .int .i64 (sumL (l.take k) : Nat) ∧ Hid ((l.take k).all noLf = true)) (fun _ i => l.length - (intOf i).toNat)
  case atStart => exact ⟨0, Nat.zero_le _, rfl, rfl, Lib.hid rfl⟩
  case round =>
    obtain ⟨k, hk, rfl, rfl, hall⟩ := hrel
    have hsm : sumL (l.take k) ≤ 1000000000000 := by
      have h1 := sumL_le (l := l.take k) (m := 1000000) fun s hs => HS.out s (List.mem_of_mem_take hs)
      have h2 : (l.take k).length ≤ 1000000 := by rw [List.length_take]; omega
      have h3 := Nat.mul_le_mul_right 1000000 h2
      omega
    by_cases hlt : k < l.length
    · obtain ⟨b, off, rfl, _, hc⟩ := H.out.rd k hlt
      have hcap := H.out.cap
      have q0 : (0 : Int) ≤ k := by omega
      have q1 : (k : Int) < l.length := by omega
      have hsz : (l[k]'hlt).length ≤ 1000000 := HS.out _ (List.getElem_mem hlt)
      have CC := Lib.hid fun w' : World => Try.strings_Contains_one ⟨(l[k]'hlt).toArray⟩ 10 w'
      have e10 := has10 (l[k]'hlt)
      have HA := Lib.hid (fun hb => allNo_take hlt hall.out hb)
      have HB := Lib.hid (fun hb => allNo_stop hlt hb)
      have HT := Lib.hid (sumL_take hlt)
      rw [mk_toList, e10] at CC
      clear e10 hall
      cases hq : (l[k]'hlt).contains 10 with
      | true =>
        have HF := Lib.hid (HB.out hq)
        rw [hq] at CC
        clear HA HB
        generalize (l[k]'hlt) = z at *
        clear hq
        go_wp2_with (go_at_call 81; refine (CC.out _).mono ?_; rintro e w1 ⟨rfl, rfl⟩)
        go_ret
        rw [HF.out]
        exact ⟨rfl, rfl⟩
      | false =>
        have HF := Lib.hid (HA.out hq)
        rw [hq] at CC
        clear HA HB
        generalize (l[k]'hlt) = z at *
        clear hq
        go_wp2_with (go_at_call 81; refine (CC.out _).mono ?_; rintro e w1 ⟨rfl, rfl⟩)
        go_round
        case rel => exact ⟨k + 1, by omega, by go_num, by rw [HT.out]; go_num, HF⟩
        case measure => simp [intOf]; omega
    · obtain rfl : k = l.length := by omega
      have q1 : ¬ ((l.length : Nat) : Int) < l.length := by omega
      rw [List.take_length] at hall hsm ⊢
      have HV : Hid (areL l = (decide (l.length ≤ 1000) && decide (sumL l ≤ 65536))) := Lib.hid (by unfold areL; rw [hall.out, Bool.true_and])
      by_cases h1 : l.length ≤ 1000
      · have r1 : ((l.length : Nat) : Int) ≤ 1000 := by omega
        have hd : decide (l.length ≤ 1000) = true := decide_eq_true h1
        rw [hd] at HV
        by_cases h2 : sumL l ≤ 65536
        · have r2 : ((sumL l : Nat) : Int) ≤ 65536 := by omega
          rw [decide_eq_true h2] at HV
          clear hall hd
          go_wp2_with fail
          go_ret
          rw [HV.out]
          exact ⟨rfl, rfl⟩
        · have r2 : ¬ ((sumL l : Nat) : Int) ≤ 65536 := by omega
          rw [decide_eq_false h2] at HV
          clear hall hd
          go_wp2_with fail
          go_ret
          rw [HV.out]
          exact ⟨rfl, rfl⟩
      · have r1 : ¬ ((l.length : Nat) : Int) ≤ 1000 := by omega
        rw [decide_eq_false h1] at HV
        clear hall
        go_wp2_with fail
        go_ret
        rw [HV.out]
        exact ⟨rfl, rfl⟩
theorem bsMap_inj {xs ys : List Bs} (h : xs.map (fun s => (⟨s.toArray⟩ : ByteArray)) = ys.map fun s => ⟨s.toArray⟩) : xs = ys := by
  have := congrArg (List.map fun b : ByteArray => b.data.toList) h
  simpa [List.map_map, Function.comp_def] using this
theorem bsMap_at (xs : List Bs) (j : Nat) (h : j < xs.length) : (xs.map (fun s => (⟨s.toArray⟩ : ByteArray))).getD j ByteArray.empty = ⟨(xs[j]'h).toArray⟩ := by
  rw [List.getD_eq_getElem?_getD, List.getElem?_eq_getElem (by rw [List.length_map]; exact h)]
  simp
set_option maxRecDepth 100000 in
theorem eqLines_any {D D' : Nat} {w : World} {A B : Option Addr} {c d n m : Nat} {xs ys : List Bs} (hx : Ts D w A c xs) (hy : Ts D' w B d ys) (hn : n = xs.length) (hm : m = ys.length) (h1 : n ≤ 1000000) (h2 : m ≤ 1000000) :
    Calls Try.prog 74 #[.slice A n c, .slice B m d] w fun e w' => e = .returned (.bool (xs == ys)) ∧ ∃ q, w' = w.drewN q := by
  by_cases hnm : n = m
  · subst hnm
    by_cases h0 : n = 0
    · subst h0
      have e1 : xs = [] := List.eq_nil_of_length_eq_zero hn.symm
      have e2 : ys = [] := List.eq_nil_of_length_eq_zero hm.symm
      subst e1 e2
      refine (Try.slices_Equal_string_empty A B c 0 d w (by omega)).mono ?_
      rintro e w' ⟨rfl, rfl⟩
      exact ⟨rfl, 0, rfl⟩
    · obtain ⟨b1, o1, rfl, _, _⟩ := hx.rd 0 (by omega)
      obtain ⟨b2, o2, rfl, _, _⟩ := hy.rd 0 (by omega)
      refine (Try.slices_Equal_string b1 o1 n c b2 o2 n d (xs.map fun s => ⟨s.toArray⟩) (ys.map fun s => ⟨s.toArray⟩) w (by rw [List.length_map]; omega) (by rw [List.length_map]; omega) (by omega) (by omega) (fun j hj => ?_) (fun j hj => ?_)).mono ?_
      · rw [List.length_map] at hj
        obtain ⟨b, o, e, _, hc⟩ := hx.rd j hj
        cases e
        rw [hc, bsMap_at xs j hj]
      · rw [List.length_map] at hj
        obtain ⟨b, o, e, _, hc⟩ := hy.rd j hj
        cases e
        rw [hc, bsMap_at ys j hj]
      · rintro e w' ⟨rfl, q, rfl⟩
        refine ⟨?_, q, rfl⟩
        rw [List.take_of_length_le (by rw [List.length_map]; omega), List.take_of_length_le (by rw [List.length_map]; omega)]
        congr 2
        rw [Bool.eq_iff_iff, decide_eq_true_iff, beq_iff_eq]
        exact ⟨bsMap_inj, fun e => by rw [e]⟩
  · have HF : Hid ((xs == ys) = false) := Lib.hid (by rw [beq_eq_false_iff_ne]; intro e; rw [e] at hn; omega)
    have q1 : ((n : Int) == m) = false := by rw [beq_eq_false_iff_ne]; omega
    clear hx hy hn hm
    go_enter Try.func74, Try.ntmps74
    go_wp2_with fail
    go_ret
    rw [HF.out]
    exact ⟨rfl, 0, rfl⟩
/-- what a test leaves -/
def TellsP (b : Bool) (w : World) (e : Ending) (w' : World) : Prop := e = .returned (.bool b) ∧ Below w.heap.size w w'
theorem psh_cell (w : World) (p : Psh) (A : Option Addr) (n c : Nat) (j : Nat) : (w.alloc (.cells (pshA p A n c) 24)).cell? ⟨w.heap.size, j, none⟩ = (pshA p A n c)[j]? := by rw [World.cell?_alloc_at _ _ _ _ rfl]
set_option maxRecDepth 100000 in
theorem equal_0 {w : World} {p q : Psh} {A B : Option Addr} {n c m d : Nat} : Calls Try.prog 50 #[.agg (pshA p A n c), .agg (pshA q B m d), .int .i64 1] w (TellsP (equalF p q 0) w) := by
  have hb : Below w.heap.size w ((w.alloc (.cells (pshA p A n c) 24)).alloc (.cells (pshA q B m d) 24)) := (below_new w _).alloc (by simp) _
  have HB := Lib.hid (below_drewN hb 1)
  have d1 : ((w.alloc (.cells (pshA p A n c) 24)).alloc (.cells (pshA q B m d) 24)).cell? ⟨w.heap.size, 1, none⟩ = some (.int .i64 (numF p 0)) := by
    rw [World.cell?_alloc_lt _ _ _ (by simp), psh_cell]; rfl
  have d2 : ((w.alloc (.cells (pshA p A n c) 24)).alloc (.cells (pshA q B m d) 24)).cell? ⟨w.heap.size + 1, 1, none⟩ = some (.int .i64 (numF q 0)) := by
    rw [World.cell?_alloc_at _ _ _ _ (by simp)]; rfl
  have HE : Hid (equalF p q 0 = decide (numF p 0 = numF q 0)) := Lib.hid rfl
  clear hb
  unfold TellsP
  rw [HE.out]
  go_enter Try.func50, Try.ntmps50
  go_upto_region 6 with fail
  generalize (w.alloc (.cells (pshA p A n c) 24)).alloc (.cells (pshA q B m d) 24) = w2 at *
  generalize w.heap.size = g at d1 d2 ⊢
  clear HE
  go_region_held3 (fun w' => w'.cell? ⟨g, 1, none⟩ = some (.int .i64 (numF p 0)) ∧ w'.cell? ⟨g + 1, 1, none⟩ = some (.int .i64 (numF q 0))) (first | exact ⟨d1, d2⟩ | go_keep) ((go_at_call 69; refine (numberIn_0 _ _).mono ?_; rintro E w1 ⟨rfl, rfl⟩))
  all_goals
    go_wp2_with fail
    go_ret
    exact ⟨rfl, HB.out⟩
set_option maxRecDepth 100000 in
theorem equal_1 {w : World} {p q : Psh} {A B : Option Addr} {n c m d : Nat} : Calls Try.prog 50 #[.agg (pshA p A n c), .agg (pshA q B m d), .int .i64 2] w (TellsP (equalF p q 1) w) := by
  have hb : Below w.heap.size w ((w.alloc (.cells (pshA p A n c) 24)).alloc (.cells (pshA q B m d) 24)) := (below_new w _).alloc (by simp) _
  have HB := Lib.hid (below_drewN hb 1)
  have d1 : ((w.alloc (.cells (pshA p A n c) 24)).alloc (.cells (pshA q B m d) 24)).cell? ⟨w.heap.size, 2, none⟩ = some (.int .i64 (numF p 1)) := by
    rw [World.cell?_alloc_lt _ _ _ (by simp), psh_cell]; rfl
  have d2 : ((w.alloc (.cells (pshA p A n c) 24)).alloc (.cells (pshA q B m d) 24)).cell? ⟨w.heap.size + 1, 2, none⟩ = some (.int .i64 (numF q 1)) := by
    rw [World.cell?_alloc_at _ _ _ _ (by simp)]; rfl
  have HE : Hid (equalF p q 1 = decide (numF p 1 = numF q 1)) := Lib.hid rfl
  clear hb
  unfold TellsP
  rw [HE.out]
  go_enter Try.func50, Try.ntmps50
  go_upto_region 6 with fail
  generalize (w.alloc (.cells (pshA p A n c) 24)).alloc (.cells (pshA q B m d) 24) = w2 at *
  generalize w.heap.size = g at d1 d2 ⊢
  clear HE
  go_region_held3 (fun w' => w'.cell? ⟨g, 2, none⟩ = some (.int .i64 (numF p 1)) ∧ w'.cell? ⟨g + 1, 2, none⟩ = some (.int .i64 (numF q 1))) (first | exact ⟨d1, d2⟩ | go_keep) ((go_at_call 69; refine (numberIn_1 _ _).mono ?_; rintro E w1 ⟨rfl, rfl⟩))
  all_goals
    go_wp2_with fail
    go_ret
    exact ⟨rfl, HB.out⟩
set_option maxRecDepth 100000 in
theorem equal_2 {w : World} {p q : Psh} {A B : Option Addr} {n c m d : Nat} : Calls Try.prog 50 #[.agg (pshA p A n c), .agg (pshA q B m d), .int .i64 4] w (TellsP (equalF p q 2) w) := by
  have hb : Below w.heap.size w ((w.alloc (.cells (pshA p A n c) 24)).alloc (.cells (pshA q B m d) 24)) := (below_new w _).alloc (by simp) _
  have HB := Lib.hid (below_drewN hb 1)
  have d1 : ((w.alloc (.cells (pshA p A n c) 24)).alloc (.cells (pshA q B m d) 24)).cell? ⟨w.heap.size, 3, none⟩ = some (.int .i64 (numF p 2)) := by
    rw [World.cell?_alloc_lt _ _ _ (by simp), psh_cell]; rfl
  have d2 : ((w.alloc (.cells (pshA p A n c) 24)).alloc (.cells (pshA q B m d) 24)).cell? ⟨w.heap.size + 1, 3, none⟩ = some (.int .i64 (numF q 2)) := by
    rw [World.cell?_alloc_at _ _ _ _ (by simp)]; rfl
  have HE : Hid (equalF p q 2 = decide (numF p 2 = numF q 2)) := Lib.hid rfl
  clear hb
  unfold TellsP
  rw [HE.out]
  go_enter Try.func50, Try.ntmps50
  go_upto_region 6 with fail
  generalize (w.alloc (.cells (pshA p A n c) 24)).alloc (.cells (pshA q B m d) 24) = w2 at *
  generalize w.heap.size = g at d1 d2 ⊢
  clear HE
  go_region_held3 (fun w' => w'.cell? ⟨g, 3, none⟩ = some (.int .i64 (numF p 2)) ∧ w'.cell? ⟨g + 1, 3, none⟩ = some (.int .i64 (numF q 2))) (first | exact ⟨d1, d2⟩ | go_keep) ((go_at_call 69; refine (numberIn_2 _ _).mono ?_; rintro E w1 ⟨rfl, rfl⟩))
  all_goals
    go_wp2_with fail
    go_ret
    exact ⟨rfl, HB.out⟩
set_option maxRecDepth 100000 in
theorem equal_3 {w : World} {p q : Psh} {A B : Option Addr} {n c m d : Nat} : Calls Try.prog 50 #[.agg (pshA p A n c), .agg (pshA q B m d), .int .i64 8] w (TellsP (equalF p q 3) w) := by
  have hb : Below w.heap.size w ((w.alloc (.cells (pshA p A n c) 24)).alloc (.cells (pshA q B m d) 24)) := (below_new w _).alloc (by simp) _
  have HB := Lib.hid (below_drewN hb 1)
  have d1 : ((w.alloc (.cells (pshA p A n c) 24)).alloc (.cells (pshA q B m d) 24)).cell? ⟨w.heap.size, 4, none⟩ = some (.int .i64 (numF p 3)) := by
    rw [World.cell?_alloc_lt _ _ _ (by simp), psh_cell]; rfl
  have d2 : ((w.alloc (.cells (pshA p A n c) 24)).alloc (.cells (pshA q B m d) 24)).cell? ⟨w.heap.size + 1, 4, none⟩ = some (.int .i64 (numF q 3)) := by
    rw [World.cell?_alloc_at _ _ _ _ (by simp)]; rfl
  have HE : Hid (equalF p q 3 = decide (numF p 3 = numF q 3)) := Lib.hid rfl
  clear hb
  unfold TellsP
  rw [HE.out]
  go_enter Try.func50, Try.ntmps50
  go_upto_region 6 with fail
  generalize (w.alloc (.cells (pshA p A n c) 24)).alloc (.cells (pshA q B m d) 24) = w2 at *
  generalize w.heap.size = g at d1 d2 ⊢
  clear HE
  go_region_held3 (fun w' => w'.cell? ⟨g, 4, none⟩ = some (.int .i64 (numF p 3)) ∧ w'.cell? ⟨g + 1, 4, none⟩ = some (.int .i64 (numF q 3))) (first | exact ⟨d1, d2⟩ | go_keep) ((go_at_call 69; refine (numberIn_3 _ _).mono ?_; rintro E w1 ⟨rfl, rfl⟩))
  all_goals
    go_wp2_with fail
    go_ret
    exact ⟨rfl, HB.out⟩
set_option maxRecDepth 100000 in
theorem equal_4 {w : World} {p q : Psh} {A B : Option Addr} {n c m d : Nat} : Calls Try.prog 50 #[.agg (pshA p A n c), .agg (pshA q B m d), .int .i64 16] w (TellsP (equalF p q 4) w) := by
  have hb : Below w.heap.size w ((w.alloc (.cells (pshA p A n c) 24)).alloc (.cells (pshA q B m d) 24)) := (below_new w _).alloc (by simp) _
  have HB := Lib.hid (below_drewN hb 1)
  have d1 : ((w.alloc (.cells (pshA p A n c) 24)).alloc (.cells (pshA q B m d) 24)).cell? ⟨w.heap.size, 5, none⟩ = some (.int .i64 (numF p 4)) := by
    rw [World.cell?_alloc_lt _ _ _ (by simp), psh_cell]; rfl
  have d2 : ((w.alloc (.cells (pshA p A n c) 24)).alloc (.cells (pshA q B m d) 24)).cell? ⟨w.heap.size + 1, 5, none⟩ = some (.int .i64 (numF q 4)) := by
    rw [World.cell?_alloc_at _ _ _ _ (by simp)]; rfl
  have HE : Hid (equalF p q 4 = decide (numF p 4 = numF q 4)) := Lib.hid rfl
  clear hb
  unfold TellsP
  rw [HE.out]
  go_enter Try.func50, Try.ntmps50
  go_upto_region 6 with fail
  generalize (w.alloc (.cells (pshA p A n c) 24)).alloc (.cells (pshA q B m d) 24) = w2 at *
  generalize w.heap.size = g at d1 d2 ⊢
  clear HE
  go_region_held3 (fun w' => w'.cell? ⟨g, 5, none⟩ = some (.int .i64 (numF p 4)) ∧ w'.cell? ⟨g + 1, 5, none⟩ = some (.int .i64 (numF q 4))) (first | exact ⟨d1, d2⟩ | go_keep) ((go_at_call 69; refine (numberIn_4 _ _).mono ?_; rintro E w1 ⟨rfl, rfl⟩))
  all_goals
    go_wp2_with fail
    go_ret
    exact ⟨rfl, HB.out⟩
set_option maxRecDepth 100000 in
theorem equal_5 {w : World} {p q : Psh} {A B : Option Addr} {n c m d : Nat} : Calls Try.prog 50 #[.agg (pshA p A n c), .agg (pshA q B m d), .int .i64 32] w (TellsP (equalF p q 5) w) := by
  have hb : Below w.heap.size w ((w.alloc (.cells (pshA p A n c) 24)).alloc (.cells (pshA q B m d) 24)) := (below_new w _).alloc (by simp) _
  have HB := Lib.hid (below_drewN hb 1)
  have d1 : ((w.alloc (.cells (pshA p A n c) 24)).alloc (.cells (pshA q B m d) 24)).cell? ⟨w.heap.size, 6, none⟩ = some (.int .i64 (numF p 5)) := by
    rw [World.cell?_alloc_lt _ _ _ (by simp), psh_cell]; rfl
  have d2 : ((w.alloc (.cells (pshA p A n c) 24)).alloc (.cells (pshA q B m d) 24)).cell? ⟨w.heap.size + 1, 6, none⟩ = some (.int .i64 (numF q 5)) := by
    rw [World.cell?_alloc_at _ _ _ _ (by simp)]; rfl
  have HE : Hid (equalF p q 5 = decide (numF p 5 = numF q 5)) := Lib.hid rfl
  clear hb
  unfold TellsP
  rw [HE.out]
  go_enter Try.func50, Try.ntmps50
  go_upto_region 6 with fail
  generalize (w.alloc (.cells (pshA p A n c) 24)).alloc (.cells (pshA q B m d) 24) = w2 at *
  generalize w.heap.size = g at d1 d2 ⊢
  clear HE
  go_region_held3 (fun w' => w'.cell? ⟨g, 6, none⟩ = some (.int .i64 (numF p 5)) ∧ w'.cell? ⟨g + 1, 6, none⟩ = some (.int .i64 (numF q 5))) (first | exact ⟨d1, d2⟩ | go_keep) ((go_at_call 69; refine (numberIn_5 _ _).mono ?_; rintro E w1 ⟨rfl, rfl⟩))
  all_goals
    go_wp2_with fail
    go_ret
    exact ⟨rfl, HB.out⟩
set_option maxRecDepth 100000 in
theorem equal_6 {w : World} {p q : Psh} {A B : Option Addr} {n c m d : Nat} : Calls Try.prog 50 #[.agg (pshA p A n c), .agg (pshA q B m d), .int .i64 64] w (TellsP (equalF p q 6) w) := by
  have hb : Below w.heap.size w ((w.alloc (.cells (pshA p A n c) 24)).alloc (.cells (pshA q B m d) 24)) := (below_new w _).alloc (by simp) _
  have HB := Lib.hid hb
  have HE : Hid (equalF p q 6 = (p.text == q.text)) := Lib.hid rfl
  have d1 : ((w.alloc (.cells (pshA p A n c) 24)).alloc (.cells (pshA q B m d) 24)).cell? ⟨w.heap.size, 7, none⟩ = some (.string ⟨p.text.toArray⟩) := by
    rw [World.cell?_alloc_lt _ _ _ (by simp), psh_cell]; rfl
  have d2 : ((w.alloc (.cells (pshA p A n c) 24)).alloc (.cells (pshA q B m d) 24)).cell? ⟨w.heap.size + 1, 7, none⟩ = some (.string ⟨q.text.toArray⟩) := by
    rw [World.cell?_alloc_at _ _ _ _ (by simp)]; rfl
  clear hb
  unfold TellsP
  rw [HE.out]
  go_enter Try.func50, Try.ntmps50
  go_upto_region 3 with fail
  generalize (w.alloc (.cells (pshA p A n c) 24)).alloc (.cells (pshA q B m d) 24) = w2 at *
  go_wp2_with fail
  go_ret
  exact ⟨rfl, HB.out⟩
set_option maxRecDepth 100000 in
theorem equal_7 {w : World} {p q : Psh} {A B : Option Addr} {n c m d D D' : Nat} (hp : PsIn D w p A n c) (hq : PsIn D' w q B m d) (hD : D ≤ w.heap.size) (hD' : D' ≤ w.heap.size) : Calls Try.prog 50 #[.agg (pshA p A n c), .agg (pshA q B m d), .int .i64 128] w (TellsP (equalF p q 7) w) := by
  have hb : Below w.heap.size w ((w.alloc (.cells (pshA p A n c) 24)).alloc (.cells (pshA q B m d) 24)) := (below_new w _).alloc (by simp) _
  have HB := Lib.hid hb
  have HE : Hid (equalF p q 7 = (p.lines == q.lines)) := Lib.hid rfl
  have CE := Lib.hid (eqLines_any (w := (w.alloc (.cells (pshA p A n c) 24)).alloc (.cells (pshA q B m d) 24)) (hp.ts.keep fun k hk => hb.block k (Nat.lt_of_lt_of_le hk hD)) (hq.ts.keep fun k hk => hb.block k (Nat.lt_of_lt_of_le hk hD')) hp.len hq.len (by rw [hp.len]; exact hp.few) (by rw [hq.len]; exact hq.few))
  have d1 : ((w.alloc (.cells (pshA p A n c) 24)).alloc (.cells (pshA q B m d) 24)).cell? ⟨w.heap.size, 8, none⟩ = some (.slice A n c) := by
    rw [World.cell?_alloc_lt _ _ _ (by simp), psh_cell]; rfl
  have d2 : ((w.alloc (.cells (pshA p A n c) 24)).alloc (.cells (pshA q B m d) 24)).cell? ⟨w.heap.size + 1, 8, none⟩ = some (.slice B m d) := by
    rw [World.cell?_alloc_at _ _ _ _ (by simp)]; rfl
  clear hb hp hq
  unfold TellsP
  rw [HE.out]
  go_enter Try.func50, Try.ntmps50
  go_upto_region 5 with fail
  generalize (w.alloc (.cells (pshA p A n c) 24)).alloc (.cells (pshA q B m d) 24) = w2 at *
  go_wp2_with (go_at_call 74; refine CE.out.mono ?_; rintro E w1 ⟨rfl, q, rfl⟩)
  go_ret
  exact ⟨rfl, below_drewN HB.out q⟩
end Go.Proofs.Ytajkbkllgbalkaa
