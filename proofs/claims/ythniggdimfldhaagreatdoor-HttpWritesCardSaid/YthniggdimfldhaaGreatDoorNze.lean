/- What the laws make messages of: Bring, clean. Plain facts: the messages that the laws make, and two framing headers among headers. -/
import Derived.Test.YthniggdimfldhaaGreatDoorHa
import Derived.Test.YthniggdimfldhaaGreatDoorNp
import Derived.Test.YthniggdimfldhaaGreatDoorNr
namespace Go.Proofs.YthniggdimfldhaaGreatDoor
open Go Go.RowKit

theorem tmod_neg {i n : Int} (hn : 0 < n) (h : i.tmod n < 0) : i.tmod n + n = i % n := by
  have h1 : i < 0 := by
    rcases Decidable.em (i < 0) with h0 | h0
    · exact h0
    · have := Int.tmod_nonneg n (a := i) (by omega); omega
  have h2 := Int.tmod_eq_emod (a := i) (b := n)
  rw [h2] at h ⊢
  have h3 := Int.emod_nonneg i (b := n) (by omega)
  have h4 : ((n.natAbs : Nat) : Int) = n := by omega
  split at h <;> rename_i hc
  · omega
  · rw [if_neg hc]; omega
theorem tmod_pos {i n : Int} (hn : 0 < n) (h : 0 ≤ i.tmod n) : i.tmod n = i % n := by
  have h2 := Int.tmod_eq_emod (a := i) (b := n)
  have h3 := Int.emod_lt_of_pos i hn
  have h4 : ((n.natAbs : Nat) : Int) = n := by omega
  rw [h2] at h ⊢
  split at h <;> rename_i hc
  · rw [if_pos hc]; omega
  · omega
def cleanB (pa : Bool) (c : UInt8) : Bool := decide (33 ≤ c.toNat) && (decide (c.toNat ≤ 126) && (!pa || decide (c.toNat ≠ 35)))
def cleanL (pa : Bool) (most : Nat) (s : List UInt8) : List UInt8 := (s.filter (cleanB pa)).take most
theorem fil_yes {p : UInt8 → Bool} {s : List UInt8} {k : Nat} (h : k < s.length) (hp : p s[k] = true) : (s.take (k + 1)).filter p = (s.take k).filter p ++ [s[k]] := by
  rw [← List.take_append_getElem h, List.filter_append]
  simp [hp]
theorem fil_no {p : UInt8 → Bool} {s : List UInt8} {k : Nat} (h : k < s.length) (hp : p s[k] = false) : (s.take (k + 1)).filter p = (s.take k).filter p := by
  rw [← List.take_append_getElem h, List.filter_append]
  simp [hp]
theorem fil_end {pa : Bool} {most : Nat} {s : List UInt8} {k : Nat} (h : most ≤ ((s.take k).filter (cleanB pa)).length) (h2 : ((s.take k).filter (cleanB pa)).length ≤ most) : (s.take k).filter (cleanB pa) = cleanL pa most s := by
  unfold cleanL
  conv => rhs; rw [← List.take_append_drop k s, List.filter_append]
  rw [List.take_append_of_le_length h, List.take_of_length_le h2]
theorem fil_all {pa : Bool} {most : Nat} {s : List UInt8} {k : Nat} (h : s.length ≤ k) (h2 : ((s.take k).filter (cleanB pa)).length ≤ most) : (s.take k).filter (cleanB pa) = cleanL pa most s := by
  unfold cleanL
  rw [List.take_of_length_le h] at h2 ⊢
  rw [List.take_of_length_le h2]
theorem at_lst2 (s : List UInt8) (k : Nat) (h : k < s.length) : (⟨s.toArray⟩ : ByteArray)[k]'(by rw [mk_size]; exact h) = s[k] := by rfl
theorem cleanB_is (pa : Bool) (c : UInt8) (z : Bool) (h : (decide (33 ≤ c.toNat) && (decide (c.toNat ≤ 126) && (!pa || decide (c.toNat ≠ 35)))) = z) : cleanB pa c = z := h
end Go.Proofs.YthniggdimfldhaaGreatDoor
namespace Go.Proofs.YthniggdimfldhaaGreatDoor
open Go Go.RowKit

structure SeedL where
  meth : Int
  status : Int
  path : List UInt8
  host : List UInt8
  vals : List (List UInt8)
  body : List UInt8
def methAt (k : Nat) : List UInt8 := if k = 0 then sGET else if k = 1 then sPUT else if k = 2 then sPOST else if k = 3 then sDELETE else if k = 4 then sHEAD else []
def xNm (i : Nat) : List UInt8 := [88, 45, UInt8.ofNat (97 + i)]
def xHd (vs : List (List UInt8)) (i : Nat) : Hd := (xNm i, cleanL false 200 (vs.getD i []))
def xHds (vs : List (List UInt8)) (k : Nat) : List Hd := (List.range k).map (xHd vs)
def hoH (h : List UInt8) : Hd := (nHo, 104 :: cleanL false 50 h)
def madeM (x : SeedL) : Msg :=
  if x.meth % 6 = 5 then ⟨[], [], 100 + x.status % 500, xHds x.vals (min x.vals.length 12), x.body.take 2000⟩
  else ⟨methAt (x.meth % 6).toNat, 47 :: cleanL true 59 x.path, 0, hoH x.host :: xHds x.vals (min x.vals.length 12), x.body.take 2000⟩
theorem xHds_snoc (vs : List (List UInt8)) (k : Nat) : xHds vs (k + 1) = xHds vs k ++ [xHd vs k] := by unfold xHds; rw [List.range_succ, List.map_append]; rfl
theorem xHds_len (vs : List (List UInt8)) (k : Nat) : (xHds vs k).length = k := by unfold xHds; simp
theorem cleanL_len (pa : Bool) (n : Nat) (s : List UInt8) : (cleanL pa n s).length ≤ n := by unfold cleanL; rw [List.length_take]; omega
theorem cleanL_mem {pa : Bool} {n : Nat} {s : List UInt8} {c : UInt8} (h : c ∈ cleanL pa n s) : cleanB pa c = true := (List.mem_filter.1 (List.mem_of_mem_take h)).2
theorem cleanB_gr {pa : Bool} {c : UInt8} (h : cleanB pa c = true) : 33 ≤ c.toNat ∧ c.toNat ≤ 126 := by
  unfold cleanB at h
  simp only [Bool.and_eq_true, decide_eq_true_eq] at h
  exact ⟨h.1, h.2.1⟩
theorem cleanB_pt {c : UInt8} (h : cleanB true c = true) : ptB c = true := by
  unfold cleanB at h
  unfold ptB
  simpa using h
theorem cl_vl {s : List UInt8} (h : ∀ c ∈ s, 33 ≤ c.toNat ∧ c.toNat ≤ 126) (hl : s.length ≤ 200) : isVl s = true := by
  unfold isVl endsV
  simp only [Bool.and_eq_true, Bool.or_eq_true, decide_eq_true_eq, List.all_eq_true]
  refine ⟨fun c hc => ?_, hl, ?_⟩
  · have := h c hc
    unfold vlB
    simp only [Bool.and_eq_true, decide_eq_true_eq]
    omega
  · cases s with
    | nil => exact .inl rfl
    | cons y s =>
      refine .inr ⟨?_, ?_⟩
      · have := h y (by simp)
        show y.toNat ≠ 32
        omega
      · have e : (y :: s).getLastD 0 = (y :: s)[s.length] := by rw [List.getLastD_eq_getLast?, List.getLast?_eq_getElem?, List.getElem?_eq_getElem (by simp)]; rfl
        have := h _ (List.getElem_mem (l := y :: s) (n := s.length) (by simp))
        rw [e]
        omega
theorem xNm_ok : (List.range 12).all (fun i => isNm (xNm i) && (keptN (xNm i) && !alikeS (xNm i) nHo)) = true := by kernel_rfl
theorem xNm_facts {i : Nat} (h : i < 12) : isNm (xNm i) = true ∧ keptN (xNm i) = true ∧ alikeS (xNm i) nHo = false := by
  have := List.all_eq_true.1 xNm_ok i (List.mem_range.2 h)
  simpa using this
theorem ho_facts : isNm nHo = true ∧ keptN nHo = true ∧ alikeS nHo nHo = true := ⟨by kernel_rfl, by kernel_rfl, by kernel_rfl⟩
theorem methAt_ok : (List.range 5).all (fun k => isMeth (methAt k)) = true := by kernel_rfl
theorem xHd_ok {vs : List (List UInt8)} {i : Nat} (h : i < 12) : okH (xHd vs i) = true := okH_one.2 ⟨(xNm_facts h).1, cl_vl (fun _ hc => cleanB_gr (cleanL_mem hc)) (cleanL_len _ _ _)⟩
theorem hoH_ok (h : List UInt8) : okH (hoH h) = true := okH_one.2 ⟨ho_facts.1, cl_vl (fun c hc => by
  rcases List.mem_cons.1 hc with rfl | hc
  · decide
  · exact cleanB_gr (cleanL_mem hc)) (by show (cleanL _ _ _).length + 1 ≤ _; have := cleanL_len false 50 h; omega)⟩
theorem xHds_mem {vs : List (List UInt8)} {k : Nat} {x : Hd} (h : x ∈ xHds vs k) : ∃ i, i < k ∧ x = xHd vs i := by
  unfold xHds at h
  obtain ⟨i, h1, h2⟩ := List.mem_map.1 h
  exact ⟨i, List.mem_range.1 h1, h2.symm⟩
theorem chkE_all {l : List Hd} (h1 : l.length ≤ 16) (h2 : ∀ x ∈ l, okH x = true) : chkE l = 0 := by
  unfold chkE
  rw [if_neg (by omega), if_pos (List.all_eq_true.2 h2)]
theorem xHds_get {vs : List (List UInt8)} {k : Nat} (h : k ≤ 12) : getL (xHds vs k) nHo = [] := by
  unfold getL
  rw [List.filter_eq_nil_iff]
  intro x hx
  obtain ⟨i, hi, rfl⟩ := xHds_mem hx
  have := (xNm_facts (i := i) (by omega)).2.2
  show ¬ alikeS (xNm i) nHo = true
  rw [this]
  exact Bool.false_ne_true
theorem made_ok (x : SeedL) : okM (madeM x) = true := by
  have h0 : 0 ≤ x.meth % 6 := Int.emod_nonneg _ (by decide)
  have h1 : x.meth % 6 < 6 := Int.emod_lt_of_pos _ (by decide)
  have h2 : 0 ≤ x.status % 500 := Int.emod_nonneg _ (by decide)
  have h3 : x.status % 500 < 500 := Int.emod_lt_of_pos _ (by decide)
  have hk : min x.vals.length 12 ≤ 12 := by omega
  have hb : (x.body.take 2000).length ≤ 2000 := by rw [List.length_take]; omega
  unfold madeM
  by_cases h5 : x.meth % 6 = 5
  · rw [if_pos h5, okM_is]
    generalize min x.vals.length 12 = k at *
    generalize x.body.take 2000 = bd at *
    simp only [Bool.and_eq_true, Bool.or_eq_true, decide_eq_true_eq, List.all_eq_true]
    refine ⟨.inr ?_, chkE_all (by rw [xHds_len]; omega) ?_, hb, ?_⟩
    · unfold ansB isSt
      simp only [Bool.and_eq_true, beq_self_eq_true, decide_eq_true_eq, true_and]
      omega
    · intro y hy
      obtain ⟨i, hi, rfl⟩ := xHds_mem hy
      exact xHd_ok (by omega)
    · intro y hy
      obtain ⟨i, hi, rfl⟩ := xHds_mem hy
      exact (xNm_facts (i := i) (by omega)).2.1
  · rw [if_neg h5, okM_is]
    generalize min x.vals.length 12 = k at *
    generalize x.body.take 2000 = bd at *
    have hm := List.all_eq_true.1 methAt_ok (x.meth % 6).toNat (List.mem_range.2 (by omega))
    generalize methAt (x.meth % 6).toNat = a at *
    simp only [Bool.and_eq_true, Bool.or_eq_true, decide_eq_true_eq, List.all_eq_true]
    refine ⟨.inl ?_, chkE_all (by rw [List.length_cons, xHds_len]; omega) ?_, hb, ?_⟩
    · have hg : getL (hoH x.host :: xHds x.vals k) nHo = [hoH x.host] := by
        have := xHds_get (vs := x.vals) hk
        unfold getL at this ⊢
        rw [List.filter_cons, this]
        exact if_pos ho_facts.2.2
      have hp : isPath (47 :: cleanL true 59 x.path) = true := by
        have := cleanL_len true 59 x.path
        unfold isPath
        simp only [Bool.and_eq_true, decide_eq_true_eq, List.all_eq_true, List.length_cons]
        refine ⟨fun c hc => ?_, by omega, by omega, rfl⟩
        rcases List.mem_cons.1 hc with rfl | hc
        · decide
        · exact cleanB_pt (cleanL_mem hc)
      unfold reqB
      rw [hg, hm, hp]
      rfl
    · intro y hy
      rcases List.mem_cons.1 hy with rfl | hy
      · exact hoH_ok _
      obtain ⟨i, hi, rfl⟩ := xHds_mem hy
      exact xHd_ok (by omega)
    · intro y hy
      rcases List.mem_cons.1 hy with rfl | hy
      · exact ho_facts.2.1
      obtain ⟨i, hi, rfl⟩ := xHds_mem hy
      exact (xNm_facts (i := i) (by omega)).2.1
theorem made_heads (x : SeedL) : (madeM x).heads.length ≤ 13 := by
  unfold madeM
  have h1 : min x.vals.length 12 ≤ 12 := by omega
  split
  · show (xHds _ _).length ≤ 13
    rw [xHds_len]; omega
  · show (hoH _ :: xHds _ _).length ≤ 13
    rw [List.length_cons, xHds_len]; omega
theorem made_head {x : SeedL} {y : Hd} (h : y ∈ (madeM x).heads) : okH y = true ∧ y.1.length ≤ 4 := by
  refine ⟨(chk_ok (okM_split (made_ok x)).2.1).2 y h, ?_⟩
  unfold madeM at h
  split at h
  · obtain ⟨i, hi, rfl⟩ := xHds_mem h
    show 3 ≤ 4
    omega
  · rcases List.mem_cons.1 h with rfl | h
    · show 4 ≤ 4
      omega
    obtain ⟨i, hi, rfl⟩ := xHds_mem h
    show 3 ≤ 4
    omega


/-! Two things that tell how long a body is. -/
def frHd (i : Nat) : Hd := if i = 0 then ([99, 111, 110, 116, 101, 110, 116, 45, 108, 101, 110, 103, 116, 104], [48]) else if i = 1 then ([67, 79, 78, 84, 69, 78, 84, 45, 76, 69, 78, 71, 84, 72], [48]) else if i = 2 then ([116, 114, 97, 110, 115, 102, 101, 114, 45, 101, 110, 99, 111, 100, 105, 110, 103], [99, 104, 117, 110, 107, 101, 100])
  else if i = 3 then ([84, 114, 97, 110, 115, 102, 101, 114, 45, 69, 110, 99, 111, 100, 105, 110, 103], [67, 72, 85, 78, 75, 69, 68]) else ([67, 111, 110, 116, 101, 110, 116, 45, 76, 101, 110, 103, 116, 104], [49])
def frTx (i : Nat) : List UInt8 := (frHd i).1 ++ [58, 32] ++ (frHd i).2
theorem frTx_line (i : Nat) : lineB (frHd i) = frTx i ++ [13, 10] := rfl
theorem frHd_ok : (List.range 5).all (fun i => okH (frHd i) && (alikeS (frHd i).1 nTE || alikeS (frHd i).1 nCL)) = true := by kernel_rfl
theorem frHd_facts {i : Nat} (h : i < 5) : okH (frHd i) = true ∧ (alikeS (frHd i).1 nTE = true ∨ alikeS (frHd i).1 nCL = true) := by
  have := List.all_eq_true.1 frHd_ok i (List.mem_range.2 h)
  simpa using this
def yH (h : Hd) : Hd := (89 :: 45 :: h.1, h.2)
theorem yH_ok {h : Hd} (ho : okH h = true) (hl : h.1.length ≤ 4) : okH (yH h) = true := by
  obtain ⟨h1, h2⟩ := okH_one.1 ho
  refine okH_one.2 ⟨?_, h2⟩
  have hm := nm_at h1
  unfold isNm
  simp only [Bool.and_eq_true, decide_eq_true_eq, List.all_eq_true]
  refine ⟨fun c hc => ?_, by show 1 ≤ h.1.length + 1 + 1; omega, by show h.1.length + 1 + 1 ≤ 30; omega⟩
  rcases List.mem_cons.1 hc with rfl | hc
  · decide
  rcases List.mem_cons.1 hc with rfl | hc
  · decide
  · exact hm c hc
def frAt (M : List Hd) (a b : Hd) (k l i : Nat) : List Hd := (if i = k then [a] else []) ++ (if i = l then [b] else []) ++ (M[i]?.toList.map yH)
def frL (M : List Hd) (a b : Hd) (k l j : Nat) : List Hd := (List.range j).flatMap (frAt M a b k l)
theorem frL_snoc (M : List Hd) (a b : Hd) (k l j : Nat) : frL M a b k l (j + 1) = frL M a b k l j ++ frAt M a b k l j := by
  unfold frL
  rw [List.range_succ, List.flatMap_append, List.flatMap_singleton]
def fcnt (l : List Hd) : Nat := (getL l nTE).length + (getL l nCL).length
theorem fcnt_append (a b : List Hd) : fcnt (a ++ b) = fcnt a + fcnt b := by unfold fcnt getL; simp only [List.filter_append, List.length_append]; omega
theorem fcnt_one {h : Hd} (ho : alikeS h.1 nTE = true ∨ alikeS h.1 nCL = true) : 1 ≤ fcnt [h] := by
  unfold fcnt getL
  simp only [List.filter_cons, List.filter_nil]
  rcases ho with e | e
  · rw [e]
    show 1 ≤ 1 + _
    omega
  · rw [e]
    show 1 ≤ _ + 1
    omega
theorem ind_succ (k j : Nat) : (if k < j + 1 then 1 else 0) = (if k < j then 1 else 0) + (if j = k then 1 else 0) := by
  by_cases h1 : k < j
  · rw [if_pos h1, if_pos (by omega), if_neg (by omega)]
  · by_cases h2 : j = k
    · rw [if_neg h1, if_pos h2, if_pos (by omega)]
    · rw [if_neg h1, if_neg h2, if_neg (by omega)]
theorem frL_facts {M : List Hd} {a b : Hd} {k l : Nat} (ha : okH a = true ∧ (alikeS a.1 nTE = true ∨ alikeS a.1 nCL = true)) (hb : okH b = true ∧ (alikeS b.1 nTE = true ∨ alikeS b.1 nCL = true)) (hM : ∀ y ∈ M, okH y = true ∧ y.1.length ≤ 4) :
    ∀ j, (∀ y ∈ frL M a b k l j, okH y = true) ∧ (frL M a b k l j).length ≤ (if k < j then 1 else 0) + (if l < j then 1 else 0) + min j M.length ∧ (if k < j then 1 else 0) + (if l < j then 1 else 0) ≤ fcnt (frL M a b k l j)
  | 0 => ⟨fun y hy => by simp [frL] at hy, by simp [frL], by simp⟩
  | j + 1 => by
    obtain ⟨h1, h2, h3⟩ := frL_facts (k := k) (l := l) ha hb hM j
    rw [frL_snoc, fcnt_append, List.length_append]
    have fa := fcnt_one ha.2
    have fb := fcnt_one hb.2
    have e1 : (frAt M a b k l j).length = (if j = k then 1 else 0) + (if j = l then 1 else 0) + (if j < M.length then 1 else 0) := by
      unfold frAt
      rw [List.length_append, List.length_append, List.length_map]
      have : (M[j]?.toList).length = if j < M.length then 1 else 0 := by
        split
        · rw [List.getElem?_eq_getElem (by omega)]; rfl
        · rw [List.getElem?_eq_none (by omega)]; rfl
      rw [this]
      congr 1
      congr 1 <;> split <;> rfl
    have e2 : (if j = k then 1 else 0) + (if j = l then 1 else 0) ≤ fcnt (frAt M a b k l j) := by
      unfold frAt
      rw [fcnt_append, fcnt_append]
      have q1 : (if j = k then 1 else 0) ≤ fcnt (if j = k then [a] else []) := by split <;> omega
      have q2 : (if j = l then 1 else 0) ≤ fcnt (if j = l then [b] else []) := by split <;> omega
      omega
    refine ⟨fun y hy => ?_, ?_, ?_⟩
    · rcases List.mem_append.1 hy with hy | hy
      · exact h1 y hy
      · unfold frAt at hy
        rcases List.mem_append.1 hy with hy | hy
        · rcases List.mem_append.1 hy with hy | hy
          · split at hy
            · rw [List.mem_singleton] at hy; rw [hy]; exact ha.1
            · simp at hy
          · split at hy
            · rw [List.mem_singleton] at hy; rw [hy]; exact hb.1
            · simp at hy
        · obtain ⟨z, hz, rfl⟩ := List.mem_map.1 hy
          rw [Option.mem_toList] at hz
          have := hM z (List.mem_of_getElem? hz)
          exact yH_ok this.1 this.2
    · rw [e1]
      have : min j M.length + (if j < M.length then 1 else 0) = min (j + 1) M.length := by split <;> omega
      rw [← this, ind_succ k j, ind_succ l j]
      omega
    · rw [ind_succ k j, ind_succ l j]
      omega
def frF : List UInt8 := [71, 69, 84, 32, 47, 97, 32, 72, 84, 84, 80, 47, 49, 46, 49]
def frPre : List UInt8 := [71, 69, 84, 32, 47, 97, 32, 72, 84, 84, 80, 47, 49, 46, 49, 13, 10, 72, 111, 115, 116, 58, 32, 104, 13, 10]
def hH : Hd := (nHo, [104])
theorem frPre_is : frPre = frF ++ 13 :: 10 :: lineB hH := rfl
theorem frF_first : firstP frF = some (sGET, [47, 97], 0) := by kernel_rfl
theorem frF_vl : frF.all vlB = true := by kernel_rfl
theorem hH_ok : okH hH = true := by kernel_rfl
theorem frames_bad {M : List Hd} {p q : Nat} {k l : Nat} (hp : p < 5) (hq : q < 5) (hM : ∀ y ∈ M, okH y = true ∧ y.1.length ≤ 4) (hMl : M.length ≤ 13) (hk : k ≤ M.length) (hl : l ≤ M.length) (b : List UInt8) (hb : b.length ≤ 10) :
    parseM (frPre ++ bytesL (frL M (frHd p) (frHd q) k l (M.length + 1)) ++ [13, 10] ++ b) = .error 50 := by
  obtain ⟨h1, h2, h3⟩ := frL_facts (k := k) (l := l) (frHd_facts hp) (frHd_facts hq) hM (M.length + 1)
  rw [if_pos (by omega), if_pos (by omega)] at h2 h3
  generalize frL M (frHd p) (frHd q) k l (M.length + 1) = F at *
  have hF : ∀ x ∈ hH :: F, okH x = true := fun x hx => by
    rcases List.mem_cons.1 hx with rfl | hx
    · exact hH_ok
    · exact h1 x hx
  have hFl : (hH :: F).length ≤ 16 := by rw [List.length_cons]; omega
  have hbl := bytesL_len (List.all_eq_true.2 hF)
  have e : frPre ++ bytesL F ++ [13, 10] ++ b = frF ++ 13 :: 10 :: (bytesL (hH :: F) ++ 13 :: 10 :: b) := by
    rw [frPre_is]
    unfold bytesL
    simp
  have hcnt : fcnt (hH :: F) = fcnt [hH] + fcnt F := fcnt_append [hH] F
  rw [e]
  refine parse_frames frF_first (by decide) (List.all_eq_true.1 frF_vl) hF (by omega) ?_ b ?_
  · show 2 ≤ fcnt (hH :: F)
    omega
  · simp only [List.length_append, List.length_cons]
    rw [List.length_cons] at hbl
    have : frF.length = 15 := rfl
    omega
end Go.Proofs.YthniggdimfldhaaGreatDoor
