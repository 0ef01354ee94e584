/- What the program asks of extensions beside the host's: areOthers. -/
import Derived.Test.YtiakbmllpnabnaaGreatDoorKg
import Derived.Test.YtiakbmllpnabnaaGreatDoorKs
import Derived.Lib.RowBridge
import Derived.OwnWalk
namespace Go.Proofs.YtiakbmllpnabnaaGreatDoor
open Go Go.RowKit

/- plain facts -/
def typesIn (l : List Int) : Bool := l.all fun z => decide (1 ≤ z) && decide (z ≤ 65535)
def leI (x y : Int) : Bool := decide (x ≤ y)
theorem sorted_leI (l : List Int) : (l.mergeSort leI).Pairwise fun x y => x ≤ y := by
  have := List.pairwise_mergeSort (le := leI) (fun a b c h1 h2 => by unfold leI at *; rw [decide_eq_true_iff] at *; omega) (fun a b => by unfold leI; rw [Bool.or_eq_true, decide_eq_true_iff, decide_eq_true_iff]; omega) l
  exact this.imp fun h => of_decide_eq_true h
theorem compact_len (l : List Int) : ((Lib.compact l).length = l.length) ↔ ∀ j, 0 < j → j < l.length → l.toArray[j]! ≠ l.toArray[j - 1]! := by
  unfold Lib.compact Lib.compactUpTo
  rw [List.length_map]
  constructor
  · intro h j hj0 hj hne
    have h2 : ∀ k ∈ List.range l.length, Lib.keeps l.toArray k = true := by
      refine List.length_filter_eq_length_iff.1 ?_
      rw [h, List.length_range]
    have := h2 j (List.mem_range.2 hj)
    rw [Lib.keeps_neg hj0 hne] at this
    cases this
  · intro h
    have h2 : ∀ k ∈ List.range l.length, Lib.keeps l.toArray k = true := fun k hk => by
      by_cases h0 : k = 0
      · subst h0; exact Lib.keeps_lt_one _ 0 (by omega)
      · exact Lib.keeps_pos (h k (by omega) (List.mem_range.1 hk))
    rw [List.length_filter_eq_length_iff.2 h2, List.length_range]
theorem compact_nodup (l : List Int) (hs : l.Pairwise fun x y => x ≤ y) : ((Lib.compact l).length = l.length) ↔ l.Nodup := by
  rw [compact_len]
  have ge : ∀ j (hj : j < l.length), l.toArray[j]! = l[j] := fun j hj => by simp [hj]
  have hp := List.pairwise_iff_getElem.1 hs
  constructor
  · intro h
    refine List.pairwise_iff_getElem.2 fun i j hi hj hij => ?_
    have h1 := h j (by omega) hj
    rw [ge j hj, ge (j - 1) (by omega)] at h1
    have h2 := hp (j - 1) j (by omega) hj (by omega)
    by_cases e : i = j - 1
    · subst e; omega
    · have h3 := hp i (j - 1) hi (by omega) (by omega)
      omega
  · intro h j hj0 hj e
    rw [ge j hj, ge (j - 1) (by omega)] at e
    exact (List.pairwise_iff_getElem.1 h) (j - 1) j (by omega) hj (by omega) e.symm
def othersB (l : List (Int × List UInt8)) : Bool := typesIn (l.map (·.1)) && decide ((l.map (·.1)).Nodup)
theorem others_compact (l : List Int) : decide ((Lib.compact (l.mergeSort leI)).length = l.length) = decide l.Nodup := by
  have h := compact_nodup _ (sorted_leI l)
  rw [List.length_mergeSort] at h
  exact decide_eq_decide.2 (h.trans (List.mergeSort_perm l leI).nodup_iff)
theorem typesOk_others {l : List (Int × List UInt8)} (hd : ∀ x ∈ l, x.2.length ≤ 65535) : typesOk l = othersB l := by
  have hlen : (l.map (·.1)).length = l.length := List.length_map _
  rw [Bool.eq_iff_iff, typesOk_iff]
  unfold othersB typesIn
  rw [Bool.and_eq_true, decide_eq_true_iff, List.all_eq_true]
  constructor
  · intro h
    refine ⟨fun z hz => ?_, List.pairwise_iff_getElem.2 fun i j hi hj hij => ?_⟩
    · obtain ⟨x, hx, rfl⟩ := List.mem_map.1 hz
      obtain ⟨i, hi, rfl⟩ := List.getElem_of_mem hx
      obtain ⟨⟨h1, h2, _⟩, _⟩ := h i hi
      rw [Bool.and_eq_true, decide_eq_true_iff, decide_eq_true_iff]
      exact ⟨h1, h2⟩
    · rw [List.getElem_map, List.getElem_map]
      exact (h j (by omega)).2 i hij
  · rintro ⟨h1, h2⟩ i hi
    have h3 := h1 l[i].1 (List.mem_map.2 ⟨l[i], List.getElem_mem hi, rfl⟩)
    rw [Bool.and_eq_true, decide_eq_true_iff, decide_eq_true_iff] at h3
    refine ⟨⟨h3.1, h3.2, hd _ (List.getElem_mem hi)⟩, fun k hk => ?_⟩
    have := (List.pairwise_iff_getElem.1 h2) k i (by omega) (by omega) hk
    rw [List.getElem_map, List.getElem_map] at this
    exact this
theorem others_bad {l : List (Int × List UInt8)} {k : Nat} (hk : k < l.length) (h : l[k].1 < 1 ∨ 65535 < l[k].1) : othersB l = false := by
  unfold othersB
  cases e : typesIn (l.map (·.1)) with
  | false => rfl
  | true =>
    have h3 := List.all_eq_true.1 e l[k].1 (List.mem_map.2 ⟨l[k], List.getElem_mem hk, rfl⟩)
    rw [Bool.and_eq_true, decide_eq_true_iff, decide_eq_true_iff] at h3
    omega
theorem others_good {l : List (Int × List UInt8)} (h : ∀ k (hk : k < l.length), 1 ≤ l[k].1 ∧ l[k].1 ≤ 65535) : othersB l = decide ((l.map (·.1)).Nodup) := by
  unfold othersB
  rw [show typesIn (l.map (·.1)) = true from List.all_eq_true.2 fun z hz => by
    obtain ⟨x, hx, rfl⟩ := List.mem_map.1 hz
    obtain ⟨i, hi, rfl⟩ := List.getElem_of_mem hx
    rw [Bool.and_eq_true, decide_eq_true_iff, decide_eq_true_iff]
    exact h i hi]
  rfl

/- the worlds -/
def intV (l : List Int) : List Value := l.map (Value.int .i64)
theorem sort_world {B : Nat} {w w' : World} {g n : Nat} {os : Array Obj} {xs ys : List Int} (hH : Sort.Holds (Value.int .i64) w g 0 xs.toArray) (hl : ys.length = xs.length) (hg : g < w.heap.size) (hB : B ≤ g)
    (e : w' = Sort.grow (Sort.putRow (Value.int .i64) (Sort.ahead w n) g 0 ys.toArray) os) : Below B w w' ∧ Sort.Holds (Value.int .i64) w' g 0 ys.toArray := by
  rw [Lib.putRow_eq_setCells (Value.int .i64) w g 0 xs.toArray ys n hH (by simpa using hl)] at e
  obtain ⟨s1, s2, s3, s4, s5⟩ := setCells_same g (ys.map (Value.int .i64)) 0 (w.drewN n)
  have hsz : w'.heap.size = w.heap.size + os.size := by rw [e]; show (_ ++ os).size = _; rw [Array.size_append, s4]; rfl
  have hh : ∀ k, k < w.heap.size → w'.heap[k]? = ((w.drewN n).setCells g 0 (ys.map (Value.int .i64))).heap[k]? := fun k hk => by
    rw [e]
    show (((w.drewN n).setCells g 0 (ys.map (Value.int .i64))).heap ++ os)[k]? = _
    rw [Array.getElem?_append_left (by rw [s4]; exact hk)]
  refine ⟨⟨by rw [e]; exact s1, by rw [e]; exact s2, by rw [e]; exact s3, by omega, fun k hk => (hh k (by omega)).trans (s5 k (by omega))⟩, fun j hj => ?_⟩
  have hj' : j < ys.length := by simpa using hj
  have hc : ∀ i, w'.cell? ⟨g, i, none⟩ = ((w.drewN n).setCells g 0 (ys.map (Value.int .i64))).cell? ⟨g, i, none⟩ := fun i => by unfold World.cell?; rw [hh g hg]
  have hf : ∀ i, w'.frozen? ⟨g, i, none⟩ = ((w.drewN n).setCells g 0 (ys.map (Value.int .i64))).frozen? ⟨g, i, none⟩ := fun i => by unfold World.frozen?; rw [hh g hg]
  constructor
  · rw [hc]
    have := World.cell?_setCells_in g (ys.map (Value.int .i64)) 0 (w.drewN n) (fun i hi => by
      have := (hH i (by rw [List.length_map] at hi; simp; omega)).1
      show (w.cell? _).isSome = true
      rw [this]; rfl) j (by rw [List.length_map]; exact hj')
    rw [this]
    simp [hj']
  · rw [hf, World.frozen?_setCells]
    exact (hH j (by simp; omega)).2
theorem holds_cs {w : World} {g : Nat} {xs : List Int} (h : Cs w g (intV xs)) : Sort.Holds (Value.int .i64) w g 0 xs.toArray := fun j hj => by
  have hj' : j < xs.length := by simpa using hj
  have hj2 : j < (intV xs).length := by unfold intV; rw [List.length_map]; exact hj'
  rw [Nat.zero_add]
  refine ⟨?_, h.free j hj2⟩
  rw [h.cell j hj2]
  unfold intV
  simp [hj']
theorem infoI : (Tryz.prog.info? 3).map (fun i => (i.zero, i.size, i.bytes)) = some (some (.int .i64 0), 1, 8) := by kernel_rfl
theorem made_ints (n : Nat) (h : n ≤ 1000000) : ∃ M : Array Value, (∀ w : World, (Instr.makeSlice 25 (.int .i64 n) (.int .i64 n)).run Tryz.prog w = .ok (.slice (some ⟨w.heap.size, 0, none⟩) n n) (w.alloc (.cells M 3))) ∧ M.toList = List.replicate n (.int .i64 0) := by
  obtain ⟨i0, hi, hz0, hz1, hz2⟩ := info_parts infoI
  refine ⟨madeCells (Value.int .i64 0).cells (n * i0.size), fun w => ?_, ?_⟩
  · have hr := run_make (P := Tryz.prog) w 25 3 i0 (.int .i64 0) Tryz.underlying25 hi hz0 .i64 .i64 n n (by omega) (by omega) (by rw [hz2]; omega) (by omega)
    simpa using hr
  · rw [hz1, Nat.mul_one]; exact toList_madeCells_one (.int .i64 0) n
theorem cs_made (w : World) (M : Array Value) (t : TypeId) (vs : List Value) (h : M.toList = vs) : Cs (w.alloc (.cells M t)) w.heap.size vs := by
  subst h
  refine ⟨by simp, fun j hj => ?_, fun j hj => ?_⟩
  · rw [World.cell?_alloc_at _ _ _ _ rfl]; simp
  · unfold World.frozen?
    rw [show (w.alloc (.cells M t)).heap[w.heap.size]? = some (.cells M t) from heap_alloc_new w _]
    rfl
/-- how far the types have been laid -/
def TySt (l : List (Int × List UInt8)) (g k : Nat) (w wr : World) : Prop := ∃ T : List Int, Cs wr g (intV T) ∧ T.length = l.length ∧ T.take k = (l.take k).map (·.1) ∧ (∀ j (hj : j < l.length), j < k → 1 ≤ l[j].1 ∧ l[j].1 ≤ 65535) ∧ Below g w wr
set_option maxRecDepth 100000 in
set_option maxHeartbeats 1000000 in
theorem areOthers_prog {D : Nat} {w : World} {A : Option Addr} {c n : Nat} {l : List (Int × List UInt8)} (h : ExtsIn D w A l) (hD : D ≤ w.heap.size) (hn : n = l.length) (hl : l.length ≤ 1000000) :
    Calls Tryz.prog 61 #[.slice A n c] w (BoolP (othersB l) w) := by
  subst hn
  unfold BoolP
  obtain ⟨M, hmk, hM⟩ := made_ints l.length hl
  have hmk := hmk w
  have HN := Lib.hid h
  have HD := Lib.hid hD
  have HC := Lib.hid (cs_made w M 3 _ hM)
  have HB := Lib.hid (below_new w (.cells M 3))
  clear h hM
  go_enter Tryz.func61, Tryz.ntmps61
  go_wp2_with fail
  clear hmk
  generalize w.alloc (.cells M 3) = w1 at *
  generalize hg : w.heap.size = g at *
  go_loopw [11] (fun i wr => ∃ k : Nat, k ≤ l.length ∧ i = .int .i64 k ∧ Hid (TySt l g k w wr)) (fun i _ => l.length - (intOf i).toNat)
  case atStart => exact ⟨0, Nat.zero_le _, rfl, Lib.hid ⟨List.replicate l.length 0, by unfold intV; rw [List.map_replicate]; exact HC.out, List.length_replicate .., by simp, fun j _ h => absurd h (Nat.not_lt_zero j), HB.out⟩⟩
  case round =>
    obtain ⟨k, hk, rfl, hst⟩ := hrel
    obtain ⟨T, hcs, hTl, hTk, hok, hb⟩ := hst.out
    by_cases hlt : k < l.length
    · obtain ⟨b, off, Ad, cd, rfl, hbD, hc0, hc1, _⟩ := HN.out.keep (fun j hj => hb.block j (Nat.lt_of_lt_of_le hj HD.out)) (D' := wr.heap.size) (Nat.le_trans HD.out (Nat.le_of_lt hcs.lt)) k hlt
      have q0 : (0 : Int) ≤ k := by omega
      have q1 : (k : Int) < l.length := by omega
      have hTi : k < (intV T).length := by unfold intV; rw [List.length_map]; omega
      have t0 := hcs.cell k hTi
      have t1 := hcs.free k hTi
      rw [List.getElem?_eq_getElem hTi] at t0
      have t2 := hcs.lt
      have HB1 := Lib.hid hb
      have HF : Hid (l[k].1 < 1 ∨ 65535 < l[k].1 → othersB l = false) := Lib.hid (others_bad hlt)
      have HS : Hid (1 ≤ l[k].1 → l[k].1 ≤ 65535 → ∀ o, TySt l g (k + 1) w ((wr.setCell ⟨g, k, none⟩ (.int .i64 l[k].1)).alloc o)) := Lib.hid fun h1 h2 o => by
        refine ⟨T.set k l[k].1, ?_, by rw [List.length_set, hTl], ?_, fun j hj hjk => ?_, ?_⟩
        · have := (hcs.set k hTi (.int .i64 l[k].1)).below (below_new _ o)
          unfold intV at this ⊢
          rw [List.map_set]
          exact this
        · rw [List.take_succ_eq_append_getElem (by rw [List.length_set]; omega), List.take_set_of_le (Nat.le_refl _), List.getElem_set_self, hTk, List.take_succ_eq_append_getElem hlt, List.map_append]; rfl
        · by_cases e : j = k
          · subst e; exact ⟨h1, h2⟩
          · exact hok j hj (by omega)
        · exact (hb.setCell (p := ⟨g, k, none⟩) (Nat.le_refl g) _).alloc (by simp [World.setCell]; omega) _
      generalize (intV T)[k] = tv at *
      clear hst hTk hok hcs hTi hb hTl
      generalize l[k].2.length = dl at *
      generalize l[k].1 = ty at *
      by_cases h1 : ty ≤ 0
      · obtain e := HF.out (.inl (by omega))
        have HE := Lib.hid e
        clear e HS
        go_wp2_with fail
        go_ret
        refine ⟨by rw [HE.out] <;> rfl, ?_⟩
        rw [hg]
        exact HB1.out.alloc (by have := t2; omega) _
      · by_cases h2 : 65535 < ty
        · obtain e := HF.out (.inr h2)
          have HE := Lib.hid e
          clear e HS
          go_wp2_with fail
          go_ret
          refine ⟨by rw [HE.out] <;> rfl, ?_⟩
          exact HB1.out.alloc (by have := t2; omega) _
        · have HT := Lib.hid (HS.out (by omega) (by omega) (.cells #[.int .i64 ty, .slice Ad dl cd] 62))
          clear HS HF
          go_wp2_with fail
          go_roundw
          case rel => exact ⟨k + 1, by omega, by go_num, HT⟩
          case measure => simp [intOf]; omega
    · obtain rfl : l.length = k := by omega
      have HO : Hid (othersB l = decide ((l.map (·.1)).Nodup)) := Lib.hid (others_good fun j hj => hok j hj hj)
      have hT : T = l.map (·.1) := by
        have h1 : T.take l.length = T := List.take_of_length_le (by omega)
        rw [← h1, hTk, List.take_length]
      have HCP : Hid (decide ((Lib.compact (T.mergeSort leI)).length = l.length) = othersB l) := Lib.hid (by
        rw [HO.out, ← hT, ← others_compact T, hTl])
      have HB1 := Lib.hid hb
      have hgl := hcs.lt
      by_cases h0 : l.length = 0
      · have hl0 : l = [] := List.eq_nil_of_length_eq_zero h0
        subst hl0
        have HO2 : Hid (othersB ([] : List (Int × List UInt8)) = true) := Lib.hid rfl
        clear hst hcs hTl hTk hok hb HO hT HCP h0
        go_wp2_with (first
          | (go_at_call 82; refine (Tryz.slices_Sort_int_none _ _ _).mono ?_; rintro e w' ⟨rfl, rfl⟩)
          | (go_at_call 83; refine (Tryz.slices_Compact_int_empty _ _ _).mono ?_; rintro e w' ⟨rfl, rfl⟩))
        go_ret
        exact ⟨by rw [HO2.out] <;> rfl, by first | exact HB1.out | (rw [hg]; exact HB1.out)⟩
      · have hHo := holds_cs hcs
        have CS := Tryz.slices_Sort_int g 0 l.length T wr hHo hgl (by omega)
        rw [hTl] at CS
        have CS := Lib.hid CS
        have HH := Lib.hid hHo
        have HTL := Lib.hid hTl
        clear hst hcs hTk hok hb HO hT hHo hTl
        go_wp2_with fail
        refine CS.out.mono ?_
        rintro e w2 ⟨rfl, q, os, hw2⟩
        obtain ⟨hb2, hh2⟩ := sort_world (B := g) HH.out (by rw [List.length_mergeSort]) hgl (Nat.le_refl _) hw2
        have hml : (T.mergeSort leI).length = l.length := by rw [List.length_mergeSort, HTL.out]
        have CC := Tryz.slices_Compact_int g 0 l.length (T.mergeSort leI) w2 hh2 (by rw [hml]; omega) (Nat.le_of_eq hml)
        rw [hml] at CC
        have CC := Lib.hid CC
        have HH2 := Lib.hid hh2
        have HB2 := Lib.hid (HB1.out.trans hb2)
        have HML := Lib.hid hml
        have hgl2 : g < w2.heap.size := Nat.lt_of_lt_of_le hgl hb2.size
        clear CS hw2 hb2 hh2 hml
        go_wp2_with fail
        refine CC.out.mono ?_
        rintro e w3 ⟨rfl, q3, hw3⟩
        have hcl := Lib.compact_length_le (T.mergeSort leI)
        have hyl : (Lib.compact (T.mergeSort leI) ++ List.replicate (l.length - (Lib.compact (T.mergeSort leI)).length) 0).length = (T.mergeSort leI).length := by
          rw [List.length_append, List.length_replicate, HML.out]
          rw [HML.out] at hcl
          omega
        obtain ⟨hb3, _⟩ := sort_world (B := g) (w' := w3) (n := q3) (os := #[]) HH2.out hyl hgl2 (Nat.le_refl _) (by rw [Sort.grow_empty]; exact hw3)
        have HB3 := Lib.hid (HB2.out.trans hb3)
        clear CC hw3 hb3 hcl hyl
        generalize (Lib.compact (T.mergeSort leI)).length = m at *
        go_wp2_with fail
        go_ret
        refine ⟨?_, by first | exact HB3.out | (rw [hg]; exact HB3.out)⟩
        rw [← HCP.out]
        by_cases e : m = l.length
        · rw [e]; simp
        · have h1 : ((m : Int) == l.length) = false := by rw [beq_eq_false_iff_ne]; omega
          simp [h1, e]
end Go.Proofs.YtiakbmllpnabnaaGreatDoor
