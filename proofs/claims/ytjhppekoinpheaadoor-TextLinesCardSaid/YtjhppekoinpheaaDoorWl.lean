/- The statement's own body TextLines: true for every text, in every world that holds the library's table of powers of ten. -/
import Derived.Test.YtjhppekoinpheaaDoorWh
namespace Go.Proofs.YtjhppekoinpheaaDoor
open Go Go.RowKit

def un (ls : List (List UInt8)) : List UInt8 := ls.flatMap fun l => l ++ [10]
theorem un_step {ls : List (List UInt8)} {k : Nat} (h : k < ls.length) : un (ls.take (k + 1)) = un (ls.take k) ++ ls[k] ++ [10] := by
  unfold un; rw [List.take_succ_eq_append_getElem h, List.flatMap_append]; simp
theorem un_take (ls : List (List UInt8)) (k : Nat) : (un (ls.take k)).length ≤ (un ls).length := by
  conv => rhs; rw [← List.take_append_drop k ls]
  unfold un; rw [List.flatMap_append, List.length_append]; omega
theorem split10 {l : List UInt8} (h : 10 ∈ l) : l = Pl.head10 l ++ 10 :: Pl.tail10 l := by
  induction l with
  | nil => simp at h
  | cons c r ih =>
    unfold Pl.head10 Pl.tail10 at *
    rw [List.takeWhile_cons, List.dropWhile_cons]
    by_cases hc : c = 10
    · subst hc; simp
    · rw [if_pos (by simpa using hc), if_pos (by simpa using hc), List.cons_append, ← ih (by simpa [Ne.symm hc] using h)]
theorem lines_un (n : Nat) : ∀ l : List UInt8, l.length ≤ n → un (Pl.lines l) = l ∨ (un (Pl.lines l) = l ++ [10] ∧ l ≠ [] ∧ l.getLast? ≠ some 10) := by
  induction n with
  | zero => intro l hl; have : l = [] := List.eq_nil_of_length_eq_zero (by omega); subst this; exact .inl rfl
  | succ n ih =>
    intro l hl
    by_cases h0 : l = []
    · subst h0; exact .inl rfl
    · rw [Pl.lines_cons h0]
      have hu : un (Pl.head10 l :: Pl.lines (Pl.tail10 l)) = Pl.head10 l ++ [10] ++ un (Pl.lines (Pl.tail10 l)) := by simp [un]
      rw [hu]
      by_cases hm : 10 ∈ l
      · have hs := split10 hm
        have hlt := Pl.tail10_len h0
        rcases ih (Pl.tail10 l) (by omega) with h | ⟨h1, h2, h3⟩
        · left; rw [h]; conv => rhs; rw [hs]
          simp
        · right
          rw [h1]
          refine ⟨?_, h0, ?_⟩
          · conv => rhs; rw [hs]
            simp
          · have e : Pl.head10 l ++ 10 :: Pl.tail10 l = (Pl.head10 l ++ [10]) ++ Pl.tail10 l := by simp
            intro hx
            rw [hs, e, List.getLast?_append, List.getLast?_eq_some_getLast h2, Option.some_or, ← List.getLast?_eq_some_getLast h2] at hx
            exact h3 hx
      · right
        obtain ⟨e1, e2⟩ := Pl.head10_none hm
        rw [e1, e2]
        refine ⟨by simp [un, Pl.lines_nil], h0, ?_⟩
        intro h
        exact hm (List.mem_of_getLast? h)
theorem lines_no10 (n : Nat) : ∀ l : List UInt8, l.length ≤ n → ∀ v ∈ Pl.lines l, 10 ∉ v := by
  induction n with
  | zero => intro l hl; have : l = [] := List.eq_nil_of_length_eq_zero (by omega); subst this; simp [Pl.lines_nil]
  | succ n ih =>
    intro l hl v hv
    by_cases h0 : l = []
    · subst h0; simp [Pl.lines_nil] at hv
    · rw [Pl.lines_cons h0] at hv
      have hlt := Pl.tail10_len h0
      rcases List.mem_cons.1 hv with rfl | hv
      · exact Pl.no10_head l
      · exact ih (Pl.tail10 l) (by omega) v hv

set_option maxHeartbeats 4000000 in
set_option maxRecDepth 100000 in
theorem textLines_any (s : ByteArray) (w : World) (hs : s.size ≤ maxLen) (ht : Tab w) :
    Calls Tryd.prog 6 #[.string s] w fun e w' => e = .returned (.bool true) ∧ Below w.heap.size w w' := by
  have HT := Lib.hid ht
  clear ht
  unfold maxLen at hs
  go_enter Tryd.func6, Tryd.ntmps6
  go_wp2_with fail
  have hsz : (s.extract 0 (min (s.size : Int) 1000).toNat).size ≤ 1000 := by simp; omega
  generalize s.extract 0 (min (s.size : Int) 1000).toNat = t at *
  obtain ⟨ls, hls⟩ : ∃ ls, Pl.lines t.data.toList = ls := ⟨_, rfl⟩
  have hln : ls.length ≤ 1000 := by have := Pl.lines_len t.data.toList; rw [hls, ← Lib.size_eq] at this; omega
  have hun := lines_un t.data.toList.length t.data.toList (Nat.le_refl _)
  have hno := lines_no10 t.data.toList.length t.data.toList (Nat.le_refl _)
  rw [hls] at hun hno
  have hul : (un ls).length ≤ 1001 := by
    have hsz' := hsz
    rw [Lib.size_eq] at hsz'
    rcases hun with h | ⟨h, _⟩
    · rw [h]; omega
    · rw [h]; simp; omega
  have HU := Lib.hid hun
  have HN := Lib.hid hno
  have C1 := Lib.hid (fun wx => lines_is t wx ls (by omega) hls)
  clear hun hno hls
  refine (C1.out _).mono ?_
  rintro e w1 ⟨A1, c1, rfl, ht1, hb1⟩
  have HT1 := Lib.hid ht1
  clear ht1 C1
  go_wp2_with fail
  go_loop [5, 6] (fun v i => ∃ k : Nat, k ≤ ls.length ∧ i = .int .i64 k ∧ v = .string ⟨(un (ls.take k)).toArray⟩) (fun _ i => ls.length - (intOf i).toNat)
  case atStart => exact ⟨0, Nat.zero_le _, rfl, rfl⟩
  case round =>
    obtain ⟨k, hk, rfl, rfl⟩ := hrel
    by_cases hlt : k < ls.length
    · obtain ⟨b, o, rfl, hbl, hcell⟩ := HT1.out k hlt
      have h10 := Lib.hid (HN.out ls[k] (List.getElem_mem hlt))
      have hst := Lib.hid (un_step hlt)
      have hkl : (un (ls.take (k + 1))).length ≤ 1001 := Nat.le_trans (un_take ls (k + 1)) hul
      rw [hst.out] at hkl
      simp only [List.length_append, List.length_cons, List.length_nil] at hkl
      generalize un (ls.take k) = uk at *
      generalize hy : ls[k] = y at *
      clear hy
      go_wp2_with fail
      go_loop [7] (fun i => ∃ j : Nat, j ≤ y.length ∧ i = .int .i64 j) (fun i => y.length - (intOf i).toNat)
      case atStart => exact ⟨0, Nat.zero_le _, rfl⟩
      case round =>
        obtain ⟨j, hj, rfl⟩ := hrel
        by_cases hjl : j < y.length
        · have hne : ((((⟨y.toArray⟩ : ByteArray)[j]'(by rw [mk_size]; exact hjl)).toNat : Int) == 10) = false := by
            rw [beq_eq_false_iff_ne]; intro e
            have e2 : (⟨y.toArray⟩ : ByteArray)[j]'(by rw [mk_size]; exact hjl) = y[j] := by simp [ByteArray.getElem_eq_getElem_data]
            rw [e2] at e
            exact h10.out (by rw [← Pl.eq10.2 (by omega : y[j].toNat = 10)]; exact List.getElem_mem hjl)
          go_wp2_with fail
          go_round
          case rel => exact ⟨j + 1, by omega, by go_num⟩
          case measure => simp [intOf]; omega
        · have hq1 : ¬ 9223372036854775807 < uk.length + y.length := by omega
          have hq2 : ¬ 9223372036854775807 < uk.length + y.length + 1 := by omega
          go_wp2_with fail
          go_round
          case rel => exact ⟨k + 1, by omega, by go_num, by rw [hst.out, ← ByteArray.mk_append_mk, ← ByteArray.mk_append_mk]⟩
          case measure => simp [intOf]; omega
    · have e : ls.take k = ls := List.take_of_length_le (by omega)
      rw [e]
      clear e
      rcases HU.out with h | ⟨h1, h2, h3⟩
      · have e1 : (un ls == t.toList) = true := by rw [beq_iff_eq, Lib.toList_data]; exact h
        clear h
        go_wp2_with fail
        refine (works_any _ (HT.out.below hb1)).mono ?_
        rintro e w2 ⟨rfl, hb2⟩
        go_wp2_with fail
        go_ret
        exact ⟨rfl, Below.and hb1 hb2⟩
      · have e1 : (un ls == t.toList) = false := by
          rw [beq_eq_false_iff_ne, Lib.toList_data, h1]; intro e
          have := congrArg List.length e
          simp at this
        have e2 : (un ls == (t ++ (⟨#[10]⟩ : ByteArray)).toList) = true := by
          rw [beq_iff_eq, Lib.toList_data, h1]
          have := ByteArray.mk_append_mk t.data.toList [10]
          rw [Lib.mk_data] at this
          rw [show (⟨#[10]⟩ : ByteArray) = ⟨([10] : List UInt8).toArray⟩ from rfl, this]
        have hp : 0 < t.size := by
          rw [Lib.size_eq]; exact List.length_pos_iff.2 h2
        have e3 : ((t.size : Int) == 0) = false := by rw [beq_eq_false_iff_ne]; omega
        have hq : ¬ 9223372036854775807 < t.size + 1 := by omega
        have c1 : 1 ≤ t.size := by omega
        have e4 : t[t.size - 1].toNat ≠ 10 := by
          intro e; apply h3
          rw [List.getLast?_eq_getElem?, ← Lib.size_eq, List.getElem?_eq_getElem (by rw [← Lib.size_eq]; omega), at_list t (t.size - 1) (by omega), Pl.eq10.2 e]
        have e5 : ((t[t.size - 1].toNat : Int) != 10) = true := by simp; omega
        have e6 : ((t[t.size - 1].toNat : Int) == 10) = false := by rw [beq_eq_false_iff_ne]; omega
        clear h1 h2 h3 e4
        go_wp2_with fail
        refine (works_any _ (HT.out.below hb1)).mono ?_
        rintro e w2 ⟨rfl, hb2⟩
        go_wp2_with fail
        go_ret
        exact ⟨rfl, Below.and hb1 hb2⟩
end Go.Proofs.YtjhppekoinpheaaDoor
