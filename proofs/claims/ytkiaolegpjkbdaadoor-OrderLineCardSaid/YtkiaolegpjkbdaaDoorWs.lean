/- The law OrderLine. -/
import Derived.Test.YtkiaolegpjkbdaaDoorWr
namespace Go.Proofs.YtkiaolegpjkbdaaDoor
open Go Go.RowKit Go.Shelf

/-- A set out of a row. -/
def ofRow (l : List Nat) : Nat := l.foldl (fun F a => F ||| 2 ^ a) 0
theorem ofRow_snoc (l : List Nat) (a : Nat) : ofRow (l ++ [a]) = ofRow l ||| 2 ^ a := by simp [ofRow]
theorem tb_ofRow (l : List Nat) (i : Nat) : (ofRow l).testBit i = true ↔ i ∈ l := by
  unfold ofRow
  have : ∀ (l : List Nat) (F : Nat), (l.foldl (fun F a => F ||| 2 ^ a) F).testBit i = true ↔ F.testBit i = true ∨ i ∈ l := by
    intro l
    induction l with
    | nil => simp
    | cons a l ih =>
      intro F
      rw [List.foldl_cons, ih, tb_or_pow, Bool.or_eq_true, decide_eq_true_eq, List.mem_cons, or_assoc, eq_comm (a := a)]
  rw [this]
  simp
theorem had_zero (w : World) : Had (w.alloc (.cells #[Value.bool false, Value.bool false, Value.bool false, Value.bool false, Value.bool false, Value.bool false, Value.bool false, Value.bool false, Value.bool false, Value.bool false, Value.bool false, Value.bool false, Value.bool false, Value.bool false, Value.bool false, Value.bool false] 45)) w.heap.size 0 :=
  (World.alloc_heap_new w _).trans (by congr 3)

set_option maxHeartbeats 2000000 in
theorem orderLine_any (many : Int) (A1 : Option Addr) (c1 : Nat) (l : List (Int × Int)) (w : World) (hT : Tab w) (hl : Rd w A1 (pvI l)) :
    Calls Tryd.prog 7 #[.int .i64 many, .slice A1 l.length c1] w fun e w' => e = .returned (.bool true) ∧ Below w.heap.size w w' := by
  have h1 := manyOf_pos many
  have h2 := manyOf_le many
  go_enter Tryd.func7, Tryd.ntmps7
  go_wp2_with fail
  refine (made_any many A1 c1 l w hT hl).mono ?_
  rintro e w2 ⟨b, v, T, rfl, S, hTook, hT40, _, _⟩
  clear hT hl
  generalize manyOf many = n at *
  have g := hTook.good h1 h2
  have t := hTook.anti h1 h2
  generalize ofL T = A at *
  clear hTook hT40
  go_wp2_with fail
  refine (line_any b n A g t w2 S.tab S.ord).mono ?_
  obtain ⟨⟨hmem, hnd, hrow⟩, hlen⟩ := lineL_lined g t
  generalize lineL n A = row at *
  rintro e w3 ⟨v3, rfl, ⟨A7, c7, rfl, hrd⟩, hb3⟩
  have S3 := S.below hb3
  clear S hb3
  have hnn : ((row.length : Int) != n) = false := by rw [hlen]; simp
  have HLEN := Lib.hid hlen
  have HMEM := Lib.hid hmem
  have HND := Lib.hid hnd
  have HROW := Lib.hid hrow
  have HRD := Lib.hid hrd
  have HS3 := Lib.hid S3
  have hle : row.length ≤ n := by omega
  clear hlen hmem hnd hrow hrd
  go_wp2_with fail
  refine (many_any b n A w3 S3.ord).mono ?_
  rintro e w' ⟨rfl, rfl⟩
  have hd0 := had_zero w3
  have hb0 := below_new w3 (.cells #[Value.bool false, Value.bool false, Value.bool false, Value.bool false, Value.bool false, Value.bool false, Value.bool false, Value.bool false, Value.bool false, Value.bool false, Value.bool false, Value.bool false, Value.bool false, Value.bool false, Value.bool false, Value.bool false] 45)
  have HD0 := Lib.hid hd0
  have HB0 := Lib.hid hb0
  clear S3 hd0 hb0
  go_wp2_with fail
  have hd0 := HD0.out
  have hb0 := HB0.out
  clear HD0 HB0
  generalize w3.alloc (.cells #[Value.bool false, Value.bool false, Value.bool false, Value.bool false, Value.bool false, Value.bool false, Value.bool false, Value.bool false, Value.bool false, Value.bool false, Value.bool false, Value.bool false, Value.bool false, Value.bool false, Value.bool false, Value.bool false] 45) = w4 at *
  go_loopw [9] (fun i wr => ∃ k : Nat, k ≤ row.length ∧ i = .int .i64 k ∧ Had wr w3.heap.size (ofRow (row.take k)) ∧ Below w3.heap.size w3 wr) (fun i _ => row.length - (intOf i).toNat)
  case atStart => exact ⟨0, Nat.zero_le _, rfl, hd0, hb0⟩
  case round =>
    obtain ⟨k, hk, rfl, hd, hB⟩ := hrel
    clear hd0 hb0
    obtain ⟨wo, rfl⟩ : ∃ wo : World, wo = wr := ⟨_, rfl⟩
    have So := HS3.out.below hB
    by_cases hkl : k < row.length
    · obtain ⟨b7, off, rfl, hbl, hc⟩ := (HRD.out.below hB).nat k hkl
      obtain ⟨a, ha⟩ : ∃ a, a = row[k] := ⟨_, rfl⟩
      have han : a < n := by
        have := (HMEM.out a).1 (by rw [ha]; exact List.getElem_mem hkl)
        rw [tb_allS] at this
        simpa using this
      have hnot : (ofRow (row.take k)).testBit a = false := by
        cases h : (ofRow (row.take k)).testBit a with
        | false => rfl
        | true =>
          exfalso
          rw [tb_ofRow, ha, List.mem_iff_getElem] at h
          obtain ⟨j, hj, e⟩ := h
          rw [List.length_take] at hj
          rw [List.getElem_take] at e
          exact List.pairwise_iff_getElem.1 (List.nodup_iff_pairwise_ne.1 HND.out) j k (by omega) hkl (by omega) e
      have HSN : Hid (ofRow (row.take (k + 1)) = ofRow (row.take k) ||| 2 ^ a) := by
        show _ = _
        rw [List.take_succ_eq_append_getElem hkl, ofRow_snoc, ha]
      have HBE : Hid (∀ j (hj : j < k), le A a (row[j]'(by omega)) = false) := by
        intro j hj
        have := List.pairwise_iff_getElem.1 HROW.out j k (by omega) hkl hj
        rw [ha]; exact this
      rw [← ha] at hc
      clear ha
      have hca := hd.cell (i := a) (by omega)
      rw [hnot] at hca
      have hfa := hd.free a
      have HD := Lib.hid (hd.set a)
      have i1 : (0 : Int) ≤ a := by omega
      have i2 : (a : Int) < 16 := by omega
      have i3 : decide ((a : Int) < 0) = false := by simp
      have i4 : (0 : Int) ≤ k := by omega
      have i5 : (k : Int) < row.length := by omega
      have i6 : decide (n ≤ a) = false := by simp; omega
      clear hnot hd
      go_wp2_with fail
      refine (many_any b n A wo So.ord).mono ?_
      rintro e w' ⟨rfl, rfl⟩
      go_upto_region 15 with fail
      have hd := HD.out
      have hB1 := hB.setCell (p := ⟨w3.heap.size, a, none⟩) (Nat.le_refl _) (.bool true)
      clear HD hca hfa hc hbl hB So
      generalize wo.setCell ⟨w3.heap.size, a, none⟩ (.bool true) = w5 at *
      go_wp2_with fail
      go_loopw [11] (fun i wr => ∃ j : Nat, j ≤ k ∧ i = .int .i64 j ∧ Had wr w3.heap.size (ofRow (row.take k) ||| 2 ^ a) ∧ Below w3.heap.size w3 wr) (fun i _ => k - (intOf i).toNat)
      case atStart => exact ⟨0, Nat.zero_le _, rfl, hd, hB1⟩
      case round =>
        obtain ⟨j, hj, rfl, hdj, hBj⟩ := hrel
        clear hd hB1
        obtain ⟨wp, rfl⟩ : ∃ wp : World, wp = wr := ⟨_, rfl⟩
        have Sj := HS3.out.below hBj
        by_cases hjk : j < k
        · obtain ⟨b8, off8, e8, hbl8, hc8⟩ := (HRD.out.below hBj).nat j (by omega)
          injection e8 with e8
          injection e8 with e81 e82
          subst e81 e82
          have j4 : (0 : Int) ≤ j := by omega
          have j5 : (j : Int) < row.length := by omega
          obtain ⟨c, hcc⟩ : ∃ c, c = row[j]'(by omega) := ⟨_, rfl⟩
          have hcn : c < n := by
            have := (HMEM.out c).1 (by rw [hcc]; exact List.getElem_mem _)
            rw [tb_allS] at this
            simpa using this
          have hlec : le A a c = false := by rw [hcc]; exact HBE.out j hjk
          rw [← hcc] at hc8
          clear hcc
          go_wp2_with fail
          refine (atMost_yes b n A g a c wp Sj.tab Sj.ord han hcn).mono ?_
          rw [hlec]
          rintro e w6 ⟨rfl, hb6⟩
          have hd6 : Had w6 w3.heap.size (ofRow (row.take k) ||| 2 ^ a) := (hb6.block _ hdj.lt).trans hdj
          have hB6 := hBj.trans (hb6.mono hBj.size)
          clear hc8 hbl8 hlec hdj hBj Sj hb6
          go_wp2_with fail
          go_roundw
          case rel => exact ⟨j + 1, by omega, by go_num, hd6, hB6⟩
          case measure => simp [intOf]; omega
        · have HDJ := Lib.hid hdj
          clear hdj
          go_wp2_with fail
          go_roundw
          case rel => exact ⟨k + 1, by omega, by go_num, by rw [HSN.out]; exact HDJ.out, hBj⟩
          case measure => simp [intOf]; omega
    · go_wp2_with fail
      refine (works_any wo So.tab).mono ?_
      rintro e w6 ⟨rfl, hb6⟩
      have S6 := So.below hb6
      go_wp2_with fail
      go_ret
      exact ⟨rfl, S6.bel⟩
end Go.Proofs.YtkiaolegpjkbdaaDoor
