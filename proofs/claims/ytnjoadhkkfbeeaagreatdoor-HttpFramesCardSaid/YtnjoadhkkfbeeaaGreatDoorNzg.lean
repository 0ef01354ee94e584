/- The statement HttpFrames. -/
import Derived.Test.YtnjoadhkkfbeeaaGreatDoorNzf
import Derived.Test.YtnjoadhkkfbeeaaGreatDoorNy
import Derived.Test.YtnjoadhkkfbeeaaGreatDoorNzc
namespace Go.Proofs.YtnjoadhkkfbeeaaGreatDoor
open Go Go.RowKit

abbrev frC : Array Value := #[.string ⟨#[99, 111, 110, 116, 101, 110, 116, 45, 108, 101, 110, 103, 116, 104, 58, 32, 48]⟩, .string ⟨#[67, 79, 78, 84, 69, 78, 84, 45, 76, 69, 78, 71, 84, 72, 58, 32, 48]⟩, .string ⟨#[116, 114, 97, 110, 115, 102, 101, 114, 45, 101, 110, 99, 111, 100, 105, 110, 103, 58, 32, 99, 104, 117, 110, 107, 101, 100]⟩,
  .string ⟨#[84, 114, 97, 110, 115, 102, 101, 114, 45, 69, 110, 99, 111, 100, 105, 110, 103, 58, 32, 67, 72, 85, 78, 75, 69, 68]⟩, .string ⟨#[67, 111, 110, 116, 101, 110, 116, 45, 76, 101, 110, 103, 116, 104, 58, 32, 49]⟩]
theorem frC_at (k : Nat) (hk : k < 5) : frC[k]? = some (.string ⟨(frTx k).toArray⟩) := by
  match k, hk with
  | 0, _ => rfl
  | 1, _ => rfl
  | 2, _ => rfl
  | 3, _ => rfl
  | 4, _ => rfl
theorem emod_nat (p : Int) (n : Nat) (h : 0 < n) : ∃ k : Nat, p % (n : Int) = k ∧ k < n := by
  have h1 := Int.emod_nonneg p (b := (n : Int)) (by omega)
  have h2 := Int.emod_lt_of_pos p (b := (n : Int)) (by omega)
  exact ⟨(p % n).toNat, by omega, by omega⟩
/-- what the text is after so many rounds -/
def frS (M : List Hd) (p q k l j : Nat) : List UInt8 := frPre ++ bytesL (frL M (frHd p) (frHd q) k l j)
theorem frS_zero (M : List Hd) (p q k l : Nat) : frS M p q k l 0 = frPre := by unfold frS frL bytesL; simp
theorem frS_step (M : List Hd) (p q k l j : Nat) : frS M p q k l (j + 1) = frS M p q k l j ++ (if j = k then frTx p ++ [13, 10] else []) ++ (if j = l then frTx q ++ [13, 10] else []) ++ bytesL (M[j]?.toList.map yH) := by
  unfold frS
  rw [frL_snoc]
  unfold frAt bytesL
  simp only [List.flatMap_append, List.append_assoc]
  congr 2
  congr 1
  · split <;> simp [frTx_line]
  · congr 1
    split <;> simp [frTx_line]
theorem frS_head {M : List Hd} {j : Nat} (h : j < M.length) : bytesL (M[j]?.toList.map yH) = [89, 45] ++ M[j].1 ++ [58, 32] ++ M[j].2 ++ [13, 10] := by
  rw [List.getElem?_eq_getElem h]
  unfold bytesL lineB yH
  simp
theorem frS_none {M : List Hd} {j : Nat} (h : ¬ j < M.length) : bytesL (M[j]?.toList.map yH) = [] := by
  rw [List.getElem?_eq_none (by omega)]
  rfl
theorem frS_len {M : List Hd} {p q k l : Nat} (hp : p < 5) (hq : q < 5) (hM : ∀ y ∈ M, okH y = true ∧ y.1.length ≤ 4) (hMl : M.length ≤ 13) (j : Nat) : (frS M p q k l j).length ≤ 4000 := by
  obtain ⟨h1, h2, _⟩ := frL_facts (k := k) (l := l) (frHd_facts hp) (frHd_facts hq) hM j
  have h3 := bytesL_len (List.all_eq_true.2 h1)
  have h4 : (frL M (frHd p) (frHd q) k l j).length ≤ 15 := by split at h2 <;> split at h2 <;> omega
  unfold frS
  rw [List.length_append]
  have : frPre.length = 26 := rfl
  omega
theorem frTx_len {k : Nat} (h : k < 5) : (frTx k).length ≤ 30 := by
  match k, h with
  | 0, _ => decide
  | 1, _ => decide
  | 2, _ => decide
  | 3, _ => decide
  | 4, _ => decide
theorem frames_end {M : List Hd} {p q : Nat} {k l : Nat} (hp : p < 5) (hq : q < 5) (hM : ∀ y ∈ M, okH y = true ∧ y.1.length ≤ 4) (hMl : M.length ≤ 13) (hk : k ≤ M.length) (hl : l ≤ M.length) :
    parseM (frS M p q k l (M.length + 1) ++ [13, 10]) = .error 50 ∧ parseM (frS M p q k l (M.length + 1) ++ [13, 10, 48, 13, 10, 13, 10]) = .error 50 := by
  have h1 := frames_bad hp hq hM hMl hk hl [] (by decide)
  have h2 := frames_bad hp hq hM hMl hk hl [48, 13, 10, 13, 10] (by decide)
  rw [List.append_nil] at h1
  rw [List.append_assoc] at h2
  unfold frS
  exact ⟨h1, h2⟩
theorem made_len {y : Hd} (h : okH y = true) : y.1.length ≤ 30 ∧ y.2.length ≤ 200 := ⟨isNm_len (okH_one.1 h).1, isVl_len (okH_one.1 h).2⟩
set_option maxRecDepth 100000 in
set_option maxHeartbeats 16000000 in
theorem frames_any (x : SeedL) (Av : Option Addr) (cv : Nat) (Ab : Option Addr) (cb : Nat) (p0 p1 p2 p3 : Int) (w : World) (h : SeedV w x Av cv Ab cb) (hG : Gl w) :
    Calls Tryz.prog 6 #[.agg (seedA x Av cv Ab cb), .agg #[.int .i64 p0, .int .i64 p1, .int .i64 p2, .int .i64 p3]] w fun e w' => e = .returned (.bool true) ∧ Below w.heap.size w w' := by
  have hb0 := below_new w (.cells (seedA x Av cv Ab cb) 42)
  have hb1 := Below.and hb0 (below_new _ (.cells #[.int .i64 p0, .int .i64 p1, .int .i64 p2, .int .i64 p3] 51))
  have hs0 : (w.alloc (.cells (seedA x Av cv Ab cb) 42)).heap.size = w.heap.size + 1 := by simp
  have CM := Lib.hid (made_any x Av cv Ab cb _ (h.below hb1))
  have CI := Lib.hid (Cs.new (w.alloc (.cells (seedA x Av cv Ab cb) 42)) [.int .i64 p0, .int .i64 p1, .int .i64 p2, .int .i64 p3] 51)
  have B1 := Lib.hid hb1
  have HG := Lib.hid fun w' (h : Below w.heap.size w w') => hG.fresh h
  have HW := Lib.hid fun w' (h : Below w.heap.size w w') => works_any w' (hG.fresh h)
  rw [hs0] at CI
  have HHD := Lib.hid fun y (hy : y ∈ (madeM x).heads) => made_head hy
  have HHL := Lib.hid (made_heads x)
  clear hb0 hb1 h hG
  go_enter Tryz.func6, Tryz.ntmps6
  go_wp2_with fail
  generalize (w.alloc (.cells (seedA x Av cv Ab cb) 42)).alloc (.cells #[.int .i64 p0, .int .i64 p1, .int .i64 p2, .int .i64 p3] 51) = w2 at *
  go_at_call 27
  refine CM.out.mono ?_
  rintro e w3 ⟨Ah, ch, A2, c2, rfl, hM, hb3⟩
  generalize madeM x = M at *
  have hbm := below_new w3 (.cells (msg5 M (.slice Ah M.heads.length ch) A2 c2) 25)
  have hbf := below_new (w3.alloc (.cells (msg5 M (.slice Ah M.heads.length ch) A2 c2) 25)) (.cells frC 9)
  have hs3 : (w3.alloc (.cells (msg5 M (.slice Ah M.heads.length ch) A2 c2) 25)).heap.size = w3.heap.size + 1 := by simp
  have hb5 := Below.and hbm hbf
  have B5 := Lib.hid (Below.and (Below.and B1.out hb3) hb5)
  have C5 := Lib.hid ((CI.out.below hb3).below hb5)
  have M5 := Lib.hid ((msg_cs w3 M (.slice Ah M.heads.length ch) A2 c2).below hbf)
  have H5 := Lib.hid ((hM.below hb5).hs)
  obtain ⟨k0, e0, l0⟩ := emod_nat p0 5 (by decide)
  obtain ⟨k1, e1, l1⟩ := emod_nat p1 5 (by decide)
  obtain ⟨k2, e2, l2⟩ := emod_nat p2 (M.heads.length + 1) (by omega)
  obtain ⟨k3, e3, l3⟩ := emod_nat p3 (M.heads.length + 1) (by omega)
  have F5 : Hid (∀ k, k < 5 → ((w3.alloc (.cells (msg5 M (.slice Ah M.heads.length ch) A2 c2) 25)).alloc (.cells frC 9)).cell? ⟨w3.heap.size + 1, k, none⟩ = some (.string ⟨(frTx k).toArray⟩)) := fun k hk => by
    rw [World.cell?_alloc_at _ _ _ _ hs3.symm]
    exact frC_at k hk
  have Q0 := Lib.hid fun w => bring_any p0 5 w (by decide) (by decide)
  have Q1 := Lib.hid fun w => bring_any p1 5 w (by decide) (by decide)
  have hl13 := HHL.out
  have Q2 := Lib.hid fun w => bring_any p2 ((M.heads.length + 1 : Nat) : Int) w (by omega) (by omega)
  have Q3 := Lib.hid fun w => bring_any p3 ((M.heads.length + 1 : Nat) : Int) w (by omega) (by omega)
  rw [e2] at Q2
  rw [e3] at Q3
  have e0' : p0 % 5 = (k0 : Int) := e0
  have e1' : p1 % 5 = (k1 : Int) := e1
  rw [e0'] at Q0
  rw [e1'] at Q1
  rw [show ((M.heads.length + 1 : Nat) : Int) = (M.heads.length : Int) + 1 by omega] at Q2 Q3
  have E0 := Lib.hid (And.intro l0 (And.intro l1 (And.intro l2 l3)))
  clear CM hb3 hM hbm hbf hs3 hb5 B1 CI e0 e1 e2 e3 e0' e1'
  go_wp2_with fail
  generalize (w3.alloc (.cells (msg5 M (.slice Ah M.heads.length ch) A2 c2) 25)).alloc (.cells frC 9) = w5 at *
  generalize w3.heap.size = g3 at *
  generalize hg : w.heap.size = g at *
  have HD : Hid (w5.drew.cell? ⟨g + 1, 0, none⟩ = some (.int .i64 p0) ∧ w5.drew.cell? ⟨g + 1, 1, none⟩ = some (.int .i64 p1) ∧ w5.drew.cell? ⟨g3 + 1, k0, none⟩ = some (.string ⟨(frTx k0).toArray⟩) ∧ w5.drew.cell? ⟨g3 + 1, k1, none⟩ = some (.string ⟨(frTx k1).toArray⟩)) :=
    ⟨C5.out.c 0 (by simp), C5.out.c 1 (by simp), F5.out k0 l0, F5.out k1 l1⟩
  have i1 : (0 : Int) ≤ k0 := by omega
  have i2 : (k0 : Int) < 5 := by omega
  have i3 : (0 : Int) ≤ k1 := by omega
  have i4 : (k1 : Int) < 5 := by omega
  generalize ha : frTx k0 = ta at *
  generalize hb : frTx k1 = tb at *
  go_region_held3 (fun w' => w'.cell? ⟨g + 1, 0, none⟩ = some (.int .i64 p0) ∧ w'.cell? ⟨g + 1, 1, none⟩ = some (.int .i64 p1) ∧ w'.cell? ⟨g3 + 1, k0, none⟩ = some (.string ⟨ta.toArray⟩) ∧ w'.cell? ⟨g3 + 1, k1, none⟩ = some (.string ⟨tb.toArray⟩))
    (exact HD.out)
    ((first
      | (go_at_call 29; (with_reducible refine (Q0.out _).mono ?_); rintro e w' ⟨rfl, rfl⟩)
      | (go_at_call 29; (with_reducible refine (Q1.out _).mono ?_); rintro e w' ⟨rfl, rfl⟩)))
  all_goals
    have hbd : Below w5.heap.size w5 w5.drew := below_drewN (Below.refl _ _) 1
    have C6 := Lib.hid (C5.out.below hbd)
    have M6 := Lib.hid (M5.out.below hbd)
    have H6 := Lib.hid (H5.out.below hbd)
    have B6 : Hid (Below g w w5.drew) := below_drewN B5.out 1
    have HBG : Hid (g ≤ w5.drew.heap.size) := by show g ≤ w5.heap.size; rw [← hg]; exact B5.out.size
    clear hbd C5 M5 H5 B5 F5 HD Q0 Q1 i1 i2 i3 i4
    generalize w5.drew = w6 at *
    have c2 := C6.out.c 2 (by simp)
    have c3 := C6.out.c 3 (by simp)
    have m3 := M6.out.c 3 (by simp)
    go_wp2_with fail
    go_at_call 29
    refine (Q2.out _).mono ?_
    rintro e w' ⟨rfl, rfl⟩
    go_wp2_with fail
    go_at_call 29
    refine (Q3.out _).mono ?_
    rintro e w' ⟨rfl, rfl⟩
    clear c2 c3 Q2 Q3 C6
    go_wp2_with fail
    have hta := frTx_len E0.out.1
    have htb := frTx_len E0.out.2.1
    rw [ha] at hta
    rw [hb] at htb
    have HRD : Hid (Rd w6 Ah (hv M.heads)) := by
      obtain ⟨A', c', e, _, _, hrd⟩ := id H6.out
      injection e with e1 _ _
      rw [e1]
      exact hrd
    go_loopw [7, 12] (fun s i wr => ∃ (j : Nat) (S : ByteArray), s = .string S ∧ i = .int .i64 j ∧ j ≤ M.heads.length + 1 ∧ Hid (S = ⟨(frS M.heads k0 k1 k2 k3 j).toArray⟩) ∧ Hid (Below w6.heap.size w6 wr)) (fun _ i _ => M.heads.length + 2 - (intOf i).toNat)
    case atStart => exact ⟨0, _, rfl, rfl, Nat.zero_le _, by show _ = _; rw [frS_zero]; rfl, Below.refl _ _⟩
    case round =>
      obtain ⟨j, S, rfl, rfl, hj, HS, HB⟩ := hrel
      have m3 : wr.cell? ⟨g3, 3, none⟩ = some (.slice Ah M.heads.length ch) := (M6.out.below HB.out).c 3 (by simp)
      by_cases hle : j ≤ M.heads.length
      · have HST := Lib.hid (frS_step M.heads k0 k1 k2 k3 j)
        have hSl : S.size ≤ 4000 := by rw [HS.out, mk_size]; exact frS_len E0.out.1 E0.out.2.1 HHD.out hl13 j
        have hle' : (j : Int) ≤ M.heads.length := by omega
        -- SLOW BEGIN
        by_cases h1 : j = k2
        · subst h1
          by_cases h2 : j = k3
          · subst h2
            by_cases h3 : j < M.heads.length
            · have hst := HST.out
              rw [if_pos rfl, if_pos rfl, frS_head h3, ha, hb] at hst
              have hst := Lib.hid hst
              have t1 : True := trivial
              have t2 : True := trivial
              have t3 : (j : Int) < (M.heads.length : Int) := by omega
              obtain ⟨bq, o, rfl, hbl, q1, q2⟩ := HRD.out.head j h3
              have x1 := (HB.out.cell (p := ⟨bq, o + j * 2, none⟩) hbl).trans q1
              have x2 := (HB.out.cell (p := ⟨bq, o + j * 2 + 1, none⟩) hbl).trans q2
              have hnl := (made_len (HHD.out _ (List.getElem_mem h3)).1)
              have i1 : (0 : Int) ≤ j := by omega
              clear q1 q2
              generalize M.heads[j].1 = hn at *
              generalize M.heads[j].2 = hv at *
              go_wp2_with fail
              have hcs : (((S ++ ⟨ta.toArray⟩ ++ ⟨#[13, 10]⟩) ++ ⟨tb.toArray⟩ ++ ⟨#[13, 10]⟩) : ByteArray).size ≤ 4100 := by first | omega | (simp only [ByteArray.size_append, mk_size, List.length_cons, List.length_nil]; omega)
              obtain ⟨cur, hcur⟩ : ∃ cur : ByteArray, Hid (cur = ((S ++ ⟨ta.toArray⟩ ++ ⟨#[13, 10]⟩) ++ ⟨tb.toArray⟩ ++ ⟨#[13, 10]⟩)) := ⟨_, rfl⟩
              rw [← hcur.out] at hcs ⊢
              have s1 : ∀ w', (Op.stringOp .add cur ⟨#[89, 45]⟩).run Tryz.prog w' = .ok (.string (cur ++ ⟨#[89, 45]⟩)) w' := fun w' => run_string_add_sum w' _ _ (by simp only [mk_size, List.length_cons, List.length_nil]; omega)
              have s2 : ∀ w', (Op.stringOp .add (cur ++ ⟨#[89, 45]⟩) ⟨hn.toArray⟩).run Tryz.prog w' = .ok (.string (cur ++ ⟨#[89, 45]⟩ ++ ⟨hn.toArray⟩)) w' := fun w' => run_string_add_sum w' _ _ (by simp only [ByteArray.size_append, mk_size, List.length_cons, List.length_nil]; omega)
              have s3 : ∀ w', (Op.stringOp .add (cur ++ ⟨#[89, 45]⟩ ++ ⟨hn.toArray⟩) ⟨#[58, 32]⟩).run Tryz.prog w' = .ok (.string (cur ++ ⟨#[89, 45]⟩ ++ ⟨hn.toArray⟩ ++ ⟨#[58, 32]⟩)) w' := fun w' => run_string_add_sum w' _ _ (by simp only [ByteArray.size_append, mk_size, List.length_cons, List.length_nil]; omega)
              have s4 : ∀ w', (Op.stringOp .add (cur ++ ⟨#[89, 45]⟩ ++ ⟨hn.toArray⟩ ++ ⟨#[58, 32]⟩) ⟨hv.toArray⟩).run Tryz.prog w' = .ok (.string (cur ++ ⟨#[89, 45]⟩ ++ ⟨hn.toArray⟩ ++ ⟨#[58, 32]⟩ ++ ⟨hv.toArray⟩)) w' := fun w' => run_string_add_sum w' _ _ (by simp only [ByteArray.size_append, mk_size, List.length_cons, List.length_nil]; omega)
              have s5 : ∀ w', (Op.stringOp .add (cur ++ ⟨#[89, 45]⟩ ++ ⟨hn.toArray⟩ ++ ⟨#[58, 32]⟩ ++ ⟨hv.toArray⟩) ⟨#[13, 10]⟩).run Tryz.prog w' = .ok (.string (cur ++ ⟨#[89, 45]⟩ ++ ⟨hn.toArray⟩ ++ ⟨#[58, 32]⟩ ++ ⟨hv.toArray⟩ ++ ⟨#[13, 10]⟩)) w' := fun w' => run_string_add_sum w' _ _ (by simp only [ByteArray.size_append, mk_size, List.length_cons, List.length_nil]; omega)
              have hh : wr.drew.cell? ⟨g3, 3, none⟩ = some (.slice (some ⟨bq, o, none⟩) M.heads.length ch) ∧ wr.drew.cell? ⟨bq, o + j * 2, none⟩ = some (.string ⟨hn.toArray⟩) ∧ wr.drew.cell? ⟨bq, o + j * 2 + 1, none⟩ = some (.string ⟨hv.toArray⟩) := ⟨m3, x1, x2⟩
              have hh := Lib.hid hh
              go_region_held3 (fun w' => w'.cell? ⟨g3, 3, none⟩ = some (.slice (some ⟨bq, o, none⟩) M.heads.length ch) ∧ w'.cell? ⟨bq, o + j * 2, none⟩ = some (.string ⟨hn.toArray⟩) ∧ w'.cell? ⟨bq, o + j * 2 + 1, none⟩ = some (.string ⟨hv.toArray⟩)) (exact hh.out) (fail)
              all_goals
                go_wp2_with fail
                go_roundw
                case rel =>
                  refine ⟨j + 1, _, rfl, by go_num, by omega, ?_, below_drewN HB.out 1⟩
                  show _ = _
                  first | rw [hst.out, hcur.out, HS.out] | rw [hst.out, HS.out]
                  simp only [cat_mk, List.append_assoc, List.nil_append, List.cons_append]
                case measure => simp [intOf]; omega
            · have hst := HST.out
              rw [if_pos rfl, if_pos rfl, frS_none h3, ha, hb] at hst
              have hst := Lib.hid hst
              have t1 : True := trivial
              have t2 : True := trivial
              have t3 : ¬ (j : Int) < (M.heads.length : Int) := by omega
              go_wp2_with fail
              go_roundw
              case rel =>
                refine ⟨j + 1, _, rfl, by go_num, by omega, ?_, HB.out⟩
                show _ = _
                rw [hst.out, HS.out]
                simp only [cat_mk, List.append_assoc, List.append_nil, List.nil_append, List.cons_append]
              case measure => simp [intOf]; omega
          · by_cases h3 : j < M.heads.length
            · have hst := HST.out
              rw [if_pos rfl, if_neg h2, frS_head h3, ha] at hst
              have hst := Lib.hid hst
              have t1 : True := trivial
              have t2 : ¬ (j : Int) = (k3 : Int) := by omega
              have t3 : (j : Int) < (M.heads.length : Int) := by omega
              obtain ⟨bq, o, rfl, hbl, q1, q2⟩ := HRD.out.head j h3
              have x1 := (HB.out.cell (p := ⟨bq, o + j * 2, none⟩) hbl).trans q1
              have x2 := (HB.out.cell (p := ⟨bq, o + j * 2 + 1, none⟩) hbl).trans q2
              have hnl := (made_len (HHD.out _ (List.getElem_mem h3)).1)
              have i1 : (0 : Int) ≤ j := by omega
              clear q1 q2
              generalize M.heads[j].1 = hn at *
              generalize M.heads[j].2 = hv at *
              go_wp2_with fail
              have hcs : ((S ++ ⟨ta.toArray⟩ ++ ⟨#[13, 10]⟩) : ByteArray).size ≤ 4100 := by first | omega | (simp only [ByteArray.size_append, mk_size, List.length_cons, List.length_nil]; omega)
              obtain ⟨cur, hcur⟩ : ∃ cur : ByteArray, Hid (cur = (S ++ ⟨ta.toArray⟩ ++ ⟨#[13, 10]⟩)) := ⟨_, rfl⟩
              rw [← hcur.out] at hcs ⊢
              have s1 : ∀ w', (Op.stringOp .add cur ⟨#[89, 45]⟩).run Tryz.prog w' = .ok (.string (cur ++ ⟨#[89, 45]⟩)) w' := fun w' => run_string_add_sum w' _ _ (by simp only [mk_size, List.length_cons, List.length_nil]; omega)
              have s2 : ∀ w', (Op.stringOp .add (cur ++ ⟨#[89, 45]⟩) ⟨hn.toArray⟩).run Tryz.prog w' = .ok (.string (cur ++ ⟨#[89, 45]⟩ ++ ⟨hn.toArray⟩)) w' := fun w' => run_string_add_sum w' _ _ (by simp only [ByteArray.size_append, mk_size, List.length_cons, List.length_nil]; omega)
              have s3 : ∀ w', (Op.stringOp .add (cur ++ ⟨#[89, 45]⟩ ++ ⟨hn.toArray⟩) ⟨#[58, 32]⟩).run Tryz.prog w' = .ok (.string (cur ++ ⟨#[89, 45]⟩ ++ ⟨hn.toArray⟩ ++ ⟨#[58, 32]⟩)) w' := fun w' => run_string_add_sum w' _ _ (by simp only [ByteArray.size_append, mk_size, List.length_cons, List.length_nil]; omega)
              have s4 : ∀ w', (Op.stringOp .add (cur ++ ⟨#[89, 45]⟩ ++ ⟨hn.toArray⟩ ++ ⟨#[58, 32]⟩) ⟨hv.toArray⟩).run Tryz.prog w' = .ok (.string (cur ++ ⟨#[89, 45]⟩ ++ ⟨hn.toArray⟩ ++ ⟨#[58, 32]⟩ ++ ⟨hv.toArray⟩)) w' := fun w' => run_string_add_sum w' _ _ (by simp only [ByteArray.size_append, mk_size, List.length_cons, List.length_nil]; omega)
              have s5 : ∀ w', (Op.stringOp .add (cur ++ ⟨#[89, 45]⟩ ++ ⟨hn.toArray⟩ ++ ⟨#[58, 32]⟩ ++ ⟨hv.toArray⟩) ⟨#[13, 10]⟩).run Tryz.prog w' = .ok (.string (cur ++ ⟨#[89, 45]⟩ ++ ⟨hn.toArray⟩ ++ ⟨#[58, 32]⟩ ++ ⟨hv.toArray⟩ ++ ⟨#[13, 10]⟩)) w' := fun w' => run_string_add_sum w' _ _ (by simp only [ByteArray.size_append, mk_size, List.length_cons, List.length_nil]; omega)
              have hh : wr.drew.cell? ⟨g3, 3, none⟩ = some (.slice (some ⟨bq, o, none⟩) M.heads.length ch) ∧ wr.drew.cell? ⟨bq, o + j * 2, none⟩ = some (.string ⟨hn.toArray⟩) ∧ wr.drew.cell? ⟨bq, o + j * 2 + 1, none⟩ = some (.string ⟨hv.toArray⟩) := ⟨m3, x1, x2⟩
              have hh := Lib.hid hh
              go_region_held3 (fun w' => w'.cell? ⟨g3, 3, none⟩ = some (.slice (some ⟨bq, o, none⟩) M.heads.length ch) ∧ w'.cell? ⟨bq, o + j * 2, none⟩ = some (.string ⟨hn.toArray⟩) ∧ w'.cell? ⟨bq, o + j * 2 + 1, none⟩ = some (.string ⟨hv.toArray⟩)) (exact hh.out) (fail)
              all_goals
                go_wp2_with fail
                go_roundw
                case rel =>
                  refine ⟨j + 1, _, rfl, by go_num, by omega, ?_, below_drewN HB.out 1⟩
                  show _ = _
                  first | rw [hst.out, hcur.out, HS.out] | rw [hst.out, HS.out]
                  simp only [cat_mk, List.append_assoc, List.append_nil, List.nil_append, List.cons_append]
                case measure => simp [intOf]; omega
            · have hst := HST.out
              rw [if_pos rfl, if_neg h2, frS_none h3, ha] at hst
              have hst := Lib.hid hst
              have t1 : True := trivial
              have t2 : ¬ (j : Int) = (k3 : Int) := by omega
              have t3 : ¬ (j : Int) < (M.heads.length : Int) := by omega
              go_wp2_with fail
              go_roundw
              case rel =>
                refine ⟨j + 1, _, rfl, by go_num, by omega, ?_, HB.out⟩
                show _ = _
                rw [hst.out, HS.out]
                simp only [cat_mk, List.append_assoc, List.append_nil]
              case measure => simp [intOf]; omega
        · by_cases h2 : j = k3
          · subst h2
            by_cases h3 : j < M.heads.length
            · have hst := HST.out
              rw [if_neg h1, if_pos rfl, frS_head h3, hb] at hst
              have hst := Lib.hid hst
              have t1 : ¬ (j : Int) = (k2 : Int) := by omega
              have t2 : True := trivial
              have t3 : (j : Int) < (M.heads.length : Int) := by omega
              obtain ⟨bq, o, rfl, hbl, q1, q2⟩ := HRD.out.head j h3
              have x1 := (HB.out.cell (p := ⟨bq, o + j * 2, none⟩) hbl).trans q1
              have x2 := (HB.out.cell (p := ⟨bq, o + j * 2 + 1, none⟩) hbl).trans q2
              have hnl := (made_len (HHD.out _ (List.getElem_mem h3)).1)
              have i1 : (0 : Int) ≤ j := by omega
              clear q1 q2
              generalize M.heads[j].1 = hn at *
              generalize M.heads[j].2 = hv at *
              go_wp2_with fail
              have hcs : ((S ++ ⟨tb.toArray⟩ ++ ⟨#[13, 10]⟩) : ByteArray).size ≤ 4100 := by first | omega | (simp only [ByteArray.size_append, mk_size, List.length_cons, List.length_nil]; omega)
              obtain ⟨cur, hcur⟩ : ∃ cur : ByteArray, Hid (cur = (S ++ ⟨tb.toArray⟩ ++ ⟨#[13, 10]⟩)) := ⟨_, rfl⟩
              rw [← hcur.out] at hcs ⊢
              have s1 : ∀ w', (Op.stringOp .add cur ⟨#[89, 45]⟩).run Tryz.prog w' = .ok (.string (cur ++ ⟨#[89, 45]⟩)) w' := fun w' => run_string_add_sum w' _ _ (by simp only [mk_size, List.length_cons, List.length_nil]; omega)
              have s2 : ∀ w', (Op.stringOp .add (cur ++ ⟨#[89, 45]⟩) ⟨hn.toArray⟩).run Tryz.prog w' = .ok (.string (cur ++ ⟨#[89, 45]⟩ ++ ⟨hn.toArray⟩)) w' := fun w' => run_string_add_sum w' _ _ (by simp only [ByteArray.size_append, mk_size, List.length_cons, List.length_nil]; omega)
              have s3 : ∀ w', (Op.stringOp .add (cur ++ ⟨#[89, 45]⟩ ++ ⟨hn.toArray⟩) ⟨#[58, 32]⟩).run Tryz.prog w' = .ok (.string (cur ++ ⟨#[89, 45]⟩ ++ ⟨hn.toArray⟩ ++ ⟨#[58, 32]⟩)) w' := fun w' => run_string_add_sum w' _ _ (by simp only [ByteArray.size_append, mk_size, List.length_cons, List.length_nil]; omega)
              have s4 : ∀ w', (Op.stringOp .add (cur ++ ⟨#[89, 45]⟩ ++ ⟨hn.toArray⟩ ++ ⟨#[58, 32]⟩) ⟨hv.toArray⟩).run Tryz.prog w' = .ok (.string (cur ++ ⟨#[89, 45]⟩ ++ ⟨hn.toArray⟩ ++ ⟨#[58, 32]⟩ ++ ⟨hv.toArray⟩)) w' := fun w' => run_string_add_sum w' _ _ (by simp only [ByteArray.size_append, mk_size, List.length_cons, List.length_nil]; omega)
              have s5 : ∀ w', (Op.stringOp .add (cur ++ ⟨#[89, 45]⟩ ++ ⟨hn.toArray⟩ ++ ⟨#[58, 32]⟩ ++ ⟨hv.toArray⟩) ⟨#[13, 10]⟩).run Tryz.prog w' = .ok (.string (cur ++ ⟨#[89, 45]⟩ ++ ⟨hn.toArray⟩ ++ ⟨#[58, 32]⟩ ++ ⟨hv.toArray⟩ ++ ⟨#[13, 10]⟩)) w' := fun w' => run_string_add_sum w' _ _ (by simp only [ByteArray.size_append, mk_size, List.length_cons, List.length_nil]; omega)
              have hh : wr.drew.cell? ⟨g3, 3, none⟩ = some (.slice (some ⟨bq, o, none⟩) M.heads.length ch) ∧ wr.drew.cell? ⟨bq, o + j * 2, none⟩ = some (.string ⟨hn.toArray⟩) ∧ wr.drew.cell? ⟨bq, o + j * 2 + 1, none⟩ = some (.string ⟨hv.toArray⟩) := ⟨m3, x1, x2⟩
              have hh := Lib.hid hh
              go_region_held3 (fun w' => w'.cell? ⟨g3, 3, none⟩ = some (.slice (some ⟨bq, o, none⟩) M.heads.length ch) ∧ w'.cell? ⟨bq, o + j * 2, none⟩ = some (.string ⟨hn.toArray⟩) ∧ w'.cell? ⟨bq, o + j * 2 + 1, none⟩ = some (.string ⟨hv.toArray⟩)) (exact hh.out) (fail)
              all_goals
                go_wp2_with fail
                go_roundw
                case rel =>
                  refine ⟨j + 1, _, rfl, by go_num, by omega, ?_, below_drewN HB.out 1⟩
                  show _ = _
                  first | rw [hst.out, hcur.out, HS.out] | rw [hst.out, HS.out]
                  simp only [cat_mk, List.append_assoc, List.append_nil, List.nil_append, List.cons_append]
                case measure => simp [intOf]; omega
            · have hst := HST.out
              rw [if_neg h1, if_pos rfl, frS_none h3, hb] at hst
              have hst := Lib.hid hst
              have t1 : ¬ (j : Int) = (k2 : Int) := by omega
              have t2 : True := trivial
              have t3 : ¬ (j : Int) < (M.heads.length : Int) := by omega
              go_wp2_with fail
              go_roundw
              case rel =>
                refine ⟨j + 1, _, rfl, by go_num, by omega, ?_, HB.out⟩
                show _ = _
                rw [hst.out, HS.out]
                simp only [cat_mk, List.append_assoc, List.append_nil]
              case measure => simp [intOf]; omega
          · by_cases h3 : j < M.heads.length
            · have hst := HST.out
              rw [if_neg h1, if_neg h2, frS_head h3] at hst
              have hst := Lib.hid hst
              have t1 : ¬ (j : Int) = (k2 : Int) := by omega
              have t2 : ¬ (j : Int) = (k3 : Int) := by omega
              have t3 : (j : Int) < (M.heads.length : Int) := by omega
              obtain ⟨bq, o, rfl, hbl, q1, q2⟩ := HRD.out.head j h3
              have x1 := (HB.out.cell (p := ⟨bq, o + j * 2, none⟩) hbl).trans q1
              have x2 := (HB.out.cell (p := ⟨bq, o + j * 2 + 1, none⟩) hbl).trans q2
              have hnl := (made_len (HHD.out _ (List.getElem_mem h3)).1)
              have i1 : (0 : Int) ≤ j := by omega
              clear q1 q2
              generalize M.heads[j].1 = hn at *
              generalize M.heads[j].2 = hv at *
              go_wp2_with fail
              have hcs : (S : ByteArray).size ≤ 4100 := by first | omega | (simp only [ByteArray.size_append, mk_size, List.length_cons, List.length_nil]; omega)
              obtain ⟨cur, hcur⟩ : ∃ cur : ByteArray, Hid (cur = S) := ⟨_, rfl⟩
              rw [← hcur.out] at hcs ⊢
              have s1 : ∀ w', (Op.stringOp .add cur ⟨#[89, 45]⟩).run Tryz.prog w' = .ok (.string (cur ++ ⟨#[89, 45]⟩)) w' := fun w' => run_string_add_sum w' _ _ (by simp only [mk_size, List.length_cons, List.length_nil]; omega)
              have s2 : ∀ w', (Op.stringOp .add (cur ++ ⟨#[89, 45]⟩) ⟨hn.toArray⟩).run Tryz.prog w' = .ok (.string (cur ++ ⟨#[89, 45]⟩ ++ ⟨hn.toArray⟩)) w' := fun w' => run_string_add_sum w' _ _ (by simp only [ByteArray.size_append, mk_size, List.length_cons, List.length_nil]; omega)
              have s3 : ∀ w', (Op.stringOp .add (cur ++ ⟨#[89, 45]⟩ ++ ⟨hn.toArray⟩) ⟨#[58, 32]⟩).run Tryz.prog w' = .ok (.string (cur ++ ⟨#[89, 45]⟩ ++ ⟨hn.toArray⟩ ++ ⟨#[58, 32]⟩)) w' := fun w' => run_string_add_sum w' _ _ (by simp only [ByteArray.size_append, mk_size, List.length_cons, List.length_nil]; omega)
              have s4 : ∀ w', (Op.stringOp .add (cur ++ ⟨#[89, 45]⟩ ++ ⟨hn.toArray⟩ ++ ⟨#[58, 32]⟩) ⟨hv.toArray⟩).run Tryz.prog w' = .ok (.string (cur ++ ⟨#[89, 45]⟩ ++ ⟨hn.toArray⟩ ++ ⟨#[58, 32]⟩ ++ ⟨hv.toArray⟩)) w' := fun w' => run_string_add_sum w' _ _ (by simp only [ByteArray.size_append, mk_size, List.length_cons, List.length_nil]; omega)
              have s5 : ∀ w', (Op.stringOp .add (cur ++ ⟨#[89, 45]⟩ ++ ⟨hn.toArray⟩ ++ ⟨#[58, 32]⟩ ++ ⟨hv.toArray⟩) ⟨#[13, 10]⟩).run Tryz.prog w' = .ok (.string (cur ++ ⟨#[89, 45]⟩ ++ ⟨hn.toArray⟩ ++ ⟨#[58, 32]⟩ ++ ⟨hv.toArray⟩ ++ ⟨#[13, 10]⟩)) w' := fun w' => run_string_add_sum w' _ _ (by simp only [ByteArray.size_append, mk_size, List.length_cons, List.length_nil]; omega)
              have hh : wr.drew.cell? ⟨g3, 3, none⟩ = some (.slice (some ⟨bq, o, none⟩) M.heads.length ch) ∧ wr.drew.cell? ⟨bq, o + j * 2, none⟩ = some (.string ⟨hn.toArray⟩) ∧ wr.drew.cell? ⟨bq, o + j * 2 + 1, none⟩ = some (.string ⟨hv.toArray⟩) := ⟨m3, x1, x2⟩
              have hh := Lib.hid hh
              go_region_held3 (fun w' => w'.cell? ⟨g3, 3, none⟩ = some (.slice (some ⟨bq, o, none⟩) M.heads.length ch) ∧ w'.cell? ⟨bq, o + j * 2, none⟩ = some (.string ⟨hn.toArray⟩) ∧ w'.cell? ⟨bq, o + j * 2 + 1, none⟩ = some (.string ⟨hv.toArray⟩)) (exact hh.out) (fail)
              all_goals
                go_wp2_with fail
                go_roundw
                case rel =>
                  refine ⟨j + 1, _, rfl, by go_num, by omega, ?_, below_drewN HB.out 1⟩
                  show _ = _
                  first | rw [hst.out, hcur.out, HS.out] | rw [hst.out, HS.out]
                  simp only [cat_mk, List.append_assoc, List.append_nil, List.nil_append, List.cons_append]
                case measure => simp [intOf]; omega
            · have hst := HST.out
              rw [if_neg h1, if_neg h2, frS_none h3] at hst
              have hst := Lib.hid hst
              have t1 : ¬ (j : Int) = (k2 : Int) := by omega
              have t2 : ¬ (j : Int) = (k3 : Int) := by omega
              have t3 : ¬ (j : Int) < (M.heads.length : Int) := by omega
              go_wp2_with fail
              go_roundw
              case rel =>
                refine ⟨j + 1, _, rfl, by go_num, by omega, ?_, HB.out⟩
                show _ = _
                rw [hst.out, HS.out]
                simp only [List.append_nil]
              case measure => simp [intOf]; omega
        -- SLOW END
      · have hj1 : j = M.heads.length + 1 := by omega
        have hgt : ¬ ((j : Int) ≤ M.heads.length) := by omega
        subst hj1
        have hS := frames_end E0.out.1 E0.out.2.1 HHD.out hl13 (Nat.le_of_lt_succ E0.out.2.2.1) (Nat.le_of_lt_succ E0.out.2.2.2)
        have hSl := frS_len E0.out.1 E0.out.2.1 HHD.out hl13 (k := k2) (l := k3) (M.heads.length + 1)
        have HS1 := Lib.hid hS.1
        have HS2 := Lib.hid hS.2
        have hSS := HS.out
        have HL := Lib.hid hSl
        clear hS HS
        generalize frS M.heads k0 k1 k2 k3 (M.heads.length + 1) = fin at *
        subst hSS
        have hsz := mk_size fin
        have cv1 := bytes_conv wr ⟨(fin ++ [13, 10]).toArray⟩
        have e1 : (⟨fin.toArray⟩ : ByteArray) ++ ⟨#[13, 10]⟩ = ⟨(fin ++ [13, 10]).toArray⟩ := cat_mk fin [13, 10]
        have hl1 : (fin ++ [13, 10]).length ≤ 5000 := by rw [List.length_append]; show _ + 2 ≤ _; omega
        have hr1 := conv_rowG wr (fin ++ [13, 10]) (by omega)
        have hb1 := bytesWorld_below wr ⟨(fin ++ [13, 10]).toArray⟩
        rw [mk_size] at cv1
        have BW : Hid (Below g w wr) := by show Below g w wr; exact B6.out.trans (HB.out.mono HBG.out)
        have B7 : Hid (Below g w (Lib.bytesWorld wr 5 ⟨(fin ++ [13, 10]).toArray⟩)) := by
          show Below g w _
          refine BW.out.trans (hb1.mono ?_)
          have := BW.out.size
          rw [← hg]
          exact this
        have R7 := Lib.hid hr1
        generalize Lib.bytesWorld wr 5 ⟨(fin ++ [13, 10]).toArray⟩ = w7 at *
        generalize grownCap wr (fin ++ [13, 10]).length 0 5 = cap7 at *
        rw [← e1] at cv1
        clear e1 hr1 hb1
        have W1 := Lib.hid (wrong_yes (n := fin.length + 2) R7.out.rb (by rw [List.length_append]; rfl) (HG.out w7 B7.out) (by omega) HS1.out)
        clear hl1
        go_wp2_with fail
        go_at_call 30
        refine W1.out.mono ?_
        rintro e w8 ⟨rfl, hb8⟩
        have B8 : Hid (Below g w w8) := by
          show Below g w w8
          refine B7.out.trans (hb8.mono ?_)
          have := B7.out.size
          rw [← hg]
          exact this
        have cv2 := bytes_conv w8 ⟨(fin ++ [13, 10, 48, 13, 10, 13, 10]).toArray⟩
        have e2 : (⟨fin.toArray⟩ : ByteArray) ++ ⟨#[13, 10, 48, 13, 10, 13, 10]⟩ = ⟨(fin ++ [13, 10, 48, 13, 10, 13, 10]).toArray⟩ := cat_mk fin [13, 10, 48, 13, 10, 13, 10]
        have hl2 : (fin ++ [13, 10, 48, 13, 10, 13, 10]).length ≤ 5000 := by rw [List.length_append]; show _ + 7 ≤ _; omega
        have hr2 := conv_rowG w8 (fin ++ [13, 10, 48, 13, 10, 13, 10]) (by omega)
        have hb2 := bytesWorld_below w8 ⟨(fin ++ [13, 10, 48, 13, 10, 13, 10]).toArray⟩
        rw [mk_size] at cv2
        have B9 : Hid (Below g w (Lib.bytesWorld w8 5 ⟨(fin ++ [13, 10, 48, 13, 10, 13, 10]).toArray⟩)) := by
          show Below g w _
          refine B8.out.trans (hb2.mono ?_)
          have := B8.out.size
          rw [← hg]
          exact this
        have R9 := Lib.hid hr2
        generalize Lib.bytesWorld w8 5 ⟨(fin ++ [13, 10, 48, 13, 10, 13, 10]).toArray⟩ = w9 at *
        generalize grownCap w8 (fin ++ [13, 10, 48, 13, 10, 13, 10]).length 0 5 = cap9 at *
        rw [← e2] at cv2
        have W2 := Lib.hid (wrong_yes (n := fin.length + 7) R9.out.rb (by rw [List.length_append]; rfl) (HG.out w9 B9.out) (by omega) HS2.out)
        clear e2 hr2 hb2 hl2 hb8 W1 cv1
        go_wp2_with fail
        go_at_call 30
        refine W2.out.mono ?_
        rintro e w10 ⟨rfl, hb10⟩
        have B10 : Hid (Below g w w10) := by
          show Below g w w10
          refine B9.out.trans (hb10.mono ?_)
          have := B9.out.size
          rw [← hg]
          exact this
        clear hb10 W2 cv2
        go_wp2_with fail
        go_at_call 26
        refine (HW.out _ B10.out).mono ?_
        rintro e w11 ⟨rfl, hb11⟩
        have B11 : Hid (Below g w w11) := by
          show Below g w w11
          refine B10.out.trans (hb11.mono ?_)
          have := B10.out.size
          rw [← hg]
          exact this
        clear hb11
        go_wp2_with fail
        go_ret
        exact ⟨rfl, by rw [hg]; exact B11.out⟩
end Go.Proofs.YtnjoadhkkfbeeaaGreatDoor
