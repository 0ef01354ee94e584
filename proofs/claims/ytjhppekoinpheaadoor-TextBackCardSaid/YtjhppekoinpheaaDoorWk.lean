/- The statement's own body TextBack: true for every list of texts and every line, in every world that holds the library's table of powers of ten. -/
import Derived.Test.YtjhppekoinpheaaDoorWi
namespace Go.Proofs.YtjhppekoinpheaaDoor
open Go Go.RowKit

def wsTo (xs : List (List UInt8)) (k : Nat) : List (List UInt8) := (xs.take k).map fun l => wordTo l 40
theorem wsTo_step {xs : List (List UInt8)} {k : Nat} (h : k < xs.length) : wsTo xs (k + 1) = wsTo xs k ++ [wordTo xs[k] 40] := by
  unfold wsTo; rw [List.take_succ_eq_append_getElem h, List.map_append]; rfl
theorem wsTo_len (xs : List (List UInt8)) (k : Nat) : (wsTo xs k).length ≤ k := by simp [wsTo]; omega
theorem wsTo_each (xs : List (List UInt8)) (k : Nat) : ∀ v ∈ wsTo xs k, v.length ≤ 1000 ∧ Pl.isWd v = true := by
  intro v hv; simp only [wsTo, List.mem_map] at hv; obtain ⟨u, _, rfl⟩ := hv
  exact ⟨by have := wordTo_len u 40; omega, wordTo_isWd u 40⟩
theorem all_of {ws : List (List UInt8)} (h : ∀ v ∈ ws, Pl.isWd v = true) : ws.all Pl.isWd = true := List.all_eq_true.2 h
theorem joinS_of {ws : List (List UInt8)} (h : ∀ v ∈ ws, Pl.isWd v = true) : joinS ws = Pl.join ws := by unfold joinS; rw [if_pos (all_of h)]
theorem joinE_of {ws : List (List UInt8)} (h : ∀ v ∈ ws, Pl.isWd v = true) : joinE ws = 0 := by unfold joinE; rw [if_pos (all_of h)]
theorem wordsGo_each (l : List UInt8) : ∀ cur, ∀ v ∈ Pl.wordsGo cur l, v.length ≤ cur.length + l.length := by
  induction l with
  | nil => intro cur v hv; unfold Pl.wordsGo at hv; cases cur <;> simp at hv; subst hv; simp
  | cons c r ih =>
    intro cur v hv; unfold Pl.wordsGo at hv; split at hv
    · rcases List.mem_append.1 hv with hv | hv
      · cases cur <;> simp at hv; subst hv; simp
      · have := ih [] v hv; simp at *; omega
    · have := ih _ v hv; simp at *; omega
theorem words_each (l : List UInt8) : ∀ v ∈ Pl.words l, v.length ≤ l.length := fun v hv => by have := wordsGo_each l [] v hv; simpa using this
theorem wide_list (l : List UInt8) : ((⟨#[32, 32]⟩ : ByteArray) ++ ⟨l.toArray⟩ ++ ⟨#[32]⟩).data.toList = [32, 32] ++ l ++ [32] := by
  have e1 := ByteArray.mk_append_mk [32, 32] l
  have e2 := ByteArray.mk_append_mk ([32, 32] ++ l) [32]
  have e3 : (⟨#[32, 32]⟩ : ByteArray) ++ ⟨l.toArray⟩ ++ ⟨#[32]⟩ = ⟨(([32, 32] ++ l) ++ [32]).toArray⟩ := by rw [← e2, ← e1]
  rw [e3, mk_toList]

set_option maxHeartbeats 4000000 in
set_option maxRecDepth 100000 in
theorem textBack_any (A : Option Addr) (c : Nat) (xs : List (List UInt8)) (line : ByteArray) (w : World) (hx : Txt w A xs) (_hlen : xs.length ≤ maxLen) (hl : ∀ v ∈ xs, v.length ≤ maxLen) (hs : line.size ≤ maxLen) (ht : Tab w) :
    Calls Tryd.prog 5 #[.slice A xs.length c, .string line] w fun e w' => e = .returned (.bool true) ∧ Below w.heap.size w w' := by
  have HX := Lib.hid hx
  have HL := Lib.hid hl
  have cw := Lib.hid (works_any w ht)
  clear ht hx hl
  unfold maxLen at _hlen hs
  go_enter Tryd.func5, Tryd.ntmps5
  go_wp2_with fail
  refine cw.out.mono ?_
  rintro e w0 ⟨rfl, hb0⟩
  clear cw
  go_wp2_with fail
  go_loopw [5, 6] (fun v i wr => ∃ k : Nat, k ≤ xs.length ∧ k ≤ 30 ∧ i = .int .i64 k ∧ Own wr w.heap.size v (wsTo xs k) ∧ Below w.heap.size w wr) (fun _ i _ => 30 - (intOf i).toNat)
  case atStart => exact ⟨0, Nat.zero_le _, Nat.zero_le _, rfl, Own.nil _ _, hb0⟩
  case round =>
    obtain ⟨k, hk, hk3, rfl, hown, hb⟩ := hrel
    have hcl := wsTo_len xs k
    by_cases hgo : k < xs.length ∧ k < 30
    · obtain ⟨hlt, hlt3⟩ := hgo
      obtain ⟨b, o, rfl, hbl, hcell⟩ := HX.out k hlt
      have hcell' : wr.cell? ⟨b, o + k, none⟩ = some (.string ⟨xs[k].toArray⟩) := (hb.cell (p := ⟨b, o + k, none⟩) hbl).trans hcell
      have hsz : (⟨xs[k].toArray⟩ : ByteArray).size ≤ maxLen := by rw [mk_size]; exact HL.out _ (List.getElem_mem hlt)
      have Hsz := Lib.hid hsz
      have hst := Lib.hid (wsTo_step hlt)
      clear hcell hsz
      go_wp2_with (first
        | (go_at_call 25; refine (word_any _ _ Hsz.out).mono ?_; rintro e w2 ⟨rfl, hb2⟩; rw [mk_toList])
        | (at_builtin; refine wpList_push rfl (.tmp 29) (.tmp 35) rfl w2 w.heap.size _ _ _ rfl (hown.below hb2) rfl (Nat.le_trans hb.size hb2.size) (by omega) ?_; intro v3 w3 hown3 hb3))
      go_roundw
      case rel => exact ⟨k + 1, by omega, by omega, by go_num, by rw [hst.out]; rw [mk_toList] at hown3; exact hown3, (hb.trans (hb2.mono hb.size)).trans hb3⟩
      case measure => simp [intOf]; omega
    · obtain ⟨A5, c5, rfl, ht5⟩ := hown.txt
      have HE := Lib.hid (wsTo_each xs k)
      generalize wsTo xs k = ws at *
      have hjl : (Pl.join ws).length ≤ 30030 := by
        have h1 := join_len ws 1000 (fun v hv => (HE.out v hv).1)
        have h2 := Nat.mul_le_mul_right 1001 (show ws.length ≤ 30 by omega)
        omega
      have C1 := Lib.hid (fun wx (h : Txt wx A5 ws) => join_R A5 c5 ws wx h (by omega) (fun v hv => (HE.out v hv).1))
      rw [joinS_of fun v hv => (HE.out v hv).2, joinE_of fun v hv => (HE.out v hv).2] at C1
      have hwj := Pl.words_join ws fun v hv => (HE.out v hv).2
      have C2 := Lib.hid (fun wx => words_is ⟨(Pl.join ws).toArray⟩ wx ws (by rw [mk_size]; omega) (by rw [mk_toList]; exact hwj.1) (by rw [mk_toList]; exact hwj.2))
      clear hwj
      generalize Pl.join ws = jw at *
      by_cases hlt : k < xs.length
      all_goals
        first | (have h30 : ¬ k < 30 := by omega) | skip
        clear hgo
        go_wp2_with fail
        refine (C1.out _ ht5).mono ?_
        rintro e w1 ⟨rfl, hb1⟩
        go_wp2_with fail
        refine (C2.out _).mono ?_
        rintro e w2 ⟨A2, c2, rfl, ht2, hb2⟩
        go_wp2_with fail
        refine (eq_is A2 A5 _ _ _ _ ws ws _ ht2 ((ht5.below hb1).below hb2) rfl rfl (by omega) rfl).mono ?_
        rintro e w3 ⟨rfl, hb3⟩
        go_wp2_with fail
        have hbb := Below.and (Below.and (Below.and hb hb1) hb2) hb3
        clear C1 C2 HE ht5 ht2 hb1 hb2 hb3 hown
        have hsz : (line.extract 0 (min (line.size : Int) 400).toNat).size ≤ 400 := by simp; omega
        generalize line.extract 0 (min (line.size : Int) 400).toNat = t at *
        by_cases ho : Pl.allOk t.data.toList = true
        · obtain ⟨ls, hls⟩ : ∃ ls, Pl.words t.data.toList = ls := ⟨_, rfl⟩
          have hln : ls.length ≤ 400 := by have := Pl.words_len t.data.toList; rw [hls, ← Lib.size_eq] at this; omega
          have hle : ∀ v ∈ ls, v.length ≤ 400 := by intro v hv; have := words_each t.data.toList v (by rw [hls]; exact hv); rw [← Lib.size_eq] at this; omega
          have hlw : ∀ v ∈ ls, Pl.isWd v = true := by rw [← hls]; exact Pl.words_words ho
          have hjl2 : (Pl.join ls).length ≤ 160400 := by
            have h1 := join_len ls 400 hle
            have h2 := Nat.mul_le_mul_right 401 hln
            omega
          have hwj := Pl.words_join ls hlw
          have C3 := Lib.hid (fun wx => words_is t wx ls (by omega) hls ho)
          have C4 := Lib.hid (fun wx A c (h : Txt wx A ls) => join_R A c ls wx h (by omega) (fun v hv => by have := hle v hv; omega))
          rw [joinS_of hlw, joinE_of hlw] at C4
          have C5 := Lib.hid (fun wx => words_is ((⟨#[32, 32]⟩ : ByteArray) ++ ⟨(Pl.join ls).toArray⟩ ++ ⟨#[32]⟩) wx ls (by rw [Lib.size_eq, wide_list]; simp; omega) (by rw [wide_list, Pl.words_wide]; exact hwj.1) (by rw [wide_list]; exact Pl.allOk_wide hwj.2))
          clear hwj hlw hle hls ho
          generalize Pl.join ls = jl at *
          refine (C3.out _).mono ?_
          rintro e w4 ⟨A4, c4, rfl, ht4, hb4⟩
          go_wp2_with fail
          refine (C4.out _ _ _ ht4).mono ?_
          rintro e w5 ⟨rfl, hb5⟩
          have hq1 : ¬ 9223372036854775807 < 2 + jl.length := by omega
          have hq2 : ¬ 9223372036854775807 < 2 + jl.length + 1 := by omega
          go_wp2_with fail
          refine (C5.out _).mono ?_
          rintro e w6 ⟨A6, c6, rfl, ht6, hb6⟩
          go_wp2_with fail
          refine (eq_is A4 A6 _ _ _ _ ls ls _ ((ht4.below hb5).below hb6) ht6 rfl rfl (by omega) rfl).mono ?_
          rintro e w7 ⟨rfl, hb7⟩
          go_wp2_with fail
          go_ret
          exact ⟨rfl, Below.and (Below.and (Below.and (Below.and hbb hb4) hb5) hb6) hb7⟩
        · have ho' : Pl.allOk t.data.toList = false := by simpa using ho
          clear ho
          refine (words_bad t _ (by omega) ho').mono ?_
          rintro e w4 ⟨rfl, hb4⟩
          go_wp2_with fail
          go_ret
          exact ⟨rfl, Below.and hbb hb4⟩
end Go.Proofs.YtjhppekoinpheaaDoor
