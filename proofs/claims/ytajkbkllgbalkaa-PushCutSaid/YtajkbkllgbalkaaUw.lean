/- flat. -/
import Derived.Test.YtajkbkllgbalkaaUv
namespace Go.Proofs.Ytajkbkllgbalkaa
open Go Go.RowKit

/-- a text's first 60 bytes, without line feeds -/
def flatP (s : Bs) : Bs := (s.take 60).filter (· != 10)
theorem flatP_len (s : Bs) : (flatP s).length ≤ 60 := by
  unfold flatP
  have := List.length_filter_le (· != 10) (s.take 60)
  rw [List.length_take] at this
  omega
theorem flatP_noLf (s : Bs) : noLf (flatP s) = true := by
  unfold flatP noLf
  simp
theorem flat_yes (s : Bs) (k : Nat) (h : k < s.length) (hc : s[k] ≠ 10) : (s.take (k + 1)).filter (· != 10) = (s.take k).filter (· != 10) ++ [s[k]] := by
  rw [List.take_succ_eq_append_getElem h, List.filter_append, List.filter_cons_of_pos (by simpa using hc), List.filter_nil]
theorem flat_no (s : Bs) (k : Nat) (h : k < s.length) (hc : s[k] = 10) : (s.take (k + 1)).filter (· != 10) = (s.take k).filter (· != 10) := by
  rw [List.take_succ_eq_append_getElem h, List.filter_append, List.filter_cons_of_neg (by simpa using hc), List.filter_nil, List.append_nil]

set_option maxRecDepth 100000 in
theorem flat_any (s : ByteArray) (w : World) (_hs : s.size ≤ maxLen) :
    Calls Try.prog 67 #[.string s] w fun e w' => e = .returned (.string ⟨(flatP s.data.toList).toArray⟩) ∧ Below w.heap.size w w' := by
  unfold maxLen at _hs
  go_enter Try.func67, Try.ntmps67
  go_wp2
  go_loopw [3, 4] (fun v i wr => ∃ k : Nat, k ≤ s.size ∧ k ≤ 60 ∧ i = .int .i64 k ∧ OwnB wr w.heap.size v ((s.data.toList.take k).filter (· != 10)) ∧ Below w.heap.size w wr) (fun _ i _ => 60 - (intOf i).toNat)
  case atStart => exact ⟨0, Nat.zero_le _, Nat.zero_le _, rfl, ⟨rfl, .inl ⟨rfl, rfl⟩⟩, Below.refl _ _⟩
  case round =>
    obtain ⟨k, hk, hk4, rfl, hown, hb⟩ := hrel
    have hwl : ((s.data.toList.take k).filter (· != 10)).length ≤ k := by
      have := List.length_filter_le (· != 10) (s.data.toList.take k)
      rw [List.length_take] at this
      omega
    by_cases hlt : k < s.size
    · have hlt' : k < s.data.toList.length := by rw [← Lib.size_eq]; exact hlt
      by_cases hlt4 : k < 60
      · by_cases hc : s[k] = 10
        · have hst := Lib.hid (flat_no s.data.toList k hlt' (by rw [at_list s k hlt]; exact hc))
          have hci : (s[k].toNat : Int) = 10 := by rw [hc]; rfl
          have HO := Lib.hid hown
          have HBb := Lib.hid hb
          clear hown hb hwl
          go_wp2_with fail
          go_roundw
          case rel => exact ⟨k + 1, by omega, by omega, by go_num, by rw [hst.out]; exact HO.out, HBb.out⟩
          case measure => simp [intOf]; omega
        · have hst := Lib.hid (flat_yes s.data.toList k hlt' (by rw [at_list s k hlt]; exact hc))
          have hci : ¬ (s[k].toNat : Int) = 10 := by
            intro h
            exact hc (UInt8.toNat_inj.1 (by have : (10 : UInt8).toNat = 10 := rfl; omega))
          go_wp2_with (at_builtin; refine wpList_pushb rfl (.tmp 19) (.tmp 23) rfl _ w.heap.size _ _ _ s[k] ?c1 rfl hown rfl hb.size (by omega) ?_; rotate_left; intro v3 w3 hown3 hb3)
          · go_roundw
            case rel => exact ⟨k + 1, by omega, by omega, by go_num, by rw [hst.out, at_list s k hlt]; exact hown3, hb.trans hb3⟩
            case measure => simp [intOf]; omega
          · rfl
      · have hfin : Hid (flatP s.data.toList = (s.data.toList.take k).filter (· != 10)) := Lib.hid (by unfold flatP; rw [show k = 60 by omega])
        have hcv := hown.conv
        go_wp2_with fail
        go_ret
        exact ⟨ret_str (by rw [hfin.out]), hb⟩
    · have hfin : Hid (flatP s.data.toList = (s.data.toList.take k).filter (· != 10)) := Lib.hid (by unfold flatP; rw [List.take_of_length_le (by rw [← Lib.size_eq]; omega), List.take_of_length_le (by rw [← Lib.size_eq]; omega)])
      have hcv := hown.conv
      go_wp2_with fail
      go_ret
      exact ⟨ret_str (by rw [hfin.out]), hb⟩
theorem check_small {p : Psh} (h : checkP p = true) : Small p := by
  have := parse_small (bytesP p)
  rw [parse_bytes h] at this
  exact this
theorem cat_len : ∀ l : List Bs, (l.flatMap cntL).length = 3 * l.length + sumL l
  | [] => rfl
  | x :: l => by
    have := cat_len l
    rw [List.flatMap_cons, List.length_append, this]
    simp only [cntL, List.length_append, rowB_len, sumL, List.map_cons, List.sum_cons, List.length_cons]
    omega
theorem check_sum {p : Psh} (h : checkP p = true) : sumL p.lines ≤ 65536 := by
  have h7 : stepK p 7 = true := by
    simp only [checkP, all8, Bool.and_eq_true] at h
    exact h.2.2
  unfold stepK at h7
  split at h7
  · have h8 : areL p.lines = true := h7
    simp only [areL, Bool.and_eq_true, decide_eq_true_eq] at h8
    exact h8.2
  · have h8 : (p.lines == zeroP.lines) = true := h7
    have h9 : p.lines = [] := eq_of_beq h8
    rw [h9]
    exact Nat.zero_le _
theorem wlen_le {p : Psh} (h : Small p) (hs : sumL p.lines ≤ 65536) (k : Nat) : (writeF p k).length ≤ 70000 := by
  obtain ⟨h1, h2, h3⟩ := h
  unfold writeF
  split
  · simp only [cntL, List.length_append, rowB_len]; omega
  · rw [List.length_append, rowB_len, cat_len]
    omega
  · rw [rowB_len]; omega
theorem wsum_le {p : Psh} (h : Small p) (hs : sumL p.lines ≤ 65536) : ∀ l : List Nat, (l.flatMap (writeF p)).length ≤ 70000 * l.length
  | [] => Nat.le_refl _
  | k :: l => by
    have h1 := wsum_le h hs l
    have h2 := wlen_le h hs k
    rw [List.flatMap_cons, List.length_append, List.length_cons, Nat.mul_add]
    omega
theorem bytes_len {p : Psh} (h : checkP p = true) : (bytesP p).length ≤ 500000 ∧ 1 ≤ (bytesP p).length := by
  have h1 := wsum_le (check_small h) (check_sum h) (fldL p.kind)
  have h2 : (fldL p.kind).length ≤ 6 := by
    unfold fldL
    split
    · decide
    · split
      · decide
      · split
        · decide
        · split <;> decide
  unfold bytesP
  rw [List.length_append, rowB_len]
  omega
end Go.Proofs.Ytajkbkllgbalkaa
