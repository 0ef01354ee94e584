/- The program's writer: number, counted. -/
import Derived.Test.YtajkbkllgbalkaaUb
namespace Go.Proofs.Ytajkbkllgbalkaa
open Go Go.RowKit

set_option maxRecDepth 100000 in
set_option maxHeartbeats 400000 in
theorem number_prog {base : Nat} {A : Option Addr} {c q : Nat} {l : List UInt8} (n k : Nat) {w : World} (hR : RowG w base A c l) (hq : l.length = q) (hbase : base ≤ w.heap.size) (hl : l.length ≤ 100000000000) (hk : k ≤ 7) :
    Calls Try.prog 33 #[.slice A q c, .int .i64 k, .int .i64 n] w (GrewP base A l (rowB n k) w) := by
  subst hq
  have HR := Lib.hid hR
  have HB := Lib.hid hbase
  have HL := Lib.hid hl
  have hkl := rowB_len n k
  clear hR hl
  unfold GrewP
  rw [hkl]
  go_enter Try.func33, Try.ntmps33
  go_wp2_with fail
  go_loopw [0, 7] (fun v i wr => ∃ (m : Nat) (R : List UInt8) (A' : Option Addr) (c' : Nat), m ≤ k ∧ i = .int .i64 (8 * (m : Int) - 8) ∧ v = .slice A' (l.length + R.length) c' ∧ RowG wr base A' c' (l ++ R) ∧ R ++ rowB n m = rowB n k ∧ Gw base A A' w wr) (fun _ i _ => (intOf i + 8).toNat)
  case atStart => exact ⟨k, [], A, c, Nat.le_refl _, congrArg (Value.int .i64) (by omega), rfl, by rw [List.append_nil]; exact HR.out, rfl, Gw.refl _ _ _⟩
  case round =>
    obtain ⟨m, R, A', c', hm, rfl, rfl, hown, hR, hb⟩ := hrel
    have hlen : R.length ≤ 7 := by
      have := congrArg List.length hR
      rw [List.length_append, rowB_len, rowB_len] at this
      omega
    have hLL := HL.out
    have ho := Lib.hid hown
    have hb' := Lib.hid hb
    clear hown hb
    have hbs := hb'.out.below.size
    have hbb : base ≤ wr.heap.size := Nat.le_trans HB.out hbs
    cases m with
    | zero =>
      go_wp2_with fail
      go_ret
      rw [rowB, List.append_nil] at hR
      subst hR
      exact ⟨A', c', by rw [hkl]; rfl, ho.out, hb'.out⟩
    | succ m =>
      have hcases : m = 0 ∨ m = 1 ∨ m = 2 ∨ m = 3 ∨ m = 4 ∨ m = 5 ∨ m = 6 := by omega
      rcases hcases with rfl | rfl | rfl | rfl | rfl | rfl | rfl
      · go_wp2_with (at_builtin; refine wpList_pushOneW rfl (.tmp 15) (.tmp 20) rfl _ base A' c' (l.length + R.length) (l ++ R) _ (UInt8.ofNat (n / 256 ^ 0)) ?_ (List.length_append ..) rfl rfl ho.out hbb (by omega) ?_; rotate_left; intro A1 c1 w1 hr1 hb1)
        all_goals first
          | (rw [← byte_at n 0]; simp; done)
          | exact byte_at n 0
          | exact ⟨⟨0, R ++ [UInt8.ofNat (n / 256 ^ 0)], A1, c1, by omega, rfl, by rw [List.length_append]; rfl, by rw [← List.append_assoc]; exact hr1, by rw [← hR, List.append_assoc]; rfl, hb'.out.trans hb1⟩, by simp [intOf]⟩
      · go_wp2_with (at_builtin; refine wpList_pushOneW rfl (.tmp 15) (.tmp 20) rfl _ base A' c' (l.length + R.length) (l ++ R) _ (UInt8.ofNat (n / 256 ^ 1)) ?_ (List.length_append ..) rfl rfl ho.out hbb (by omega) ?_; rotate_left; intro A1 c1 w1 hr1 hb1)
        all_goals first
          | (rw [← byte_at n 1]; simp; done)
          | exact byte_at n 1
          | exact ⟨⟨1, R ++ [UInt8.ofNat (n / 256 ^ 1)], A1, c1, by omega, rfl, by rw [List.length_append]; rfl, by rw [← List.append_assoc]; exact hr1, by rw [← hR, List.append_assoc]; rfl, hb'.out.trans hb1⟩, by simp [intOf]⟩
      · go_wp2_with (at_builtin; refine wpList_pushOneW rfl (.tmp 15) (.tmp 20) rfl _ base A' c' (l.length + R.length) (l ++ R) _ (UInt8.ofNat (n / 256 ^ 2)) ?_ (List.length_append ..) rfl rfl ho.out hbb (by omega) ?_; rotate_left; intro A1 c1 w1 hr1 hb1)
        all_goals first
          | (rw [← byte_at n 2]; simp; done)
          | exact byte_at n 2
          | exact ⟨⟨2, R ++ [UInt8.ofNat (n / 256 ^ 2)], A1, c1, by omega, rfl, by rw [List.length_append]; rfl, by rw [← List.append_assoc]; exact hr1, by rw [← hR, List.append_assoc]; rfl, hb'.out.trans hb1⟩, by simp [intOf]⟩
      · go_wp2_with (at_builtin; refine wpList_pushOneW rfl (.tmp 15) (.tmp 20) rfl _ base A' c' (l.length + R.length) (l ++ R) _ (UInt8.ofNat (n / 256 ^ 3)) ?_ (List.length_append ..) rfl rfl ho.out hbb (by omega) ?_; rotate_left; intro A1 c1 w1 hr1 hb1)
        all_goals first
          | (rw [← byte_at n 3]; simp; done)
          | exact byte_at n 3
          | exact ⟨⟨3, R ++ [UInt8.ofNat (n / 256 ^ 3)], A1, c1, by omega, rfl, by rw [List.length_append]; rfl, by rw [← List.append_assoc]; exact hr1, by rw [← hR, List.append_assoc]; rfl, hb'.out.trans hb1⟩, by simp [intOf]⟩
      · go_wp2_with (at_builtin; refine wpList_pushOneW rfl (.tmp 15) (.tmp 20) rfl _ base A' c' (l.length + R.length) (l ++ R) _ (UInt8.ofNat (n / 256 ^ 4)) ?_ (List.length_append ..) rfl rfl ho.out hbb (by omega) ?_; rotate_left; intro A1 c1 w1 hr1 hb1)
        all_goals first
          | (rw [← byte_at n 4]; simp; done)
          | exact byte_at n 4
          | exact ⟨⟨4, R ++ [UInt8.ofNat (n / 256 ^ 4)], A1, c1, by omega, rfl, by rw [List.length_append]; rfl, by rw [← List.append_assoc]; exact hr1, by rw [← hR, List.append_assoc]; rfl, hb'.out.trans hb1⟩, by simp [intOf]⟩
      · go_wp2_with (at_builtin; refine wpList_pushOneW rfl (.tmp 15) (.tmp 20) rfl _ base A' c' (l.length + R.length) (l ++ R) _ (UInt8.ofNat (n / 256 ^ 5)) ?_ (List.length_append ..) rfl rfl ho.out hbb (by omega) ?_; rotate_left; intro A1 c1 w1 hr1 hb1)
        all_goals first
          | (rw [← byte_at n 5]; simp; done)
          | exact byte_at n 5
          | exact ⟨⟨5, R ++ [UInt8.ofNat (n / 256 ^ 5)], A1, c1, by omega, rfl, by rw [List.length_append]; rfl, by rw [← List.append_assoc]; exact hr1, by rw [← hR, List.append_assoc]; rfl, hb'.out.trans hb1⟩, by simp [intOf]⟩
      · go_wp2_with (at_builtin; refine wpList_pushOneW rfl (.tmp 15) (.tmp 20) rfl _ base A' c' (l.length + R.length) (l ++ R) _ (UInt8.ofNat (n / 256 ^ 6)) ?_ (List.length_append ..) rfl rfl ho.out hbb (by omega) ?_; rotate_left; intro A1 c1 w1 hr1 hb1)
        all_goals first
          | (rw [← byte_at n 6]; simp; done)
          | exact byte_at n 6
          | exact ⟨⟨6, R ++ [UInt8.ofNat (n / 256 ^ 6)], A1, c1, by omega, rfl, by rw [List.length_append]; rfl, by rw [← List.append_assoc]; exact hr1, by rw [← hR, List.append_assoc]; rfl, hb'.out.trans hb1⟩, by simp [intOf]⟩
theorem gw_drew {base : Nat} (A : Option Addr) (w : World) : Gw base A A w w.drew := ⟨⟨rfl, rfl, rfl, Nat.le_refl _, fun _ _ => rfl⟩, fun _ _ _ => rfl, .inl rfl⟩
set_option maxRecDepth 100000 in
set_option maxHeartbeats 400000 in
theorem counted_prog {base : Nat} {A : Option Addr} {c q : Nat} {l : List UInt8} (s : Bs) {w : World} (hR : RowG w base A c l) (hq : l.length = q) (hbase : base ≤ w.heap.size) (hl : l.length ≤ 10000000000) (hs : s.length ≤ 10000000000) :
    Calls Try.prog 68 #[.slice A q c, .string ⟨s.toArray⟩] w (GrewP base A l (cntL s) w) := by
  subst hq
  have CN := Lib.hid (number_prog s.length 3 hR rfl hbase (by omega) (by decide))
  have HS : Hid (cntL s = rowB s.length 3 ++ s) := Lib.hid rfl
  have HB := Lib.hid hbase
  have HKL := Lib.hid (rowB_len s.length 3)
  clear hR
  unfold GrewP at *
  generalize cntL s = X at *
  generalize rowB s.length 3 = Y at *
  go_enter Try.func68, Try.ntmps68
  go_wp2_with (first
    | (go_at_call 33; refine CN.out.mono ?_; rintro e w1 ⟨A1, c1, rfl, hr1, hb1⟩; have R1 := Lib.hid hr1; have B1 := Lib.hid hb1; clear hr1 hb1)
    | (at_builtin; refine wpList_pushW rfl (.tmp 8) (.tmp 9) 9 rfl w1 base A1 c1 (l.length + Y.length) s.length (l ++ Y) s (.string ⟨s.toArray⟩) (List.length_append ..) rfl rfl rfl R1.out (src_str _ _) (Nat.le_trans HB.out B1.out.below.size) (by have := HKL.out; omega) ?_; intro A2 c2 w2 hr2 hb2; have R2 := Lib.hid hr2; have B2 := Lib.hid (B1.out.trans hb2); clear hr2 hb2))
  go_ret
  rw [HS.out]
  exact ⟨A2, c2, by rw [List.length_append, ← Nat.add_assoc]; rfl, by rw [← List.append_assoc]; exact R2.out, B2.out⟩
end Go.Proofs.Ytajkbkllgbalkaa
