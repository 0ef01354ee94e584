/- The statement HeadNames. -/
import Derived.Test.YtfiioojnmjnmmaaDoorHzb
import Derived.IntWalk
namespace Go.Proofs.YtfiioojnmjnmmaaDoor
open Go Go.RowKit

theorem sum_run (A B : ByteArray) (h : A.size + B.size ≤ 1000) (w : World) : (Op.stringOp .add A B).run Tryd.prog w = .ok (.string (A ++ B)) w := run_string_add_sum w A B (by omega)
theorem rd_nil (w : World) : Rd w none (hv []) := fun i h => by simp [hv] at h
theorem mx_nil : Mx [] := fun h hh => by simp at hh
theorem sets_nil (X Y : ByteArray) (hx : X.size ≤ 1000) (hy : Y.size ≤ 1000) (w : World) : Calls Tryd.prog 4 #[.slice none 0 0, .string X, .string Y] w fun e w' => e = .returned (.bool true) ∧ Below w.heap.size w w' := by
  have := headSets_any none 0 [] X.data.toList Y.data.toList w (rd_nil w) mx_nil (by rw [← Lib.size_eq]; unfold maxLen; omega) (by rw [← Lib.size_eq]; unfold maxLen; omega)
  rw [mk_data, mk_data] at this
  exact this
theorem finds_one (X : ByteArray) (hx : X.size ≤ 1000) (w : World) : Calls Tryd.prog 3 #[.slice (some ⟨w.heap.size, 0, none⟩) 1 1, .slice none 0 0, .string X] (w.alloc (.cells #[.string X, .string X] 28)) fun e w' => e = .returned (.bool true) ∧ Below w.heap.size w w' := by
  have hz : X.data.toList.length ≤ maxLen := by rw [← Lib.size_eq]; unfold maxLen; omega
  have := headFinds_any (some ⟨w.heap.size, 0, none⟩) none 1 0 [(X.data.toList, X.data.toList)] [] X.data.toList (w.alloc (.cells #[.string X, .string X] 28))
    (by have := Rd.made w (hv [(X.data.toList, X.data.toList)]) 28; simpa [hv, strV_data] using this) (fun h hh => by simp at hh; subst hh; exact ⟨hz, hz⟩) (rd_nil _) mx_nil hz
  rw [mk_data] at this
  exact this.mono fun _ _ ⟨h1, h2⟩ => ⟨h1, Below.and (below_new _ _) h2⟩
theorem lines_b (X : ByteArray) (hx : X.size ≤ 1000) (w : World) : Calls Tryd.prog 5 #[.string X] w fun e w' => e = .returned (.bool true) ∧ Below w.heap.size w w' := headLines_any X w (by unfold maxLen; omega)
theorem one_conv (w : World) (n : Int) (k : Nat) (hn : n = k) (hk : k < 256) : (convert 38 9 (.slice (some ⟨w.heap.size, 0, none⟩) 1 1)).run Tryd.prog (w.alloc (.cells #[.int .u8 n] 5)) = .ok (.string ⟨#[UInt8.ofNat k]⟩) (w.alloc (.cells #[.int .u8 n] 5)) := by
  subst hn
  refine run_convert_bytes_back (P := Tryd.prog) _ 38 9 5 ⟨w.heap.size, 0, none⟩ 1 [UInt8.ofNat k] Tryd.underlying38 Tryd.underlying5 Tryd.underlying9 fun j hj => ?_
  obtain rfl : j = 0 := by simpa using hj
  rw [add_pl, World.cell?_alloc_at _ _ _ _ rfl]
  simp
  omega
abbrev aL (k : Nat) : ByteArray := ⟨(List.replicate k (97 : UInt8)).toArray⟩
theorem aL_next (k : Nat) : aL k ++ ⟨#[97]⟩ = aL (k + 1) := by
  show (⟨(List.replicate k 97).toArray⟩ : ByteArray) ++ ⟨([97] : List UInt8).toArray⟩ = _
  rw [app_mk]
  congr 2
  rw [← List.replicate_succ']
theorem aL_size (k : Nat) : (aL k).size = k := by unfold aL; rw [mk_size, List.length_replicate]

theorem aL_cut (n k : Nat) (h : k ≤ n) : (aL n).extract 0 k = aL k := by
  unfold aL
  rw [mk_extract, List.take_replicate, Nat.min_eq_left h]
def hN (i : Nat) : Hd := (110 :: List.replicate i 97, List.replicate (i * 12) 97)
def nL (k : Nat) : List Hd := (List.range k).map hN
theorem nL_len (k : Nat) : (nL k).length = k := by simp [nL]
theorem nL_next (k : Nat) : nL (k + 1) = nL k ++ [(110 :: List.replicate k 97, List.replicate (k * 12) 97)] := by unfold nL; rw [List.range_succ, List.map_append]; rfl
theorem n_sum (k : Nat) : (⟨#[110]⟩ : ByteArray) ++ aL k = ⟨(110 :: List.replicate k (97 : UInt8)).toArray⟩ := by
  show (⟨([110] : List UInt8).toArray⟩ : ByteArray) ++ ⟨(List.replicate k 97).toArray⟩ = _
  rw [app_mk]; rfl

theorem nL_sm (k : Nat) (hk : k ≤ 17) : Sm (nL k) := ⟨by rw [nL_len]; omega, fun h hh => by
  obtain ⟨i, hi, rfl⟩ := List.mem_map.1 hh
  have := List.mem_range.1 hi
  unfold hN
  simp
  omega⟩
theorem hv_take (l : List Hd) (k : Nat) : hv (l.take k) = (hv l).take (k * 2) := by
  induction l generalizing k with
  | nil => simp [hv]
  | cons h l ih =>
    cases k with
    | zero => simp [hv]
    | succ k =>
      have e : hv (h :: l) = strV h.1 :: strV h.2 :: hv l := by simp [hv]
      have e2 : hv (h :: l.take k) = strV h.1 :: strV h.2 :: hv (l.take k) := by simp [hv]
      rw [List.take_succ_cons, e, e2, ih, show (k + 1) * 2 = k * 2 + 1 + 1 by omega, List.take_succ_cons, List.take_succ_cons]
theorem Hs.take {w : World} {A : Option Addr} {n c : Nat} {l : List Hd} (h : Hs w (.slice A n c) l) (k : Nat) (hk : k ≤ l.length) : Hs w (.slice A k c) (l.take k) := by
  obtain ⟨A', c', e, hc, hn, hr⟩ := h
  injection e with e1 e2 e3
  subst e1 e3
  have hl : (l.take k).length = k := by rw [List.length_take]; omega
  exact ⟨A, c, by rw [hl], by omega, hn, by rw [hv_take]; exact hr.cut _⟩
theorem nL_take : (nL 17).take 16 = nL 16 := by unfold nL; rw [← List.map_take]; rfl
theorem set_new : setE (nL 16) [110, 101, 119] [49] = 5 := by decide +kernel
theorem set_naa : setE (nL 16) [78, 65, 65] [49] = 0 ∧ (setL (nL 16) [78, 65, 65] [49]).length = 16 := by decide +kernel
theorem chk_17 : chkE (nL 17) = 5 := by decide +kernel
theorem chk_16 : chkE (nL 16) = 0 := by decide +kernel
theorem chk_ends : chkE [(List.replicate 30 97, List.replicate 200 97)] = 0 := by decide +kernel
theorem chk_31 : chkE [(List.replicate 31 97, [])] = 40 := by decide +kernel
theorem chk_201 : chkE [([97], List.replicate 201 97)] = 40 := by decide +kernel
theorem chk_none : chkE [([], [])] = 40 := by decide +kernel
theorem strip_all : stripL (nL 17) [] = [] := by decide +kernel
theorem line_long : lineP ([97, 58] ++ List.replicate 200 97 ++ List.replicate 66 32) = some ([97], List.replicate 200 97) := by decide +kernel
theorem line_312 : lineP ([97, 58] ++ List.replicate 250 97 ++ List.replicate 60 97) = none := by decide +kernel
theorem chk_arm (W : World) (y z : List UInt8) (hy : y.length ≤ 1000) (hz : z.length ≤ 1000) (q : Int) (hq : chkE [(y, z)] = q) (P Q : ByteArray) (hP : (⟨y.toArray⟩ : ByteArray) = P) (hQ : (⟨z.toArray⟩ : ByteArray) = Q) :
    Calls Tryd.prog 14 #[.slice (some ⟨W.heap.size, 0, none⟩) 1 1] (W.alloc (.cells #[.string P, .string Q] 28)) fun e w' => e = .returned (.int .i64 q) ∧ Below W.heap.size W w' := by
  subst hP hQ
  exact (check_any _ [(y, z)] _ (hs_made W [(y, z)] 1 rfl #[.string ⟨y.toArray⟩, .string ⟨z.toArray⟩] rfl) (one_sm hy hz)).mono fun _ _ ⟨h1, h2⟩ => ⟨by rw [h1, hq], Below.and (below_new _ _) h2⟩

theorem line_two (W : World) (A200 : ByteArray) (h : aL 200 = A200) (B : ByteArray) (hB : ((⟨#[97, 58]⟩ : ByteArray) ++ A200) ++ ⟨#[32, 32, 32, 32, 32, 32, 32, 32, 32, 32, 32, 32, 32, 32, 32, 32, 32, 32, 32, 32, 32, 32, 32, 32, 32, 32, 32, 32, 32, 32, 32, 32, 32, 32, 32, 32, 32, 32, 32, 32, 32, 32, 32, 32, 32, 32, 32, 32, 32, 32, 32, 32, 32, 32, 32, 32, 32, 32, 32, 32, 32, 32, 32, 32, 32, 32]⟩ = B) :
    Calls Tryd.prog 37 #[.string B, .string ⟨#[97]⟩, .string A200] W fun e w' => e = .returned (.bool true) ∧ Below W.heap.size W w' := by
  have e : B = ⟨([97, 58] ++ List.replicate 200 97 ++ List.replicate 66 32 : List UInt8).toArray⟩ := by
    rw [← hB, ← h, ← app_mk, ← app_mk]; rfl
  subst h
  rw [e]
  exact (lawLine_any _ [97] (List.replicate 200 97) W (by simp only [List.length_append, List.length_replicate]; decide)).mono fun _ _ ⟨h1, h2⟩ => ⟨by rw [h1, line_long]; simp, h2⟩
theorem wrong_two (W : World) (A60 : ByteArray) (h : aL 60 = A60) (Lg : ByteArray) (hl : aL 250 = Lg) (B : ByteArray) (hB : ((⟨#[97, 58]⟩ : ByteArray) ++ Lg) ++ A60 = B) :
    Calls Tryd.prog 38 #[.string B] W fun e w' => e = .returned (.bool true) ∧ Below W.heap.size W w' := by
  have e : B = ⟨([97, 58] ++ List.replicate 250 97 ++ List.replicate 60 97 : List UInt8).toArray⟩ := by
    rw [← hB, ← h, ← hl, ← app_mk, ← app_mk]
  rw [e]
  exact (lawWrong_any _ W (by simp only [List.length_append, List.length_replicate]; decide)).mono fun _ _ ⟨h1, h2⟩ => ⟨by rw [h1, line_312]; rfl, h2⟩
theorem same_none (W : World) : Calls Tryd.prog 20 #[.slice none 0 0, .slice (some ⟨W.heap.size, 0, none⟩) 0 0] (W.alloc (.cells #[] 28)) fun e w' => e = .returned (.bool true) ∧ Below W.heap.size W w' :=
  (same_anyH (.slice none 0 0) (.slice (some ⟨W.heap.size, 0, none⟩) 0 0) [] [] (W.alloc (.cells #[] 28)) (Hs.nil _) ⟨_, 0, rfl, Nat.le_refl _, fun e => (by cases e), Rd.nil _ _⟩ (by decide) (by decide)).mono fun _ _ ⟨h1, h2⟩ => ⟨by rw [h1]; rfl, Below.and (below_new _ _) h2⟩

set_option maxHeartbeats 1000000 in
theorem eqTexts_one (g h : Nat) (x : ByteArray) (W : World) (h1 : W.cell? ⟨g, 0, none⟩ = some (.string x)) (h2 : W.cell? ⟨h, 0, none⟩ = some (.string x)) :
    Calls Tryd.prog 39 #[.slice (some ⟨g, 0, none⟩) 1 1, .slice (some ⟨h, 0, none⟩) 1 1] W fun e w' => e = .returned (.bool true) ∧ Below W.heap.size W w' := by
  have g1 := World.block_lt_of_cell? W _ h1
  have g2 := World.block_lt_of_cell? W _ h2
  have H1 := Lib.hid h1
  have H2 := Lib.hid h2
  clear h1 h2
  go_enter Tryd.func39, Tryd.ntmps39
  go_wp2_with fail
  go_loopw [5] (fun i wr => ∃ k : Nat, k ≤ 1 ∧ i = .int .i64 k ∧ Below W.heap.size W wr) (fun i _ => 1 - (intOf i).toNat)
  case atStart => exact ⟨0, by omega, rfl, Below.refl _ _⟩
  case round =>
    obtain ⟨k, hk, rfl, hb⟩ := hrel
    have h1 := (hb.cell (p := ⟨g, 0, none⟩) g1).trans H1.out
    have h2 := (hb.cell (p := ⟨h, 0, none⟩) g2).trans H2.out
    have HB := Lib.hid hb
    clear hb
    by_cases h0 : k < 1
    · obtain rfl : k = 0 := by omega
      go_wp2_with fail
      go_quiet (fail)
      go_wp2_with fail
      go_roundw
      case rel => exact ⟨1, by omega, rfl, below_drewN HB.out _⟩
      case measure => simp [intOf]
    · have i1 : ¬ ((k : Int) < 1) := by omega
      go_wp2_with fail
      go_ret
      exact ⟨rfl, HB.out⟩
theorem texts_one (W : World) (x : ByteArray) : Calls Tryd.prog 39 #[.slice (some ⟨W.heap.size, 0, none⟩) 1 1, .slice (some ⟨W.heap.size + 1, 0, none⟩) 1 1] ((W.alloc (.cells #[.string x] 9)).alloc (.cells #[.string x] 9)) fun e w' => e = .returned (.bool true) ∧ Below W.heap.size W w' := by
  have b := below_new (W.alloc (.cells #[.string x] 9)) (.cells #[.string x] 9)
  have hs : (W.alloc (.cells #[.string x] 9)).heap.size = W.heap.size + 1 := by simp
  have c1 := (b.cell (p := ⟨W.heap.size, 0, none⟩) (by rw [hs]; exact Nat.lt_succ_self _)).trans (cell_one W (.string x) 9)
  have c2 := cell_one (W.alloc (.cells #[.string x] 9)) (.string x) 9
  rw [hs] at c2
  exact (eqTexts_one _ _ x _ c1 c2).mono fun _ _ ⟨h1, h2⟩ => ⟨h1, Below.and (Below.and (below_new W _) b) h2⟩

set_option maxHeartbeats 40000000 in
set_option maxRecDepth 100000 in
theorem headNames_any (w : World) : Calls Tryd.prog 9 #[] w fun e w' => e = .returned (.bool true) ∧ Below w.heap.size w w' := by
  go_enter Tryd.func9, Tryd.ntmps9
  go_wp2_with fail
  go_loopw [1, 2] (fun s i wr => ∃ k q : Nat, k ≤ 250 ∧ i = .int .i64 k ∧ s = .string (aL k) ∧ wr = w.drewN q) (fun _ i _ => 250 - (intOf i).toNat)
  case atStart => exact ⟨0, 0, by omega, rfl, rfl, rfl⟩
  case round =>
    obtain ⟨k, q, hk, rfl, rfl, rfl⟩ := hrel
    by_cases hlt : k < 250
    · have i1 : (k : Int) < 250 := by omega
      have a1 := sum_run (aL k) ⟨#[97]⟩ (by rw [aL_size]; show k + 1 ≤ _; omega)
      rw [aL_next] at a1
      generalize hA : aL (k + 1) = X at *
      generalize aL k = Y at *
      go_wp2_with fail
      go_roundw
      case rel => exact ⟨k + 1, q, by omega, by go_num, by rw [hA], rfl⟩
      case measure => simp [intOf]; omega
    · have hAL : aL k = aL 250 := by rw [show k = 250 by omega]
      have i1 : ¬ ((k : Int) < 250) := by omega
      rw [hAL]
      clear hAL hk hlt
      have hB := below_drewN (Below.refl w.heap.size w) q
      generalize w.drewN q = w1 at *
      have BW := Lib.hid hB
      have hls := aL_size 250
      generalize hLg : aL 250 = Lg at *
      have HL := Lib.hid hLg
      clear hLg hB
      go_wp2_with fail
      go_loopw [3] (fun i wr => ∃ k : Nat, k ≤ 256 ∧ i = .int .i64 k ∧ Below w1.heap.size w1 wr) (fun i _ => 256 - (intOf i).toNat)
      case atStart => exact ⟨0, by omega, rfl, Below.refl _ _⟩
      case round =>
        obtain ⟨k, hk, rfl, hb⟩ := hrel
        by_cases hlt : k < 256
        · obtain ⟨wq, rfl⟩ : ∃ wq : World, wq = wr := ⟨_, rfl⟩
          have i1 : (k : Int) < 256 := by omega
          have i0 : (0 : Int) ≤ k := by omega
          have cv := one_conv wq k k rfl hlt
          have hxs : (⟨#[UInt8.ofNat k]⟩ : ByteArray).size = 1 := rfl
          generalize (⟨#[UInt8.ofNat k]⟩ : ByteArray) = X at *
          obtain ⟨s1, hs1⟩ : ∃ A : ByteArray, (⟨#[97]⟩ : ByteArray) ++ X = A := ⟨_, rfl⟩
          obtain ⟨s2, hs2⟩ : ∃ A : ByteArray, s1 ++ ⟨#[58, 32, 120]⟩ = A := ⟨_, rfl⟩
          obtain ⟨s3, hs3⟩ : ∃ A : ByteArray, (⟨#[97, 58, 32, 120]⟩ : ByteArray) ++ X = A := ⟨_, rfl⟩
          obtain ⟨s4, hs4⟩ : ∃ A : ByteArray, s3 ++ ⟨#[121]⟩ = A := ⟨_, rfl⟩
          obtain ⟨s5, hs5⟩ : ∃ A : ByteArray, (⟨#[97, 58, 32]⟩ : ByteArray) ++ X = A := ⟨_, rfl⟩
          obtain ⟨s6, hs6⟩ : ∃ A : ByteArray, (⟨#[97, 58]⟩ : ByteArray) ++ X = A := ⟨_, rfl⟩
          obtain ⟨s7, hs7⟩ : ∃ A : ByteArray, s6 ++ ⟨#[121]⟩ = A := ⟨_, rfl⟩
          obtain ⟨s8, hs8⟩ : ∃ A : ByteArray, s7 ++ X = A := ⟨_, rfl⟩
          have z1 : s1.size = 2 := by rw [← hs1, ByteArray.size_append, hxs]; rfl
          have z2 : s2.size = 5 := by rw [← hs2, ByteArray.size_append, z1]; rfl
          have z3 : s3.size = 5 := by rw [← hs3, ByteArray.size_append, hxs]; rfl
          have z4 : s4.size = 6 := by rw [← hs4, ByteArray.size_append, z3]; rfl
          have z5 : s5.size = 4 := by rw [← hs5, ByteArray.size_append, hxs]; rfl
          have z6 : s6.size = 3 := by rw [← hs6, ByteArray.size_append, hxs]; rfl
          have z7 : s7.size = 4 := by rw [← hs7, ByteArray.size_append, z6]; rfl
          have z8 : s8.size = 5 := by rw [← hs8, ByteArray.size_append, z7, hxs]
          have a1 := sum_run ⟨#[97]⟩ X (by rw [hxs]; show 1 + 1 ≤ _; omega)
          have a2 := sum_run s1 ⟨#[58, 32, 120]⟩ (by rw [z1]; show 2 + 3 ≤ _; omega)
          have a3 := sum_run ⟨#[97, 58, 32, 120]⟩ X (by rw [hxs]; show 4 + 1 ≤ _; omega)
          have a4 := sum_run s3 ⟨#[121]⟩ (by rw [z3]; show 5 + 1 ≤ _; omega)
          have a5 := sum_run ⟨#[97, 58, 32]⟩ X (by rw [hxs]; show 3 + 1 ≤ _; omega)
          have a6 := sum_run ⟨#[97, 58]⟩ X (by rw [hxs]; show 2 + 1 ≤ _; omega)
          have a7 := sum_run s6 ⟨#[121]⟩ (by rw [z6]; show 3 + 1 ≤ _; omega)
          have a8 := sum_run s7 X (by rw [z7, hxs]; omega)
          rw [hs1] at a1
          rw [hs2] at a2
          rw [hs3] at a3
          rw [hs4] at a4
          rw [hs5] at a5
          rw [hs6] at a6
          rw [hs7] at a7
          rw [hs8] at a8
          have L2 := Lib.hid (lines_b s2 (by omega))
          have L4 := Lib.hid (lines_b s4 (by omega))
          have L5 := Lib.hid (lines_b s5 (by omega))
          have L8 := Lib.hid (lines_b s8 (by omega))
          have S1 := Lib.hid (sets_nil s1 ⟨#[120]⟩ (by omega) (by show 1 ≤ _; omega))
          have S2 := Lib.hid (sets_nil ⟨#[97]⟩ X (by show 1 ≤ _; omega) (by omega))
          have F1 := Lib.hid (finds_one X (by omega))
          have HB := Lib.hid (hb.trans ((below_new wq (.cells #[.int .u8 (k : Int)] 5)).mono hb.size))
          clear hs1 hs2 hs3 hs4 hs5 hs6 hs7 hs8 z1 z2 z3 z4 z5 z6 z7 z8 hxs hb
          go_wp2_with fail
          refine (L2.out _).mono ?_
          rintro e w2 ⟨rfl, b2⟩
          have HB := Lib.hid (HB.out.trans (b2.mono HB.out.size))
          clear b2
          go_wp2_with fail
          refine (L4.out _).mono ?_
          rintro e w3 ⟨rfl, b3⟩
          have HB := Lib.hid (HB.out.trans (b3.mono HB.out.size))
          clear b3
          go_wp2_with fail
          refine (L5.out _).mono ?_
          rintro e w4 ⟨rfl, b4⟩
          have HB := Lib.hid (HB.out.trans (b4.mono HB.out.size))
          clear b4
          go_wp2_with fail
          refine (L8.out _).mono ?_
          rintro e w5 ⟨rfl, b5⟩
          have HB := Lib.hid (HB.out.trans (b5.mono HB.out.size))
          clear b5
          go_wp2_with fail
          refine (S1.out _).mono ?_
          rintro e w6 ⟨rfl, b6⟩
          have HB := Lib.hid (HB.out.trans (b6.mono HB.out.size))
          clear b6
          go_wp2_with fail
          refine (S2.out _).mono ?_
          rintro e w7 ⟨rfl, b7⟩
          have HB := Lib.hid (HB.out.trans (b7.mono HB.out.size))
          clear b7
          go_wp2_with fail
          refine (F1.out _).mono ?_
          rintro e w8 ⟨rfl, b8⟩
          have HB := Lib.hid (HB.out.trans (b8.mono HB.out.size))
          clear b8
          go_wp2_with fail
          go_roundw
          case rel => exact ⟨k + 1, by omega, by go_num, HB.out⟩
          case measure => simp [intOf]; omega
        · have i2 : ¬ ((k : Int) < 256) := by omega
          obtain ⟨wq, rfl⟩ : ∃ wq : World, wq = wr := ⟨_, rfl⟩
          clear hlt hk
          have BQ := Lib.hid (BW.out.trans (hb.mono BW.out.size))
          clear hb BW
          go_wp2_with fail
          go_loopw [5, 6] (fun v i wr => ∃ (j : Nat) (A2 : Option Addr) (c2 : Nat), j ≤ 17 ∧ i = .int .i64 j ∧ v = .slice A2 j c2 ∧ Hid (OwnH wr wq.heap.size v (nL j)) ∧ Below wq.heap.size wq wr) (fun _ i _ => 17 - (intOf i).toNat)
          case atStart => exact ⟨0, none, 0, by omega, rfl, rfl, OwnH.nil _ _, Below.refl _ _⟩
          case round =>
            obtain ⟨j, A2, c2, hj, rfl, rfl, hown, hb⟩ := hrel
            by_cases hlt : j < 17
            · obtain ⟨wr', rfl⟩ : ∃ wr' : World, wr' = wr := ⟨_, rfl⟩
              have e1 := aL_cut 250 j (by omega)
              have e2 : (aL 250).extract 0 ((j : Int) * 12).toNat = aL (j * 12) := by rw [show ((j : Int) * 12).toNat = j * 12 by omega]; exact aL_cut 250 (j * 12) (by omega)
              have a1 := sum_run ⟨#[110]⟩ (aL j) (by rw [aL_size]; show 1 + j ≤ _; omega)
              rw [n_sum] at a1
              have hnx := Lib.hid (nL_next j)
              have hln := nL_len j
              rw [HL.out] at e1 e2
              generalize nL j = g at *
              generalize 110 :: List.replicate j (97 : UInt8) = p at *
              unfold aL at e1 e2 a1
              generalize List.replicate (j * 12) (97 : UInt8) = y at *
              generalize (⟨(List.replicate j (97 : UInt8)).toArray⟩ : ByteArray) = X at *
              have i1 : (j : Int) < 17 := by omega
              have i0 : (0 : Int) ≤ j := by omega
              have m1 : IntKind.i64.wrap ((j : Int) * 12) = (j : Int) * 12 := IntWalk.i64_in _ (by omega)
              have m2 : (0 : Int) ≤ (j : Int) * 12 := by omega
              have m3 : (j : Int) * 12 ≤ (Lg.size : Int) := by omega
              have m4 : (j : Int) ≤ (Lg.size : Int) := by omega
              have m5 : (j : Int) ≤ 250 := by omega
              have m6 : (j : Int) * 12 ≤ 250 := by omega
              have HB := Lib.hid hb
              clear hb
              go_wp2_with fail
              go_region_held3 (fun _ => True) (exact trivial) ((refine step_pushh rfl (.tmp 78) (.tmp 88) rfl wr' wq.heap.size _ g p y rfl hown.out rfl HB.out.size (by omega) ?_; intro v3 w3 hown3 hb3))
              all_goals
                obtain ⟨A3, c3, hv3, _⟩ := Rd.own hown3
                have hl3 : (g ++ [(p, y)]).length = j + 1 := by rw [List.length_append, hln]; rfl
                rw [hl3] at hv3
                have HV := Lib.hid hv3
                clear hv3 hl3
                go_wp2_with fail
                go_roundw
                case rel => exact ⟨j + 1, A3, c3, by omega, by go_num, HV.out, by rw [hnx.out]; exact hown3, HB.out.trans hb3⟩
                case measure => simp [intOf]; omega
            · obtain ⟨A', c', e', hc', _, _⟩ := hown.out.hs
              injection e' with e1' e2' e3'
              subst e3' e1'
              rw [nL_len] at hc' e2'
              have i4 : (16 : Int) ≤ c2 := by omega
              have i5 : (16 : Int) ≤ j := by omega
              have H17 := Lib.hid (show Hs wr (.slice A2 j c2) (nL 17) by rw [show (17 : Nat) = j by omega]; exact hown.out.hs)
              have H16 := Lib.hid (show Hs wr (.slice A2 16 c2) (nL 16) by have := H17.out.take 16 (by rw [nL_len]; omega); rw [nL_take] at this; exact this)
              have i3 : ¬ ((j : Int) < 17) := by omega
              have BI := Lib.hid (BQ.out.trans (hb.mono BQ.out.size))
              clear hc' e2' hown hb hj hlt BQ
              obtain ⟨w3, rfl⟩ : ∃ w3 : World, w3 = wr := ⟨_, rfl⟩
              have ca := Lib.hid (set_any _ (nL 16) [110, 101, 119] [49] w3 H16.out (nL_sm 16 (by omega)) (by decide) (by decide))
              rw [set_new] at ca
              go_wp2_with fail
              refine ca.out.mono ?_
              rintro e w4 ⟨v4, rfl, _, b4⟩
              have H17 := Lib.hid (H17.out.below b4)
              have H16 := Lib.hid (H16.out.below b4)
              have BI := Lib.hid (BI.out.trans (b4.mono BI.out.size))
              clear b4 ca
              have ca := Lib.hid (set_any _ (nL 16) [78, 65, 65] [49] w4 H16.out (nL_sm 16 (by omega)) (by decide) (by decide))
              rw [set_naa.1] at ca
              go_wp2_with fail
              refine ca.out.mono ?_
              rintro e w5 ⟨v5, rfl, h5, b5⟩
              obtain ⟨A5, c5, rfl, _, _, _⟩ := h5.hs
              rw [set_naa.2]
              have H17 := Lib.hid (H17.out.below b5)
              have H16 := Lib.hid (H16.out.below b5)
              have BI := Lib.hid (BI.out.trans (b5.mono BI.out.size))
              clear b5 ca h5
              go_upto_region 19 with fail
              go_cut [11] from 102 to 155 (fun u wx => u = .bool true ∧ Hid (Hs wx (.slice A2 j c2) (nL 17)) ∧ Hid (Below w.heap.size w wx))
              case first =>
                have C1 := Lib.hid fun W (h : Hid (Hs W (.slice A2 j c2) (nL 17))) => check_any _ _ W h.out (nL_sm 17 (by omega))
                have C2 := Lib.hid fun W (h : Hid (Hs W (.slice A2 16 c2) (nL 16))) => check_any _ _ W h.out (nL_sm 16 (by omega))
                rw [chk_17] at C1
                rw [chk_16] at C2
                obtain ⟨A30, h30⟩ : ∃ A : ByteArray, aL 30 = A := ⟨_, rfl⟩
                obtain ⟨A31, h31⟩ : ∃ A : ByteArray, aL 31 = A := ⟨_, rfl⟩
                obtain ⟨A200, h200⟩ : ∃ A : ByteArray, aL 200 = A := ⟨_, rfl⟩
                obtain ⟨A201, h201⟩ : ∃ A : ByteArray, aL 201 = A := ⟨_, rfl⟩
                have C3 := Lib.hid fun W => chk_arm W (List.replicate 30 97) (List.replicate 200 97) (by simp) (by simp) 0 chk_ends A30 A200 h30 h200
                have C4 := Lib.hid fun W => chk_arm W (List.replicate 31 97) [] (by simp) (by simp) 40 chk_31 A31 ⟨#[]⟩ h31 rfl
                have C5 := Lib.hid fun W => chk_arm W [97] (List.replicate 201 97) (by simp) (by simp) 40 chk_201 ⟨#[97]⟩ A201 rfl h201
                have C6 := Lib.hid fun W => chk_arm W [] [] (by simp) (by simp) 40 chk_none ⟨#[]⟩ ⟨#[]⟩ rfl rfl
                have e30 : Lg.extract 0 30 = A30 := by rw [← HL.out, ← h30]; exact aL_cut 250 30 (by omega)
                have e31 : Lg.extract 0 31 = A31 := by rw [← HL.out, ← h31]; exact aL_cut 250 31 (by omega)
                have e200 : Lg.extract 0 200 = A200 := by rw [← HL.out, ← h200]; exact aL_cut 250 200 (by omega)
                have e201 : Lg.extract 0 201 = A201 := by rw [← HL.out, ← h201]; exact aL_cut 250 201 (by omega)
                have l1 : (30 : Int) ≤ (Lg.size : Int) := by omega
                have l2 : (31 : Int) ≤ (Lg.size : Int) := by omega
                have l3 : (200 : Int) ≤ (Lg.size : Int) := by omega
                have l4 : (201 : Int) ≤ (Lg.size : Int) := by omega
                have HLd := Lib.hid (Hs.drew H17.out)
                have HMd := Lib.hid (Hs.drew H16.out)
                have HBd : Hid (Below w.heap.size w w5.drew) := below_drewN BI.out 1
                clear h30 h31 h200 h201 H17 H16 BI
                go_wp2_with fail
                go_region_held3 (fun _ => True) (exact trivial)
                  ((first
                    | (go_at_call 14; have q6 := M5; with_reducible refine Calls.mono (C6.out _) ?_; rintro e wf ⟨rfl, hbf⟩; have HLf := Lib.hid (Hs.below (v := .slice A2 j c2) (l := nL 17) (Hid.out (by assumption)) hbf); have HMf := Lib.hid (Hs.below (v := .slice A2 16 c2) (l := nL 16) (Hid.out (by assumption)) hbf); have HBf := Lib.hid (below_next (B := w.heap.size) (a := w) (Hid.out (by assumption)) (Nat.le_refl _) hbf))
                    | (go_at_call 14; have q5 := M4; with_reducible refine Calls.mono (C5.out _) ?_; rintro e we5 ⟨rfl, hbe5⟩; have HLe5 := Lib.hid (Hs.below (v := .slice A2 j c2) (l := nL 17) (Hid.out (by assumption)) hbe5); have HMe5 := Lib.hid (Hs.below (v := .slice A2 16 c2) (l := nL 16) (Hid.out (by assumption)) hbe5); have HBe5 := Lib.hid (below_next (B := w.heap.size) (a := w) (Hid.out (by assumption)) (Nat.le_refl _) hbe5); have M5 := True.intro)
                    | (go_at_call 14; have q4 := M3; with_reducible refine Calls.mono (C4.out _) ?_; rintro e wd ⟨rfl, hbd⟩; have HLd := Lib.hid (Hs.below (v := .slice A2 j c2) (l := nL 17) (Hid.out (by assumption)) hbd); have HMd := Lib.hid (Hs.below (v := .slice A2 16 c2) (l := nL 16) (Hid.out (by assumption)) hbd); have HBd := Lib.hid (below_next (B := w.heap.size) (a := w) (Hid.out (by assumption)) (Nat.le_refl _) hbd); have M4 := True.intro)
                    | (go_at_call 14; have q3 := M2; with_reducible refine Calls.mono (C3.out _) ?_; rintro e wc ⟨rfl, hbc⟩; have HLc := Lib.hid (Hs.below (v := .slice A2 j c2) (l := nL 17) (Hid.out (by assumption)) hbc); have HMc := Lib.hid (Hs.below (v := .slice A2 16 c2) (l := nL 16) (Hid.out (by assumption)) hbc); have HBc := Lib.hid (below_next (B := w.heap.size) (a := w) (Hid.out (by assumption)) (Nat.le_refl _) hbc); have M3 := True.intro)
                    | (go_at_call 14; have q2 := M1; with_reducible refine Calls.mono (C2.out _ (by assumption)) ?_; rintro e wb ⟨rfl, hbb⟩; have HLb := Lib.hid (Hs.below (v := .slice A2 j c2) (l := nL 17) (Hid.out (by assumption)) hbb); have HMb := Lib.hid (Hs.below (v := .slice A2 16 c2) (l := nL 16) (Hid.out (by assumption)) hbb); have HBb := Lib.hid (below_next (B := w.heap.size) (a := w) (Hid.out (by assumption)) (Nat.le_refl _) hbb); have M2 := True.intro)
                    | (go_at_call 14; with_reducible refine Calls.mono (C1.out _ (by assumption)) ?_; rintro e wa ⟨rfl, hba⟩; have HLa := Lib.hid (Hs.below (v := .slice A2 j c2) (l := nL 17) (Hid.out (by assumption)) hba); have HMa := Lib.hid (Hs.below (v := .slice A2 16 c2) (l := nL 16) (Hid.out (by assumption)) hba); have HBa := Lib.hid (below_next (B := w.heap.size) (a := w) (Hid.out (by assumption)) (Nat.le_refl _) hba); have M1 := True.intro)))
                all_goals (go_wp2_with fail; go_meet; case rel => exact ⟨rfl, by assumption, by assumption⟩)
              case rest =>
                obtain ⟨rfl, H17b, BIb⟩ := hcut
                clear H17 H16 BI
                obtain ⟨A200, h200⟩ : ∃ A : ByteArray, aL 200 = A := ⟨_, rfl⟩
                obtain ⟨A60, h60⟩ : ∃ A : ByteArray, aL 60 = A := ⟨_, rfl⟩
                have e200 : Lg.extract 0 200 = A200 := by rw [← HL.out, ← h200]; exact aL_cut 250 200 (by omega)
                have e60 : Lg.extract 0 60 = A60 := by rw [← HL.out, ← h60]; exact aL_cut 250 60 (by omega)
                have z200 : A200.size = 200 := by rw [← h200]; exact aL_size 200
                have z60 : A60.size = 60 := by rw [← h60]; exact aL_size 60
                have l1 : (200 : Int) ≤ (Lg.size : Int) := by omega
                have l2 : (60 : Int) ≤ (Lg.size : Int) := by omega
                obtain ⟨B1, hB1⟩ : ∃ A : ByteArray, (⟨#[97, 58]⟩ : ByteArray) ++ A200 = A := ⟨_, rfl⟩
                have zB1 : B1.size = 202 := by rw [← hB1, ByteArray.size_append, z200]; rfl
                obtain ⟨B2, hB2⟩ : ∃ A : ByteArray, B1 ++ ⟨#[32, 32, 32, 32, 32, 32, 32, 32, 32, 32, 32, 32, 32, 32, 32, 32, 32, 32, 32, 32, 32, 32, 32, 32, 32, 32, 32, 32, 32, 32, 32, 32, 32, 32, 32, 32, 32, 32, 32, 32, 32, 32, 32, 32, 32, 32, 32, 32, 32, 32, 32, 32, 32, 32, 32, 32, 32, 32, 32, 32, 32, 32, 32, 32, 32, 32]⟩ = A := ⟨_, rfl⟩
                obtain ⟨B3, hB3⟩ : ∃ A : ByteArray, (⟨#[97, 58]⟩ : ByteArray) ++ Lg = A := ⟨_, rfl⟩
                have zB3 : B3.size = 252 := by rw [← hB3, ByteArray.size_append, hls]; rfl
                obtain ⟨B4, hB4⟩ : ∃ A : ByteArray, B3 ++ A60 = A := ⟨_, rfl⟩
                obtain ⟨B5, hB5⟩ : ∃ A : ByteArray, B1 ++ ⟨#[32, 9, 32]⟩ = A := ⟨_, rfl⟩
                have zB5 : B5.size = 205 := by rw [← hB5, ByteArray.size_append, zB1]; rfl
                have a1 := sum_run ⟨#[97, 58]⟩ A200 (by rw [z200]; show 2 + 200 ≤ _; omega)
                have a2 := sum_run B1 ⟨#[32, 32, 32, 32, 32, 32, 32, 32, 32, 32, 32, 32, 32, 32, 32, 32, 32, 32, 32, 32, 32, 32, 32, 32, 32, 32, 32, 32, 32, 32, 32, 32, 32, 32, 32, 32, 32, 32, 32, 32, 32, 32, 32, 32, 32, 32, 32, 32, 32, 32, 32, 32, 32, 32, 32, 32, 32, 32, 32, 32, 32, 32, 32, 32, 32, 32]⟩ (by rw [zB1]; show 202 + 66 ≤ _; omega)
                have a3 := sum_run ⟨#[97, 58]⟩ Lg (by rw [hls]; show 2 + 250 ≤ _; omega)
                have a4 := sum_run B3 A60 (by omega)
                have a5 := sum_run B1 ⟨#[32, 9, 32]⟩ (by rw [zB1]; show 202 + 3 ≤ _; omega)
                rw [hB1] at a1
                rw [hB2] at a2
                rw [hB3] at a3
                rw [hB4] at a4
                rw [hB5] at a5
                have C1 := Lib.hid fun W => line_two W A200 h200 B2 (by rw [← hB2, ← hB1])
                have C2 := Lib.hid fun W => wrong_two W A60 h60 Lg HL.out B4 (by rw [← hB4, ← hB3])
                have C3 := Lib.hid (lines_b B5 (by omega))
                have C4 := Lib.hid (lines_b ⟨#[]⟩ (by show 0 ≤ _; omega))
                have C5 := Lib.hid (lines_b ⟨#[58]⟩ (by show 1 ≤ _; omega))
                have C6 := Lib.hid fun W (h : Hid (Hs W (.slice A2 j c2) (nL 17))) => strip_any _ _ [] W h.out (nL_sm 17 (by omega)) (by decide)
                rw [strip_all] at C6
                have C7 := Lib.hid same_none
                clear hB1 hB2 hB3 hB4 hB5 zB1 zB3 zB5 z200 z60 h200 h60
                have HLd := Lib.hid (Hs.drew H17b.out)
                have HBd : Hid (Below w.heap.size w wc.drew) := below_drewN BIb.out 1
                clear H17b BIb
                go_wp2_with fail
                go_upto_region 20 with fail
                go_cut [12] from 156 to 193 (fun u wx => u = .bool true ∧ Hid (Below w.heap.size w wx))
                case first =>
                  go_wp2_with fail
                  go_region_held3 (fun _ => True) (exact trivial)
                    ((first
                      | (go_at_call 37; refine Calls.mono (C1.out _) ?_; rintro e wa ⟨rfl, hba⟩; have HLa := Lib.hid (Hs.below (v := .slice A2 j c2) (l := nL 17) (Hid.out (by assumption)) hba); have HBa := Lib.hid (below_next (B := w.heap.size) (a := w) (Hid.out (by assumption)) (Nat.le_refl _) hba))
                      | (go_at_call 38; refine Calls.mono (C2.out _) ?_; rintro e wb ⟨rfl, hbb⟩; have HLb := Lib.hid (Hs.below (v := .slice A2 j c2) (l := nL 17) (Hid.out (by assumption)) hbb); have HBb := Lib.hid (below_next (B := w.heap.size) (a := w) (Hid.out (by assumption)) (Nat.le_refl _) hbb); have M2 := True.intro)
                      | (go_at_call 5; have q5 := M4; with_reducible refine Calls.mono (C5.out _) ?_; rintro e we5 ⟨rfl, hbe5⟩; have HLe5 := Lib.hid (Hs.below (v := .slice A2 j c2) (l := nL 17) (Hid.out (by assumption)) hbe5); have HBe5 := Lib.hid (below_next (B := w.heap.size) (a := w) (Hid.out (by assumption)) (Nat.le_refl _) hbe5))
                      | (go_at_call 5; have q4 := M3; with_reducible refine Calls.mono (C4.out _) ?_; rintro e wd ⟨rfl, hbd⟩; have HLd := Lib.hid (Hs.below (v := .slice A2 j c2) (l := nL 17) (Hid.out (by assumption)) hbd); have HBd := Lib.hid (below_next (B := w.heap.size) (a := w) (Hid.out (by assumption)) (Nat.le_refl _) hbd); have M4 := True.intro)
                      | (go_at_call 5; with_reducible refine Calls.mono (C3.out _) ?_; rintro e wc ⟨rfl, hbc⟩; have HLc := Lib.hid (Hs.below (v := .slice A2 j c2) (l := nL 17) (Hid.out (by assumption)) hbc); have HBc := Lib.hid (below_next (B := w.heap.size) (a := w) (Hid.out (by assumption)) (Nat.le_refl _) hbc); have M3 := True.intro)
                      | (go_at_call 24; refine Calls.mono (C6.out _ (by assumption)) ?_; rintro e wf ⟨uf, rfl, huf, hbf⟩; obtain ⟨Af, cf, rfl, _, _, _⟩ := huf.hs; clear huf; have HLf := Lib.hid (Hs.below (v := .slice A2 j c2) (l := nL 17) (Hid.out (by assumption)) hbf); have HBf := Lib.hid (below_next (B := w.heap.size) (a := w) (Hid.out (by assumption)) (Nat.le_refl _) hbf))
                      | (go_at_call 20; refine Calls.mono (C7.out _) ?_; rintro e wg ⟨rfl, hbg⟩; have HLg := Lib.hid (Hs.below (v := .slice A2 j c2) (l := nL 17) (Hid.out (by assumption)) hbg); have HBg := Lib.hid (below_next (B := w.heap.size) (a := w) (Hid.out (by assumption)) (Nat.le_refl _) hbg))))
                  all_goals (go_wp2_with fail; go_meet; case rel => exact ⟨rfl, by assumption⟩)
                case rest =>
                  obtain ⟨rfl, BIc⟩ := hcut
                  clear a1 a2 a3 a4 a5 C1 C2 C3 C4 C5 C6 C7 e200 e60 l1 l2 HLd HBd HL hls
                  have cw := Lib.hid works_any
                  have cl := Lib.hid fun w => lower_anyL [65, 90, 97, 122, 48, 57, 91] (by decide) [97, 122, 97, 122, 48, 57, 91] (by decide) w
                  have ce := Lib.hid fun W x => texts_one W x
                  go_wp2_with fail
                  refine (cw.out _).mono ?_
                  rintro e w7 ⟨rfl, b7⟩
                  have B7 := Lib.hid (below_next BIc.out (Nat.le_refl _) b7)
                  clear b7 BIc
                  go_wp2_with fail
                  refine (cl.out _).mono ?_
                  rintro e w8 ⟨rfl, b8⟩
                  have B8 := Lib.hid (below_next B7.out (Nat.le_refl _) b8)
                  clear b8 B7
                  go_wp2_with fail
                  refine (ce.out w8 _).mono ?_
                  rintro e w9 ⟨rfl, b9⟩
                  have B9 := Lib.hid (below_next B8.out (Nat.le_refl _) b9)
                  clear b9 B8
                  go_wp2_with fail
                  go_ret
                  exact ⟨ret_bool rfl, B9.out⟩
end Go.Proofs.YtfiioojnmjnmmaaDoor
