/- HelloNames: the bytes. HelloNames. -/
import Derived.Test.YtiakbmllpnabnaaGreatDoorKzg
import Derived.Deep.CutBlock
namespace Go.Proofs.YtiakbmllpnabnaaGreatDoor
open Go Go.RowKit

def hB : Nat → List UInt8
  | 0 => [97]
  | 1 => [115, 104, 111, 112, 46, 101, 120, 97, 109, 112, 108, 101, 46, 111, 114, 103]
  | 2 => [120, 45, 49, 46, 98]
  | 3 => [48, 46, 48, 46, 48, 46, 49]
  | _ => [97, 98, 99, 100, 101, 102, 103, 104, 105, 106, 107, 108, 109, 110, 111, 112, 113, 114, 115, 116, 46, 122]
def nameB (h : List UInt8) : List UInt8 := [0, 0, UInt8.ofNat h.length] ++ h
def extN (L : List UInt8) : List UInt8 := [0, 0, 0, UInt8.ofNat (L.length + 2), 0, UInt8.ofNat L.length] ++ L
def bodN (L : List UInt8) : List UInt8 := [3, 3] ++ List.replicate 33 0 ++ [0, 2, 19, 1, 1, 0, 0, UInt8.ofNat (extN L).length] ++ extN L
def recN (L : List UInt8) : List UInt8 := [22, 3, 1, 0, UInt8.ofNat ((bodN L).length + 4), 1, 0, 0, UInt8.ofNat (bodN L).length] ++ bodN L
def listN (h : List UInt8) (how kind : Nat) : List UInt8 := match how with
  | 0 => []
  | 1 => nameB h ++ nameB h
  | 2 => (nameB h).set 0 (UInt8.ofNat (1 + kind))
  | 3 => [0, 0, 0]
  | _ => (nameB h).set 2 (UInt8.ofNat (h.length - 1))
theorem names_all : ((List.range 5).all fun k => (List.range 5).all fun how => (if how = 2 then List.range 255 else [0]).all fun kind => sniB (recN (listN (hB k) how kind)) [] 70) = true := by kernel_rfl
theorem listN_kind (h : List UInt8) (how kind : Nat) (hk : how ≠ 2) : listN h how kind = listN h how 0 := by
  unfold listN
  split <;> first | rfl | exact absurd rfl hk
theorem names_no {k how kind : Nat} (h1 : k < 5) (h2 : how < 5) (h3 : kind < 255) : sniB (recN (listN (hB k) how kind)) [] 70 = true := by
  have h := names_all
  rw [List.all_eq_true] at h
  have h := h k (List.mem_range.2 h1)
  rw [List.all_eq_true] at h
  have h := h how (List.mem_range.2 h2)
  rw [List.all_eq_true] at h
  by_cases e : how = 2
  · rw [if_pos e] at h; exact h kind (List.mem_range.2 h3)
  · rw [if_neg e] at h
    rw [listN_kind _ _ _ e]
    exact h 0 (List.mem_singleton.2 rfl)
theorem hB_len : ∀ k, k < 5 → 1 ≤ (hB k).length ∧ (hB k).length ≤ 22
  | 0, _ => by decide
  | 1, _ => by decide
  | 2, _ => by decide
  | 3, _ => by decide
  | 4, _ => by decide
  | k + 5, h => absurd h (by omega)
set_option maxRecDepth 100000 in
theorem hosts_any (w : World) : Calls Tryz.prog 25 #[] w fun e w' => e = .returned (.slice (some ⟨w.heap.size, 0, none⟩) 5 5) ∧ Below w.heap.size w w' ∧ ∀ k, k < 5 → w'.cell? ⟨w.heap.size, k, none⟩ = some (.string ⟨(hB k).toArray⟩) := by
  go_enter Tryz.func25, Tryz.ntmps25
  go_wp2_with fail
  go_ret
  refine ⟨rfl, below_new _ _, fun k hk => ?_⟩
  rw [World.cell?_alloc_at _ _ _ _ rfl]
  match k, hk with
  | 0, _ => rfl
  | 1, _ => rfl
  | 2, _ => rfl
  | 3, _ => rfl
  | 4, _ => rfl
  | k + 5, h => exact absurd h (by omega)
end Go.Proofs.YtiakbmllpnabnaaGreatDoor
namespace Go.Proofs.YtiakbmllpnabnaaGreatDoor
open Go Go.RowKit

theorem u8wrap (a : Nat) (h : a < 256) : IntKind.u8.wrap (a : Int) = a := by
  rw [show IntKind.u8.wrap (a : Int) = (a : Int) % 256 from by simp [IntKind.wrap, IntKind.bits, IntKind.signed]]
  omega
theorem listN_len (h : List UInt8) (hl : h.length ≤ 22) (m q : Nat) : (listN h m q).length ≤ 50 := by
  have hn : (nameB h).length = 3 + h.length := by unfold nameB; rw [List.length_append]; rfl
  unfold listN
  split
  · exact Nat.zero_le _
  · rw [List.length_append, hn]; omega
  · rw [List.length_set, hn]; omega
  · exact (by decide : 3 ≤ 50)
  · rw [List.length_set, hn]; omega
set_option maxRecDepth 100000 in
set_option maxHeartbeats 1000000 in
theorem helloNames_any (w : World) (hG : Gl w) (which how kind : Int) : Calls Tryz.prog 8 #[.int .i64 which, .int .i64 how, .int .i64 kind] w (BoolP true w) := by
  have a0 := Int.emod_nonneg which (show (5 : Int) ≠ 0 by decide)
  have a1 := Int.emod_lt_of_pos which (show (0 : Int) < 5 by decide)
  have b0 := Int.emod_nonneg how (show (5 : Int) ≠ 0 by decide)
  have b1 := Int.emod_lt_of_pos how (show (0 : Int) < 5 by decide)
  have c0 := Int.emod_nonneg kind (show (255 : Int) ≠ 0 by decide)
  have c1 := Int.emod_lt_of_pos kind (show (0 : Int) < 255 by decide)
  obtain ⟨k, hk⟩ : ∃ k : Nat, which % 5 = (k : Int) := ⟨(which % 5).toNat, by omega⟩
  obtain ⟨m, hm⟩ : ∃ m : Nat, how % 5 = (m : Int) := ⟨(how % 5).toNat, by omega⟩
  obtain ⟨q, hq⟩ : ∃ q : Nat, kind % 255 = (q : Int) := ⟨(kind % 255).toNat, by omega⟩
  have hk5 : k < 5 := by omega
  have hm5 : m < 5 := by omega
  have hq5 : q < 255 := by omega
  have B1 : Hid (∀ w, Calls Tryz.prog 21 #[.int .i64 which, .int .i64 5] w fun e w' => e = .returned (.int .i64 (k : Int)) ∧ w = w') := Lib.hid fun w => by
    have := bring_any which 5 w (by decide) (by decide)
    rwa [hk] at this
  have B2 : Hid (∀ w, Calls Tryz.prog 21 #[.int .i64 how, .int .i64 5] w fun e w' => e = .returned (.int .i64 (m : Int)) ∧ w = w') := Lib.hid fun w => by
    have := bring_any how 5 w (by decide) (by decide)
    rwa [hm] at this
  have B3 : Hid (∀ w, Calls Tryz.prog 21 #[.int .i64 kind, .int .i64 255] w fun e w' => e = .returned (.int .i64 (q : Int)) ∧ w = w') := Lib.hid fun w => by
    have := bring_any kind 255 w (by decide) (by decide)
    rwa [hq] at this
  have NO := Lib.hid (names_no hk5 hm5 hq5)
  have HQ := Lib.hid hq5
  have HM := Lib.hid hm5
  have HG := Lib.hid hG
  have HL := Lib.hid (hB_len k hk5)
  have HK := Lib.hid hk5
  have q0 : (0 : Int) ≤ (k : Int) := by omega
  have q1 : (k : Int) < 5 := by omega
  clear a0 a1 b0 b1 c0 c1 hk hm hq hk5 hm5 hq5 hG
  go_enter Tryz.func8, Tryz.ntmps8
  go_upto_region 2 with (first
    | (go_at_call 25; refine (hosts_any w).mono ?_; rintro e w1 ⟨rfl, hb, hc⟩; have BH := Lib.hid hb; have d0 := hc k HK.out; clear hb hc)
    | (go_at_call 21; refine (B1.out _).mono ?_; rintro e w' ⟨rfl, rfl⟩))
  clear d0 q0 q1 B1
  generalize hB k = h at *
  obtain ⟨l1, l2⟩ := HL.out
  have BW := Lib.hid BH.out
  have u8 : IntKind.u8.wrap (h.length : Int) = h.length := by rw [show IntKind.u8.wrap (h.length : Int) = (h.length : Int) % 256 from by simp [IntKind.wrap, IntKind.bits, IntKind.signed]]; omega
  have u9 : (h.length : Int) % 256 = h.length := by omega
  have hn : (h.length : Int) = ((UInt8.ofNat h.length).toNat : Int) := by rw [UInt8.toNat_ofNat']; omega
  have hR0 := rowG_three w1 w1.heap.size 0 0 (h.length : Int) 0 0 (UInt8.ofNat h.length) rfl rfl hn (Nat.le_refl _)
  have hb0 := below_new w1 (.cells #[.int .u8 0, .int .u8 0, .int .u8 h.length] 5)
  have hz0 : (w1.alloc (.cells #[.int .u8 0, .int .u8 0, .int .u8 h.length] 5)).heap.size = w1.heap.size + 1 := by simp
  have hr1 := conv_rowG (w1.alloc (.cells #[.int .u8 0, .int .u8 0, .int .u8 h.length] 5)) h (by omega)
  have hb1 := bytesWorld_below (w1.alloc (.cells #[.int .u8 0, .int .u8 0, .int .u8 h.length] 5)) ⟨h.toArray⟩
  have hcv := bytes_conv (w1.alloc (.cells #[.int .u8 0, .int .u8 0, .int .u8 h.length] 5)) ⟨h.toArray⟩
  rw [mk_size] at hcv
  have R2 := Lib.hid (hR0.below hb1)
  have E2 := Lib.hid (Below.and hb0 hb1)
  generalize grownCap (w1.alloc (.cells #[.int .u8 0, .int .u8 0, .int .u8 h.length] 5)) h.length 0 5 = gc at *
  generalize Lib.bytesWorld (w1.alloc (.cells #[.int .u8 0, .int .u8 0, .int .u8 h.length] 5)) 5 ⟨h.toArray⟩ = w2 at *
  rw [hz0] at hcv hr1
  have SR := Lib.hid (src_rb hr1.rb)
  clear hR0 hb0 hz0 hr1 hb1 hn
  go_wp2_with (at_builtin; refine wpList_pushG rfl (.tmp 21) (.tmp 23) 22 rfl _ w1.heap.size (some ⟨w1.heap.size, 0, none⟩) 3 3 h.length [0, 0, UInt8.ofNat h.length] h _ rfl rfl rfl rfl R2.out SR.out E2.out.size (by omega) ?_; intro A3 c3 w3 hr3 hb3 _; have R3 := Lib.hid hr3; have E3 := Lib.hid (E2.out.trans hb3); clear hr3 hb3)
  have CC := Lib.hid (copyB_any (n := 3 + h.length) R3.out.rb (by rw [List.length_append]; rfl) (by rw [List.length_append]; show 3 + h.length ≤ _; omega))
  refine CC.out.mono ?_
  rintro e w4 ⟨A4, c4, rfl, hr4, hb4⟩
  have R4 : Hid (RowG w4 w1.heap.size A4 c4 (nameB h)) := Lib.hid (hr4.up E3.out.size)
  have R3' : Hid (RowG w4 w1.heap.size A3 c3 (nameB h)) := Lib.hid (R3.out.below hb4)
  have N34 : Hid (∀ g, A4 = some ⟨g, 0, none⟩ → w3.heap.size ≤ g) := Lib.hid fun g e => (hr4.lt e).1
  have BX := Lib.hid (BW.out.trans ((E3.out.trans (hb4.mono E3.out.size)).mono BW.out.size))
  have hnl : ([0, 0, UInt8.ofNat h.length] ++ h).length = 3 + h.length := by rw [List.length_append]; rfl
  rw [hnl]
  have HNL : Hid ((nameB h).length = 3 + h.length) := Lib.hid hnl
  clear hr4 hb4 CC R3 E3 R2 E2 SR hnl BW hcv u8 u9
  go_upto_block 0 with (go_at_call 21; refine (B2.out _).mono ?_; rintro e w' ⟨rfl, rfl⟩)
  go_cut [9] from 29 to 52 (fun v wx => ∃ (A : Option Addr) (c : Nat), v = .slice A (listN h m q).length c ∧ Hid (RowG wx w1.heap.size A c (listN h m q)) ∧ Hid (Below w.heap.size w wx))
  case first =>
    obtain ⟨g4, rfl⟩ := R4.out.some' (by rw [HNL.out]; omega)
    have hg4 : w.heap.size ≤ g4 := Nat.le_trans BH.out.size (R4.out.lt rfl).1
    have hm := HM.out
    have hm' : m = 0 ∨ m = 1 ∨ m = 2 ∨ m = 3 ∨ m = 4 := by omega
    clear hm
    rcases hm' with rfl | rfl | rfl | rfl | rfl
    · go_wp2_with fail
      go_meet
      case rel => exact ⟨none, 0, rfl, Lib.hid (RowG.nil _ _), BX⟩
    · have SR := Lib.hid (src_rb R3'.out.rb)
      rw [HNL.out] at SR
      go_wp2_with (at_builtin; refine wpList_pushG rfl (.tmp 39) (.tmp 40) 22 rfl _ w1.heap.size (some ⟨g4, 0, none⟩) c4 (3 + h.length) (3 + h.length) (nameB h) (nameB h) _ HNL.out HNL.out rfl rfl R4.out (by rw [HNL.out]; exact SR.out) (Nat.le_trans (R4.out.lt rfl).1 (Nat.le_of_lt (R4.out.lt rfl).2)) (by omega) ?_; intro A5 c5 w5 hr5 hb5 _; have R5 := Lib.hid hr5; have B5 := Lib.hid (BX.out.trans (hb5.mono BH.out.size)); clear hr5 hb5)
      go_meet
      case rel => exact ⟨A5, c5, by show _ = Value.slice A5 (nameB h ++ nameB h).length c5; rw [List.length_append, HNL.out], R5, B5⟩
    · have hq := HQ.out
      have v0 : (1 : Int) + q = ((UInt8.ofNat (1 + q)).toNat : Int) := by rw [UInt8.toNat_ofNat']; omega
      obtain ⟨p1, p2, p3⟩ := R4.out.put 0 (by rw [HNL.out]; omega) (UInt8.ofNat (1 + q)) (1 + (q : Int)) v0
      have P1 := Lib.hid p1
      have PB := Lib.hid (BX.out.setCell (p := ⟨g4, 0, none⟩) hg4 (.int .u8 (1 + (q : Int))))
      have v1 : IntKind.u8.wrap (1 + (q : Int)) = 1 + q := by rw [show IntKind.u8.wrap (1 + (q : Int)) = (1 + (q : Int)) % 256 from by simp [IntKind.wrap, IntKind.bits, IntKind.signed]]; omega
      have v2 : (1 + (q : Int)) % 256 = 1 + q := by omega
      have v3 : (0 : Int) < 3 + h.length := by omega
      clear p1 v0
      go_wp2_with (go_at_call 21; refine (B3.out _).mono ?_; rintro e w' ⟨rfl, rfl⟩)
      go_meet
      case rel => exact ⟨some ⟨g4, 0, none⟩, c4, by show _ = Value.slice _ ((nameB h).set 0 _).length c4; rw [List.length_set, HNL.out], P1, PB⟩
    · go_wp2_with fail
      go_meet
      case rel => exact ⟨some ⟨w4.heap.size, 0, none⟩, 3, rfl, Lib.hid (rowG_three w4 w1.heap.size 0 0 0 0 0 0 rfl rfl rfl (Nat.le_trans (R4.out.lt rfl).1 (Nat.le_of_lt (R4.out.lt rfl).2))), Lib.hid (BX.out.trans ((below_new w4 _).mono BX.out.size))⟩
    · have v0 : (h.length : Int) - 1 = ((UInt8.ofNat (h.length - 1)).toNat : Int) := by rw [UInt8.toNat_ofNat']; omega
      obtain ⟨p1, p2, p3⟩ := R4.out.put 2 (by rw [HNL.out]; omega) (UInt8.ofNat (h.length - 1)) ((h.length : Int) - 1) v0
      have p2' : w4.cell? ⟨g4, 2, none⟩ = some (.int .u8 (h.length : Int)) := p2.trans (by
        show some (Value.int .u8 ((UInt8.ofNat h.length).toNat : Int)) = _
        rw [UInt8.toNat_ofNat', Nat.mod_eq_of_lt (by omega)])
      have P1 := Lib.hid p1
      have PB := Lib.hid (BX.out.setCell (p := ⟨g4, 2, none⟩) hg4 (.int .u8 ((h.length : Int) - 1)))
      have v1 : IntKind.u8.wrap ((h.length : Int) - 1) = h.length - 1 := by rw [show IntKind.u8.wrap ((h.length : Int) - 1) = ((h.length : Int) - 1) % 256 from by simp [IntKind.wrap, IntKind.bits, IntKind.signed]]; omega
      have v2 : ((h.length : Int) - 1) % 256 = h.length - 1 := by omega
      have v3 : (2 : Int) < 3 + h.length := by omega
      clear p1 p2 v0
      go_wp2_with fail
      go_meet
      case rel => exact ⟨some ⟨g4, 0, none⟩, c4, by show _ = Value.slice _ ((nameB h).set 2 _).length c4; rw [List.length_set, HNL.out], P1, PB⟩
  case rest =>
    obtain ⟨A9, c9, rfl, R9, B9⟩ := hcut
    have LL := Lib.hid (listN_len h l2 m q)
    clear R4 R3' N34 BX HNL B2 B3 HQ HM
    obtain ⟨L, hL⟩ : ∃ L, L = listN h m q := ⟨_, rfl⟩
    rw [← hL] at NO R9 LL ⊢
    clear hL
    obtain ⟨n, hn⟩ : ∃ n, n = L.length := ⟨_, rfl⟩
    have HN := Lib.hid hn
    rw [← hn] at LL ⊢
    have hn50 : n ≤ 50 := LL.out
    clear hn
    generalize wc = w5 at *
    have R9' : Hid (RowG w5 w1.heap.size A9 c9 L) := R9
    have f1 : IntKind.u8.wrap ((n : Int) + 2) = n + 2 := by have := u8wrap (n + 2) (by omega); simpa using this
    have f2 : IntKind.u8.wrap (n : Int) = n := u8wrap n (by omega)
    have f3 : ((n : Int) + 2) % 256 = n + 2 := by omega
    have f4 : (n : Int) % 256 = n := by omega
    have h6 := rowG_lit w5 w5.heap.size [0, 0, 0, UInt8.ofNat (n + 2), 0, UInt8.ofNat n] [.int .u8 0, .int .u8 0, .int .u8 0, .int .u8 ((n : Int) + 2), .int .u8 0, .int .u8 (n : Int)] (by simp [Lib.byteCells]; omega) (Nat.le_refl _) (by show 6 ≤ 1000000; decide)
    have H6 := Lib.hid h6
    have b6 := below_new w5 (.cells #[.int .u8 0, .int .u8 0, .int .u8 0, .int .u8 ((n : Int) + 2), .int .u8 0, .int .u8 (n : Int)] 5)
    have B6 := Lib.hid b6
    have S6 := src_rb (R9'.out.below b6).rb
    rw [← HN.out] at S6
    have S6 := Lib.hid S6
    have HN' : Hid (L.length = n) := Lib.hid HN.out.symm
    clear h6 b6 R9
    go_upto_region 15 with (at_builtin; refine wpList_pushG rfl (.tmp 60) (.tmp 61) 22 rfl _ w5.heap.size (some ⟨w5.heap.size, 0, none⟩) 6 6 n [0, 0, 0, UInt8.ofNat (n + 2), 0, UInt8.ofNat n] L _ rfl HN'.out rfl rfl H6.out (by rw [HN'.out]; exact S6.out) B6.out.size (by omega) ?_; intro A6 c6 w6 hr6 hb6 _; have R6 := Lib.hid hr6; have B7 := Lib.hid (B9.out.trans ((B6.out.trans hb6).mono B9.out.size)); clear hr6 hb6)
    clear f1 f2 f3 f4 H6 B6 S6 R9' B9
    have l6 : ([0, 0, 0, UInt8.ofNat (n + 2), 0, UInt8.ofNat n] ++ L).length = 6 + n := by rw [List.length_append, HN'.out]; rfl
    obtain ⟨E, hE⟩ : ∃ E, E = [0, 0, 0, UInt8.ofNat (n + 2), 0, UInt8.ofNat n] ++ L := ⟨_, rfl⟩
    rw [← hE] at R6 l6
    have HE := Lib.hid hE
    have HL6 := Lib.hid l6
    clear hE l6
    have Z2 := rowG_lit w6 w6.heap.size [3, 3] [.int .u8 3, .int .u8 3] rfl (Nat.le_refl _) (by decide)
    have HZ2 := Lib.hid Z2
    have BZ := Lib.hid (below_new w6 (.cells #[.int .u8 3, .int .u8 3] 5))
    have R6z := Lib.hid (R6.out.below BZ.out)
    clear Z2
    go_upto_region 16 with (at_builtin; refine wpList_zeros rfl (.tmp 63) (.const (.int .i64 33)) rfl _ w6.heap.size (some ⟨w6.heap.size, 0, none⟩) 2 33 [3, 3] rfl (by decide) (by decide) rfl rfl HZ2.out BZ.out.size (by decide) ?_; intro A7 c7 w7 hr7 hb7 ho7; have R7 := Lib.hid hr7; have E7 := Lib.hid (R6z.out.keep hb7.size fun g e => ho7 g (R6z.out.lt e).2 (fun e2 => by have := (R6.out.lt e).2; cases e2; exact Nat.lt_irrefl _ this)); have B8 := Lib.hid (B7.out.trans ((BZ.out.trans hb7).mono B7.out.size)); have Z67 := Lib.hid (Nat.le_trans BZ.out.size hb7.size); clear hr7 hb7 ho7)
    have HW6 := Lib.hid B7.out.size
    have LT6 : Hid (∀ g, A6 = some ⟨g, 0, none⟩ → g < w6.heap.size) := Lib.hid fun g e => (R6.out.lt e).2
    clear HZ2 BZ R6z R6 B7
    have f1 : IntKind.u8.wrap (6 + (n : Int)) = 6 + n := by have := u8wrap (6 + n) (by omega); simpa using this
    have f2 : (6 + (n : Int)) % 256 = 6 + n := by omega
    have h8 := rowG_lit w7 w7.heap.size [0, 2, 19, 1, 1, 0, 0, UInt8.ofNat (6 + n)] [.int .u8 0, .int .u8 2, .int .u8 19, .int .u8 1, .int .u8 1, .int .u8 0, .int .u8 0, .int .u8 (6 + (n : Int))] (by simp [Lib.byteCells]; omega) (Nat.le_refl _) (by show 8 ≤ 1000000; decide)
    have b8 := below_new w7 (.cells #[.int .u8 0, .int .u8 2, .int .u8 19, .int .u8 1, .int .u8 1, .int .u8 0, .int .u8 0, .int .u8 (6 + (n : Int))] 5)
    have R7' := Lib.hid (R7.out.below b8)
    have E7' := Lib.hid (E7.out.below b8)
    have S8 := Lib.hid (src_rb h8.rb)
    have BB8 := Lib.hid b8
    have N67 : Hid (∀ g, A6 = some ⟨g, 0, none⟩ → A7 ≠ some ⟨g, 0, none⟩) := Lib.hid fun g e e2 => Nat.lt_irrefl _ (Nat.lt_of_lt_of_le (LT6.out g e) (R7.out.lt e2).1)
    clear h8 b8
    go_upto_region 17 with (at_builtin; refine wpList_pushG rfl (.tmp 65) (.tmp 69) 22 rfl _ w6.heap.size A7 c7 35 8 ([3, 3] ++ List.replicate 33 0) [0, 2, 19, 1, 1, 0, 0, UInt8.ofNat (6 + n)] _ rfl rfl rfl rfl R7'.out S8.out (Nat.le_trans Z67.out BB8.out.size) (by decide) ?_; intro A8 c8 w8 hr8 hb8 ho8; have R8 := Lib.hid hr8; have E8 := Lib.hid (E7'.out.keep hb8.size fun g e => ho8 g (E7'.out.lt e).2 (N67.out g e)); have B9 := Lib.hid (B8.out.trans ((BB8.out.mono B8.out.size).trans (hb8.mono HW6.out))); clear hr8 hb8 ho8)
    clear f1 f2 R7 R7' E7 E7' S8 B8 Z67 BB8 N67
    have SE := src_rb E8.out.rb
    rw [HL6.out] at SE
    have SE := Lib.hid SE
    have HW8 := Lib.hid B9.out.size
    have L8 : Hid (w6.heap.size ≤ w8.heap.size) := Lib.hid (by
      obtain ⟨g, e⟩ := R8.out.some' (by rw [List.length_append]; show 0 < 35 + 8; decide)
      exact Nat.le_trans (R8.out.lt e).1 (Nat.le_of_lt (R8.out.lt e).2))
    go_upto_region 18 with (at_builtin; refine wpList_pushG rfl (.tmp 71) (.tmp 72) 22 rfl _ w6.heap.size A8 c8 43 (6 + n) ([3, 3] ++ List.replicate 33 0 ++ [0, 2, 19, 1, 1, 0, 0, UInt8.ofNat (6 + n)]) E _ rfl HL6.out rfl rfl R8.out (by rw [HL6.out]; exact SE.out) L8.out (by omega) ?_; intro A10 c10 w10 hr10 hb10 _; have R10 := Lib.hid hr10; have B10 := Lib.hid (B9.out.trans (hb10.mono HW6.out)); clear hr10 hb10)
    clear SE HW8 L8 R8 E8 B9
    have lb : ([3, 3] ++ List.replicate 33 0 ++ [0, 2, 19, 1, 1, 0, 0, UInt8.ofNat (6 + n)] ++ E).length = 43 + (6 + n) := by rw [List.length_append, HL6.out]; rfl
    have HBD : Hid ([3, 3] ++ List.replicate 33 0 ++ [0, 2, 19, 1, 1, 0, 0, UInt8.ofNat (6 + n)] ++ E = bodN L) := Lib.hid (by rw [HE.out]; unfold bodN extN; rw [List.length_append, HN'.out]; rfl)
    rw [HBD.out] at R10 lb
    obtain ⟨nb, hnb⟩ : ∃ x, x = 43 + (6 + n) := ⟨_, rfl⟩
    rw [← hnb] at lb ⊢
    have hnb1 : nb ≤ 99 := by omega
    have HLB := Lib.hid lb
    clear lb hnb HBD
    have f1 : IntKind.u8.wrap ((nb : Int) + 4) = nb + 4 := by have := u8wrap (nb + 4) (by omega); simpa using this
    have f2 : IntKind.u8.wrap (nb : Int) = nb := u8wrap nb (by omega)
    have f3 : ((nb : Int) + 4) % 256 = nb + 4 := by omega
    have f4 : (nb : Int) % 256 = nb := by omega
    have h9 := rowG_lit w10 w10.heap.size [22, 3, 1, 0, UInt8.ofNat (nb + 4), 1, 0, 0, UInt8.ofNat nb] [.int .u8 22, .int .u8 3, .int .u8 1, .int .u8 0, .int .u8 ((nb : Int) + 4), .int .u8 1, .int .u8 0, .int .u8 0, .int .u8 (nb : Int)] (by simp [Lib.byteCells]; omega) (Nat.le_refl _) (by show 9 ≤ 1000000; decide)
    have b9 := below_new w10 (.cells #[.int .u8 22, .int .u8 3, .int .u8 1, .int .u8 0, .int .u8 ((nb : Int) + 4), .int .u8 1, .int .u8 0, .int .u8 0, .int .u8 (nb : Int)] 5)
    have H9 := Lib.hid h9
    have BB9 := Lib.hid b9
    have S9 := src_rb (R10.out.below b9).rb
    have S9 := Lib.hid S9
    have NO2 : Hid (sniB ([22, 3, 1, 0, UInt8.ofNat (nb + 4), 1, 0, 0, UInt8.ofNat nb] ++ bodN L) [] 70 = true) := Lib.hid (by have := NO.out; unfold recN at this; rw [HLB.out] at this; exact this)
    clear h9 b9
    go_upto_region 19 with (at_builtin; refine wpList_pushG rfl (.tmp 81) (.tmp 82) 22 rfl _ w10.heap.size (some ⟨w10.heap.size, 0, none⟩) 9 9 nb [22, 3, 1, 0, UInt8.ofNat (nb + 4), 1, 0, 0, UInt8.ofNat nb] (bodN L) (.slice A10 nb c10) rfl HLB.out rfl rfl H9.out (by have := S9.out; rw [HLB.out] at this ⊢; exact this) BB9.out.size (by omega) ?_; intro A11 c11 w11 hr11 hb11 _; have R11 := Lib.hid hr11; have B11 := Lib.hid (B10.out.trans ((BB9.out.trans hb11).mono B10.out.size)); clear hr11 hb11)
    clear f1 f2 f3 f4 H9 BB9 S9 R10 B10
    have CS := Lib.hid (wsni HG.out B11.out R11.out.rb (n := 9 + nb) (by rw [List.length_append, HLB.out]; rfl) [] 70 NO2.out (by omega))
    have CW := Lib.hid fun (wx : World) (hb : Below w.heap.size w wx) => works_any wx (HG.out.below hb)
    go_wp2_with fail
    refine CS.out.mono ?_
    rintro e w12 ⟨rfl, hb⟩
    have B12 := Lib.hid (B11.out.trans (hb.mono B11.out.size))
    clear hb CS
    go_wp2_with fail
    refine (CW.out w12 B12.out).mono ?_
    rintro e w13 ⟨rfl, hb⟩
    have B13 := Lib.hid (B12.out.trans (hb.mono B12.out.size))
    clear hb CW
    go_wp2_with fail
    go_ret
    exact ⟨rfl, B13.out⟩
end Go.Proofs.YtiakbmllpnabnaaGreatDoor
