/- HostKnown: the closed statement. -/
import Derived.Test.YtlbafdffmibjoaaDoorGu
import Derived.Deep.RegionHeld3
namespace Go.Proofs.YtlbafdffmibjoaaDoor
open Go Go.RowKit Pl

theorem conv_now (W : World) (y : UInt8) (c : Int) (hc : c = (y.toNat : Int)) : (convert 40 9 (.slice (some ⟨W.heap.size, 0, none⟩) 1 1)).run Tryd.prog (W.alloc (.cells #[.int .u8 c] 5)) = .ok (.string ⟨#[y]⟩) (W.alloc (.cells #[.int .u8 c] 5)) := by
  subst hc
  exact conv_one (by rw [World.cell?_alloc_at _ _ _ _ rfl]; rfl)
/-- texts that a block holds -/
structure Odd (w : World) (g n : Nat) : Prop where
  lt : g < w.heap.size
  cell : ∀ i, i < n → ∃ s : ByteArray, w.cell? ⟨g, i, none⟩ = some (.string s) ∧ s.size ≤ 1000
theorem Odd.below {w w' : World} {g n : Nat} (h : Odd w g n) (hb : Below w.heap.size w w') : Odd w' g n :=
  ⟨Nat.lt_of_lt_of_le h.lt hb.size, fun i hi => by obtain ⟨s, hc, hs⟩ := h.cell i hi; exact ⟨s, (hb.cell (p := ⟨g, i, none⟩) h.lt).trans hc, hs⟩⟩
def AllT : List Value → Prop
  | [] => True
  | v :: l => (∃ s : ByteArray, v = .string s ∧ s.size ≤ 1000) ∧ AllT l
theorem allT_cons {s : ByteArray} {l : List Value} (h : s.size ≤ 1000) (hl : AllT l) : AllT (.string s :: l) := ⟨⟨s, rfl, h⟩, hl⟩
theorem AllT.at : ∀ {l : List Value} {i : Nat} (_ : AllT l) (hi : i < l.length), ∃ s : ByteArray, l[i] = .string s ∧ s.size ≤ 1000
  | _ :: _, 0, h, _ => h.1
  | _ :: _, i + 1, h, hi => AllT.at h.2 (by simpa using hi)
theorem odd_new (w : World) (l : List Value) (t : TypeId) (h : AllT l) : Odd (w.alloc (.cells l.toArray t)).drew w.heap.size l.length :=
  ⟨by show _ < (w.alloc _).heap.size; simp, fun i hi => by
    obtain ⟨s, e, hs⟩ := h.at hi
    refine ⟨s, ?_, hs⟩
    show (w.alloc _).cell? _ = _
    rw [World.cell?_alloc_at _ _ _ _ rfl, ← e]
    simp [hi]⟩
/-- numbers that a block holds -/
structure Nums (w : World) (g n : Nat) : Prop where
  lt : g < w.heap.size
  cell : ∀ i, i < n → ∃ z : Int, w.cell? ⟨g, i, none⟩ = some (.int .i64 z)
theorem Nums.below {w w' : World} {g n : Nat} (h : Nums w g n) (hb : Below w.heap.size w w') : Nums w' g n :=
  ⟨Nat.lt_of_lt_of_le h.lt hb.size, fun i hi => by obtain ⟨s, hc⟩ := h.cell i hi; exact ⟨s, (hb.cell (p := ⟨g, i, none⟩) h.lt).trans hc⟩⟩
def AllI : List Value → Prop
  | [] => True
  | v :: l => (∃ z : Int, v = .int .i64 z) ∧ AllI l
theorem AllI.at : ∀ {l : List Value} {i : Nat} (_ : AllI l) (hi : i < l.length), ∃ z : Int, l[i] = .int .i64 z
  | _ :: _, 0, h, _ => h.1
  | _ :: _, i + 1, h, hi => AllI.at h.2 (by simpa using hi)
theorem nums_new (w : World) (l : List Value) (t : TypeId) (h : AllI l) : Nums (w.alloc (.cells l.toArray t)) w.heap.size l.length :=
  ⟨by simp, fun i hi => by
    obtain ⟨z, e⟩ := h.at hi
    refine ⟨z, ?_⟩
    rw [World.cell?_alloc_at _ _ _ _ rfl, ← e]
    simp [hi]⟩
theorem le_max {n : Nat} (h : Nat.ble n 2000 = true) : n ≤ maxLen := Nat.le_trans (Nat.le_of_ble_eq_true h) (by decide)

set_option maxRecDepth 100000 in
set_option maxHeartbeats 4000000 in
theorem hostKnown_any (w : World) (hG : Gl w) : Calls Tryd.prog 9 #[] w (BoolP true w) := by
  have HG := Lib.hid hG
  clear hG
  unfold BoolP
  go_enter Tryd.func9, Tryd.ntmps9
  go_wp2_with fail
  go_loopw [1] (fun i wr => ∃ k : Nat, k ≤ 256 ∧ i = .int .i64 k ∧ Below w.heap.size w wr) (fun i _ => 256 - (intOf i).toNat)
  case atStart => exact ⟨0, Nat.zero_le _, rfl, Below.refl _ _⟩
  case round =>
    obtain ⟨k, hk, rfl, hb⟩ := hrel
    have HB := Lib.hid hb
    clear hb
    by_cases hlt : k < 256
    · obtain ⟨y, hy⟩ : ∃ y : UInt8, (k : Int) = (y.toNat : Int) := ⟨UInt8.ofNat k, by rw [UInt8.toNat_ofNat']; omega⟩
      have cv := conv_now wr y k hy
      have HB := Lib.hid (HB.out.alloc HB.out.size (.cells #[.int .u8 (k : Int)] 5))
      clear hy
      have q0 : (0 : Int) ≤ k := by omega
      have q1 : (k : Int) < 256 := by omega
      go_wp2_with (first
        | (go_at_call 3; refine (hostNorms_any _ _ (HG.out.below HB.out) (by first | exact le_max rfl | (simp only [ByteArray.size_append]; exact le_max rfl))).mono ?_; unfold BoolP; rintro e w1 ⟨rfl, hb⟩; have HB := Lib.hid (Below.and HB.out hb); clear hb)
        | (go_at_call 4; refine (hostWrites_any _ _ _ _ (HG.out.below HB.out) (by first | exact le_max rfl | (simp only [ByteArray.size_append]; exact le_max rfl)) (by first | exact le_max rfl | (simp only [ByteArray.size_append]; exact le_max rfl))).mono ?_; unfold BoolP; rintro e w1 ⟨rfl, hb⟩; have HB := Lib.hid (Below.and HB.out hb); clear hb))
      go_roundw
      case rel => exact ⟨k + 1, by omega, by go_num, HB.out⟩
      case measure => simp [intOf]; omega
    · have e256 : (k : Int) = 256 := by omega
      rw [e256]
      clear e256
      go_upto_region 9 with fail
      obtain ⟨TW, hTW⟩ : ∃ TW : ByteArray, (⟨#[97, 98, 99, 100, 101, 102, 103, 104, 105, 106, 48, 49, 50, 51, 52, 53, 54, 55, 56, 57]⟩ : ByteArray) = TW := ⟨_, rfl⟩
      have hT : TW.size = 20 := by rw [← hTW]; rfl
      rw [hTW]
      clear hTW
      obtain ⟨LG, hLG⟩ : ∃ LG : ByteArray, TW ++ ⟨#[46]⟩ ++ TW ++ ⟨#[46]⟩ ++ TW.extract 0 18 = LG := ⟨_, rfl⟩
      have hL : LG.size = 60 := by
        rw [← hLG]
        simp only [ByteArray.size_append, ByteArray.size_extract, hT]
        rfl
      rw [hLG]
      clear hLG
      have s59 : (LG.extract 0 59).size = 59 := by rw [ByteArray.size_extract]; omega
      have s58 : (LG.extract 0 58).size = 58 := by rw [ByteArray.size_extract]; omega
      have i59 : (59 : Int) ≤ (LG.size : Int) := by omega
      have i58 : (58 : Int) ≤ (LG.size : Int) := by omega
      go_cut [5] from 58 to 75 (fun v wx => ∃ g, v = .slice (some ⟨g, 0, none⟩) 27 27 ∧ Odd wx g 27 ∧ Below w.heap.size w wx)
      case first =>
        go_region_law fail
        all_goals
          go_wp2_with fail
          go_meet
          case rel =>
            refine ⟨_, rfl, odd_new _ _ _ ?_, (HB.out.alloc HB.out.size _).drew⟩
            refine allT_cons ?_ <| allT_cons ?_ <| allT_cons ?_ <| allT_cons ?_ <| allT_cons ?_ <| allT_cons ?_ <| allT_cons ?_ <| allT_cons ?_ <| allT_cons ?_ <| allT_cons ?_ <| allT_cons ?_ <| allT_cons ?_ <| allT_cons ?_ <| allT_cons ?_ <| allT_cons ?_ <| allT_cons ?_ <| allT_cons ?_ <| allT_cons ?_ <| allT_cons ?_ <| allT_cons ?_ <| allT_cons ?_ <| allT_cons ?_ <| allT_cons ?_ <| allT_cons ?_ <| allT_cons ?_ <| allT_cons ?_ <| allT_cons ?_ trivial
            all_goals first
              | exact Nat.le_of_ble_eq_true rfl
              | (simp only [ByteArray.size_append, s58, s59, hT, hL]; exact Nat.le_of_ble_eq_true rfl)
      case rest =>
        obtain ⟨g, rfl, hO, hBx⟩ := hcut
        clear hT hL s59 s58 i59 i58
        have HO := Lib.hid hO
        have HB := Lib.hid hBx
        clear hO hBx
        go_wp2_with fail
        go_loopw [6] (fun i wr => ∃ k : Nat, k ≤ 27 ∧ i = .int .i64 k ∧ Odd wr g 27 ∧ Below w.heap.size w wr) (fun i _ => 27 - (intOf i).toNat)
        case atStart => exact ⟨0, Nat.zero_le _, rfl, HO.out, HB.out⟩
        case round =>
          obtain ⟨k, hk, rfl, hO, hb⟩ := hrel
          have HO := Lib.hid hO
          have HB := Lib.hid hb
          clear hb hO
          by_cases hlt : k < 27
          · obtain ⟨s, hc, hs⟩ := HO.out.cell k hlt
            have HS : Hid (s.size ≤ maxLen) := Lib.hid (Nat.le_trans hs (by decide))
            have q0 : (0 : Int) ≤ k := by omega
            have q1 : (k : Int) < 27 := by omega
            clear hs
            go_wp2_with (go_at_call 3; refine (hostNorms_any _ _ (HG.out.below HB.out) HS.out).mono ?_; unfold BoolP; rintro e w1 ⟨rfl, hb⟩; have HB := Lib.hid (Below.and HB.out hb); have HO := Lib.hid (HO.out.below hb); clear hb)
            clear hc HS
            go_loopw [7] (fun i wr => ∃ k : Nat, k ≤ 27 ∧ i = .int .i64 k ∧ Odd wr g 27 ∧ Below w.heap.size w wr) (fun i _ => 27 - (intOf i).toNat)
            case atStart => exact ⟨0, Nat.zero_le _, rfl, HO.out, HB.out⟩
            case round =>
              clear HO HB
              obtain ⟨j, hj, rfl, hO, hb⟩ := hrel
              have HO := Lib.hid hO
              have HB := Lib.hid hb
              clear hb hO
              by_cases hlj : j < 27
              · obtain ⟨s, hc, hs⟩ := HO.out.cell k hlt
                obtain ⟨t, hd, ht⟩ := HO.out.cell j hlj
                have HS : Hid (s.size ≤ maxLen) := Lib.hid (Nat.le_trans hs (by decide))
                have HT : Hid (t.size ≤ maxLen) := Lib.hid (Nat.le_trans ht (by decide))
                have r0 : (0 : Int) ≤ j := by omega
                have r1 : (j : Int) < 27 := by omega
                clear hs ht
                go_upto_region 18 with fail
                go_region_held3 (fun w' => w'.cell? ⟨g, k, none⟩ = some (.string s) ∧ w'.cell? ⟨g, j, none⟩ = some (.string t)) (first | go_keep | exact ⟨by assumption, by assumption⟩ | exact ⟨(hb.cell (p := ⟨g, k, none⟩) HO.out.lt).trans hc, (hb.cell (p := ⟨g, j, none⟩) HO.out.lt).trans hd⟩) ((go_at_call 4; refine (hostWrites_any _ _ _ _ (HG.out.below HB.out.drew) HS.out HT.out).mono ?_; unfold BoolP; rintro e w1 ⟨rfl, hb⟩))
                rename_i h2
                have HB := Lib.hid (Below.and HB.out.drew hb)
                have HO := Lib.hid ((HO.out.below (Below.refl wr.heap.size wr).drew).below hb)
                clear hb hc hd h2 HS HT
                go_wp2_with fail
                go_roundw
                case rel => exact ⟨j + 1, by omega, by go_num, HO.out, HB.out⟩
                case measure => simp [intOf]; omega
              · have e27 : (j : Int) = 27 := by omega
                rw [e27]
                clear e27 hlj hj
                go_wp2_with fail
                go_roundw
                case rel =>
                  exact ⟨k + 1, by omega, by go_num, HO.out, HB.out⟩
                case measure => simp [intOf]; omega
          · have e27 : (k : Int) = 27 := by omega
            rw [e27]
            clear e27 hlt hk
            go_wp2_with fail
            have hN := nums_new wr [.int .i64 (-9223372036854775808), .int .i64 (-1), .int .i64 0, .int .i64 1, .int .i64 79, .int .i64 80, .int .i64 81, .int .i64 65535, .int .i64 65536, .int .i64 9223372036854775807] 3 ⟨⟨_, rfl⟩, ⟨_, rfl⟩, ⟨_, rfl⟩, ⟨_, rfl⟩, ⟨_, rfl⟩, ⟨_, rfl⟩, ⟨_, rfl⟩, ⟨_, rfl⟩, ⟨_, rfl⟩, ⟨_, rfl⟩, trivial⟩
            have HB := Lib.hid (HB.out.alloc HB.out.size (.cells #[.int .i64 (-9223372036854775808), .int .i64 (-1), .int .i64 0, .int .i64 1, .int .i64 79, .int .i64 80, .int .i64 81, .int .i64 65535, .int .i64 65536, .int .i64 9223372036854775807] 3))
            go_loopw [9] (fun i wq => ∃ k : Nat, k ≤ 10 ∧ i = .int .i64 k ∧ Nums wq wr.heap.size 10 ∧ Below w.heap.size w wq) (fun i _ => 10 - (intOf i).toNat)
            case atStart => exact ⟨0, Nat.zero_le _, rfl, hN, HB.out⟩
            case round =>
              clear hN HB
              obtain ⟨j, hj, rfl, hO, hb⟩ := hrel
              have HO := Lib.hid hO
              have HB := Lib.hid hb
              clear hb hO
              by_cases hlj : j < 10
              · obtain ⟨z, hc⟩ := HO.out.cell j hlj
                have r0 : (0 : Int) ≤ j := by omega
                have r1 : (j : Int) < 10 := by omega
                go_wp2_with (go_at_call 4; refine (hostWrites_any _ _ _ _ (HG.out.below HB.out) (le_max rfl) (le_max rfl)).mono ?_; unfold BoolP; rintro e w1 ⟨rfl, hb⟩; have HB := Lib.hid (Below.and HB.out hb); have HO := Lib.hid (HO.out.below hb); clear hb)
                go_roundw
                case rel => exact ⟨j + 1, by omega, by go_num, HO.out, HB.out⟩
                case measure => simp [intOf]; omega
              · have e10 : (j : Int) = 10 := by omega
                rw [e10]
                clear e10 hlj hj
                go_wp2_with (go_at_call 17; refine (works_any _ (HG.out.below HB.out)).mono ?_; unfold BoolP; rintro e w1 ⟨rfl, hb⟩; have HB := Lib.hid (Below.and HB.out hb); clear hb)
                go_ret
                exact ⟨rfl, HB.out⟩
end Go.Proofs.YtlbafdffmibjoaaDoor
