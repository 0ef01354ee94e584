/- HostWild: a pattern with *. is for just the hosts that have one part more. -/
import Derived.Test.YtlbafdffmibjoaaDoorGo
import Derived.Deep.DeepCutAuto
namespace Go.Proofs.YtlbafdffmibjoaaDoor
open Go Go.RowKit Pl

theorem pat_star {own : List UInt8} (hp : isPl own = true) (hl : own.length ≤ 58) : isPat (42 :: 46 :: own) = true := by
  rw [isPat_rest (by simp; omega)]
  exact hp
theorem pl_star (own : List UInt8) : isPl (42 :: 46 :: own) = false := not_pl_star (by rfl)
theorem ne_star {own : List UInt8} {h : List UInt8} (hp : isPl h = true) : decide ((42 :: 46 :: own : List UInt8) = h) = false := decide_eq_false fun e => by rw [← e, pl_star] at hp; cases hp
theorem wild_match {own h : List UInt8} (hp : isPl own = true) (hl : own.length ≤ 58) (hh : isPl h = true) : matchP (42 :: 46 :: own) h = (hasC 46 h && decide (tlC 46 h = own)) := by
  unfold matchP
  rw [pat_star hp hl, hh, ne_star hh, Bool.true_and, Bool.true_and, Bool.false_or]
  congr 1
  rw [Bool.eq_iff_iff, decide_eq_true_iff, decide_eq_true_iff]
  constructor
  · intro e; injection e with _ e; injection e with _ e; exact e.symm
  · intro e; rw [e]
theorem wild_longer {own p : List UInt8} (hp : isPl own = true) (hl : own.length ≤ 58) (hq : isLab p = true) : matchP (42 :: 46 :: own) (p ++ 46 :: own) = decide ((p ++ 46 :: own).length ≤ 60) := by
  by_cases h : (p ++ 46 :: own).length ≤ 60
  · rw [decide_eq_true h]
    have h2 : isPl (p ++ 46 :: own) = true := isPl_app (isPl_lab hq) hp (by simp at h; omega)
    rw [wild_match hp hl h2, (hdC_app (lab_no46 hq)).2]
    unfold hasC
    simp
  · rw [decide_eq_false h]
    unfold matchP
    rw [isPl_long (by omega)]; simp
theorem wild_own {own : List UInt8} (hp : isPl own = true) (hl : own.length ≤ 58) : matchP (42 :: 46 :: own) own = false := by
  rw [wild_match hp hl hp]
  cases hc : hasC 46 own
  · rfl
  · have hm : 46 ∈ own := of_decide_eq_true hc
    have h1 := tlC_lt hm
    rw [Bool.true_and]
    exact decide_eq_false fun e => by rw [e] at h1; omega
theorem wild_more {own p : List UInt8} (hp : isPl own = true) (hl : own.length ≤ 58) : matchP (42 :: 46 :: own) (122 :: 46 :: (p ++ 46 :: own)) = false := by
  cases h : isPl (122 :: 46 :: (p ++ 46 :: own))
  · unfold matchP; rw [h]; simp
  · rw [wild_match hp hl h]
    have e : tlC 46 (122 :: 46 :: (p ++ 46 :: own)) = p ++ 46 :: own := (hdC_app (c := 46) (a := [122]) (b := p ++ 46 :: own) (by decide)).2
    rw [e]
    have : decide (p ++ 46 :: own = own) = false := decide_eq_false fun e => by have := congrArg List.length e; simp at this; omega
    rw [this]; simp
theorem own_match {own h : List UInt8} (hp : isPl own = true) (hh : isPl h = true) : matchP own h = decide (own = h) := by
  unfold matchP
  rw [isPat_pl hp, hh, Bool.true_and, Bool.true_and]
  have : decide (own = 42 :: 46 :: tlC 46 h) = false := decide_eq_false fun e => by rw [e, pl_star] at hp; cases hp
  rw [this]; simp
theorem match_l (p h : ByteArray) (b : Bool) (hp : p.size ≤ 1000000) (hh : h.size ≤ 1000000) (hm : matchP p.data.toList h.data.toList = b) (w : World) : Calls Tryd.prog 20 #[.string p, .string h] w fun e w' => e = .returned (.bool b) ∧ Below w.heap.size w w' := by
  rw [← hm]; exact match_prog p h w hp hh

set_option maxRecDepth 100000 in
set_option maxHeartbeats 4000000 in
theorem hostWild_any (A : Option Addr) (n c : Nat) (B : Option Addr) (m d : Nat) (more : Int) (w : World) (hG : Gl w) (hi : IntsIn w A n) (hn : n ≤ maxLen) (hj : IntsIn w B m) (hm : m ≤ maxLen) :
    Calls Tryd.prog 7 #[.slice A n c, .slice B m d, .int .i64 more] w (BoolP true w) := by
  have HG := Lib.hid hG
  have HI := Lib.hid hi
  have HJ := Lib.hid hj
  have HB := Lib.hid (Below.refl w.heap.size w)
  clear hG hi hj
  unfold BoolP
  go_enter Tryd.func7, Tryd.ntmps7
  go_upto_region 3 with (first
    | (go_at_call 22; (with_reducible refine (plain_any A n c _ (HI.out.below HB.out) hn).mono ?_); rintro e w1 ⟨own, hh, rfl, hb⟩; have HO := Lib.hid hh; have hlo := hh.2; have HB := Lib.hid (Below.and HB.out hb); clear hb hh)
    | (go_at_call 22; (with_reducible refine (plain_any B m d _ (HJ.out.below HB.out) hm).mono ?_); rintro e w1 ⟨oth, hh, rfl, hb⟩; have HT := Lib.hid hh; have hlt := hh.2; have HB := Lib.hid (Below.and HB.out hb); clear hb hh))
  obtain ⟨WD, hWD⟩ : ∃ WD : ByteArray, (⟨#[42, 46]⟩ : ByteArray) ++ ⟨own.toArray⟩ = WD := ⟨_, rfl⟩
  rw [hWD]
  have hWl : WD.data.toList = 42 :: 46 :: own := by rw [← hWD, star_text]
  have hWs : WD.size = own.length + 2 := by rw [Lib.size_eq, hWl]; rfl
  have hW1 : ¬ 60 < (WD.size : Int) := by omega
  have C1 : Hid (∀ w, Calls Tryd.prog 15 #[.string WD] w fun e w' => e = .returned (.int .i64 0) ∧ Below w.heap.size w w') := Lib.hid fun w =>
    (pattern_prog WD w (by omega)).mono fun e w' ⟨he, hb⟩ => ⟨by rw [he, hWl, pat_star HO.out.1 HO.out.2]; rfl, hb⟩
  have C2 : Hid (∀ w, Calls Tryd.prog 13 #[.string WD] w fun e w' => e = .returned (.int .i64 60) ∧ Below w.heap.size w w') := Lib.hid fun w =>
    (plain_prog WD w (by omega)).mono fun e w' ⟨he, hb⟩ => ⟨by rw [he, hWl, pl_star]; rfl, hb⟩
  have HWl := Lib.hid hWl
  have HWs : Hid (WD.size ≤ 60) := Lib.hid (by omega)
  clear hWl hWs hWD
  go_upto_region 6 with (first
    | (go_at_call 15; refine (C1.out _).mono ?_; rintro e w1 ⟨rfl, hb⟩; have HB := Lib.hid (Below.and HB.out hb); clear hb)
    | (go_at_call 13; refine (C2.out _).mono ?_; rintro e w1 ⟨rfl, hb⟩; have HB := Lib.hid (Below.and HB.out hb); clear hb)
    | (go_at_call 25; refine (part_any _ _).mono ?_; rintro e w1 ⟨p, hq, rfl, hb⟩; have HQ := Lib.hid hq; have hpl := (lab_len hq).1; have HB := Lib.hid (Below.and HB.out hb); clear hb hq))
  obtain ⟨LG, hLG⟩ : ∃ LG : ByteArray, (⟨p.toArray⟩ : ByteArray) ++ ⟨#[46]⟩ ++ ⟨own.toArray⟩ = LG := ⟨_, rfl⟩
  rw [hLG]
  have hLl : LG.data.toList = p ++ 46 :: own := by rw [← hLG, dot_text]
  have hLs : LG.size = p.length + own.length + 1 := by rw [Lib.size_eq, hLl]; simp; omega
  have hL1 : LG.size ≤ 100 := by omega
  have hz2 : ((⟨#[122, 46]⟩ : ByteArray) ++ LG).size ≤ 1000000 := by rw [ByteArray.size_append]; show 2 + LG.size ≤ _; omega
  have hz3 : ((⟨#[122, 46]⟩ : ByteArray) ++ LG).data.toList = 122 :: 46 :: (p ++ 46 :: own) := by
    rw [← mk_data LG, hLl]
    exact congrArg (fun b : ByteArray => b.data.toList) (str_app [122, 46] (p ++ 46 :: own))
  have M3 := Lib.hid (match_l WD LG (decide (LG.size ≤ 60)) (by have := HWs.out; omega) (by omega) (by rw [HWl.out, hLl, wild_longer HO.out.1 HO.out.2 HQ.out, ← hLl, ← Lib.size_eq]))
  have M5 := Lib.hid (match_l WD ⟨own.toArray⟩ false (by have := HWs.out; omega) (by rw [size_mk]; omega) (by rw [HWl.out]; exact wild_own HO.out.1 HO.out.2))
  have M6 := Lib.hid (match_l WD (⟨#[122, 46]⟩ ++ LG) false (by have := HWs.out; omega) hz2 (by rw [HWl.out, hz3]; exact wild_more HO.out.1 HO.out.2))
  have M7 := Lib.hid (match_l ⟨own.toArray⟩ ⟨oth.toArray⟩ ((⟨own.toArray⟩ : ByteArray).toList == (⟨oth.toArray⟩ : ByteArray).toList) (by rw [size_mk]; omega) (by rw [size_mk]; omega) (by rw [eq_beq]; exact own_match HO.out.1 HT.out.1))
  have hm2 : matchP (42 :: 46 :: own) oth = (hasC 46 oth && decide (tlC 46 oth = own)) := wild_match HO.out.1 HO.out.2 HT.out.1
  clear hLl hLs hz3 hLG
  obtain ⟨TH, hTH⟩ : ∃ TH : ByteArray, TH = ⟨oth.toArray⟩ := ⟨_, rfl⟩
  have hTl : TH.data.toList = oth := by rw [hTH]
  have hTs : TH.size = oth.length := by rw [Lib.size_eq, hTl]
  have hTb : TH.size ≤ 100 := by omega
  rw [← hTH] at M7 ⊢
  rw [← hTl] at hm2
  clear hTH
  obtain ⟨K, hK⟩ : ∃ K, K = (hdC 46 TH.data.toList).length := ⟨_, rfl⟩
  have hKs : K ≤ TH.size := by rw [hK, Lib.size_eq]; exact hdC_le _ _
  have FB : Hid (∀ k, k < K → ∀ hk : k < TH.size, ¬ (((TH[k]'hk).toNat : Int) = 46)) := Lib.hid fun k hl hk e => hdC_before TH 46 k (by rw [← hK]; exact hl) hk (by rw [eqB]; show (TH[k]'hk).toNat = 46; omega)
  have fit : decide (LG.size ≤ 60) = decide ((LG.size : Int) ≤ 60) := by rw [decide_eq_decide]; omega
  rw [fit] at M3
  clear fit
  by_cases hm : 46 ∈ TH.data.toList
  · have hlt2 : K < TH.size := by rw [hK, Lib.size_eq]; exact hdC_lt hm
    have n46 : (((TH[K]'hlt2).toNat : Int) == 46) = true := by
      subst hK
      rw [hdC_stop TH 46 hm hlt2]; rfl
    have ht : (TH.extract (K + 1) TH.size).data.toList = tlC 46 TH.data.toList := by rw [hK, tlC_piece]
    have M4 := Lib.hid (match_l WD TH ((TH.extract (K + 1) TH.size).toList == (⟨own.toArray⟩ : ByteArray).toList) (by have := HWs.out; omega) (by omega) (by rw [HWl.out, hTl]; rw [hTl] at hm2; rw [hm2, eq_beq, ht, hTl, show hasC 46 oth = true from decide_eq_true (by rw [← hTl]; exact hm)]; rfl))
    have c1 : (0 : Int) ≤ ↑K + 1 := by omega
    have c2 : (↑K + 1 : Int) ≤ ↑TH.size := by omega
    clear hK hm ht hTl hTs
    by_cases hfit : (LG.size : Int) ≤ 60
    all_goals
      go_wp2_with fail
      clear hm2
      go_loop [11, 12] (fun t i => ∃ k : Nat, k ≤ K ∧ t = .bool false ∧ i = .int .i64 k) (fun _ i => K - (intOf i).toNat)
      case atStart => exact ⟨0, Nat.zero_le _, rfl, rfl⟩
      case round =>
        obtain ⟨k, hk, rfl, rfl⟩ := hrel
        by_cases hlt : k < K
        · have hks : k < TH.size := by omega
          have n1 : (((TH[k]'hks).toNat : Int) == 46) = false := by rw [beq_eq_false_iff_ne]; exact FB.out k hlt hks
          go_wp2_with fail
          go_round
          case rel => exact ⟨k + 1, by omega, rfl, by go_num⟩
          case measure => simp [intOf]; omega
        · obtain rfl : K = k := by omega
          go_wp2_with (first
            | (go_at_call 20; first
                | ((with_reducible refine (M3.out _).mono ?_); rintro e w1 ⟨rfl, hb⟩; have HB := Lib.hid (Below.and HB.out hb); clear hb)
                | ((with_reducible refine (M4.out _).mono ?_); rintro e w1 ⟨rfl, hb⟩; have HB := Lib.hid (Below.and HB.out hb); clear hb)
                | ((with_reducible refine (M5.out _).mono ?_); rintro e w1 ⟨rfl, hb⟩; have HB := Lib.hid (Below.and HB.out hb); clear hb)
                | ((with_reducible refine (M6.out _).mono ?_); rintro e w1 ⟨rfl, hb⟩; have HB := Lib.hid (Below.and HB.out hb); clear hb)
                | ((with_reducible refine (M7.out _).mono ?_); rintro e w1 ⟨rfl, hb⟩; have HB := Lib.hid (Below.and HB.out hb); clear hb))
            | (go_at_call 17; refine (works_any _ (HG.out.below HB.out)).mono ?_; unfold BoolP; rintro e w1 ⟨rfl, hb⟩; have HB := Lib.hid (Below.and HB.out hb); clear hb))
          go_ret
          exact ⟨rfl, HB.out⟩
  · have hlt2 : K = TH.size := by rw [hK, Lib.size_eq, (hdC_none hm).1]
    have n2 : ¬ K < TH.size := by omega
    have n3 : decide (K < TH.size) = false := decide_eq_false n2
    have M4 := Lib.hid (match_l WD TH false (by have := HWs.out; omega) (by omega) (by rw [HWl.out, hTl]; rw [hTl] at hm2; rw [hm2, show hasC 46 oth = false from decide_eq_false (by rw [← hTl]; exact hm)]; rfl))
    clear hK hm hlt2 hTl hTs
    by_cases hfit : (LG.size : Int) ≤ 60
    all_goals
      go_wp2_with fail
      clear hm2
      go_loop [11, 12] (fun t i => ∃ k : Nat, k ≤ K ∧ t = .bool false ∧ i = .int .i64 k) (fun _ i => K - (intOf i).toNat)
      case atStart => exact ⟨0, Nat.zero_le _, rfl, rfl⟩
      case round =>
        obtain ⟨k, hk, rfl, rfl⟩ := hrel
        by_cases hlt : k < K
        · have hks : k < TH.size := by omega
          have n1 : (((TH[k]'hks).toNat : Int) == 46) = false := by rw [beq_eq_false_iff_ne]; exact FB.out k hlt hks
          go_wp2_with fail
          go_round
          case rel => exact ⟨k + 1, by omega, rfl, by go_num⟩
          case measure => simp [intOf]; omega
        · obtain rfl : K = k := by omega
          go_wp2_with (first
            | (go_at_call 20; first
                | ((with_reducible refine (M3.out _).mono ?_); rintro e w1 ⟨rfl, hb⟩; have HB := Lib.hid (Below.and HB.out hb); clear hb)
                | ((with_reducible refine (M4.out _).mono ?_); rintro e w1 ⟨rfl, hb⟩; have HB := Lib.hid (Below.and HB.out hb); clear hb)
                | ((with_reducible refine (M5.out _).mono ?_); rintro e w1 ⟨rfl, hb⟩; have HB := Lib.hid (Below.and HB.out hb); clear hb)
                | ((with_reducible refine (M6.out _).mono ?_); rintro e w1 ⟨rfl, hb⟩; have HB := Lib.hid (Below.and HB.out hb); clear hb)
                | ((with_reducible refine (M7.out _).mono ?_); rintro e w1 ⟨rfl, hb⟩; have HB := Lib.hid (Below.and HB.out hb); clear hb))
            | (go_at_call 17; refine (works_any _ (HG.out.below HB.out)).mono ?_; unfold BoolP; rintro e w1 ⟨rfl, hb⟩; have HB := Lib.hid (Below.and HB.out hb); clear hb))
          go_ret
          exact ⟨rfl, HB.out⟩
end Go.Proofs.YtlbafdffmibjoaaDoor
