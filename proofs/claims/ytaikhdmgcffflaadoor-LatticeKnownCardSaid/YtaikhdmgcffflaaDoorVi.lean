/- Walks of isLattice and of the program's Make. -/
import Derived.Test.YtaikhdmgcffflaaDoorVh
namespace Go.Proofs.YtaikhdmgcffflaaDoor
open Go Go.RowKit

/-- Have all pairs up to a, b a meet? -/
def mtK (n : Nat) (A : Nat → Nat) (a b : Nat) : Bool := (decO n A (clo A a &&& clo A b)).isSome
theorem isP_of {n : Nat} {A : Nat → Nat} (h1 : clo A (hiL n A) = 2 ^ n - 1) (h2 : ∀ a, a < n → ∀ b, b < a → mtK n A a b = true) : isP n A = true := by
  unfold isP
  simp only [Bool.and_eq_true, beq_iff_eq, List.all_eq_true, List.mem_range]
  exact ⟨h1, h2⟩
theorem isP_no1 {n : Nat} {A : Nat → Nat} (h : clo A (hiL n A) ≠ 2 ^ n - 1) : isP n A = false := by
  unfold isP
  rw [show (clo A (hiL n A) == 2 ^ n - 1) = false by simpa using h]
  rfl
theorem isP_no2 {n : Nat} {A : Nat → Nat} {a b : Nat} (ha : a < n) (hb : b < a) (h : mtK n A a b = false) : isP n A = false := by
  cases hp : isP n A with
  | false => rfl
  | true =>
    unfold isP at hp
    simp only [Bool.and_eq_true, List.all_eq_true, List.mem_range] at hp
    have := hp.2 a ha b hb
    unfold mtK at h
    rw [h] at this
    cases this
theorem decV2 (n : Nat) (A : Nat → Nat) (c : Nat) : (decV n A (c : Int)).2 = if (decO n A c).isSome then 0 else 4 := by
  unfold decV
  rw [decI_nat]
  cases decO n A c <;> rfl
theorem top_val (n : Nat) (hn : n ≤ 10) : wrap64 ((2 : Int) ^ n - 1) = ((2 ^ n - 1 : Nat) : Int) := by
  have h : ((2 ^ n : Nat) : Int) = (2 : Int) ^ n := by simp
  have h1 := Nat.two_pow_pos n
  have h2 := Nat.pow_le_pow_right (n := 2) (by omega) hn
  rw [← h, show ((2 ^ n : Nat) : Int) - 1 = ((2 ^ n - 1 : Nat) : Int) by omega]
  exact IntWalk.wrap64_in _ ⟨by omega, by omega⟩
theorem latDecodeQ {w : World} {b n : Nat} {N : List (List UInt8)} {A : Nat → Nat} {lo hi : Nat} {d s : Int} {j m : Nat} (h : LatM w b n N A lo hi d s j m) (hn : n ≤ 10) (c : Int) (r : Int × Int) (hr : decV n A c = r) (q k : Nat) :
    Calls Tryd.prog 12 #[.pointer (some ⟨b, 0, none⟩), .int .i64 c] (w.drewN (q + k)) fun e w' => e = .returned (.tuple #[.int .i64 r.1, .int .i64 r.2]) ∧ ∃ i, w' = w.drewN (q + i) := by
  subst hr
  exact (latDecode_any (h.drewN (q + k)) hn c).mono fun _ _ ⟨he, hw⟩ => ⟨he, k, hw.symm⟩

set_option maxHeartbeats 2000000 in
theorem isLattice_any {w : World} {b n : Nat} {N : List (List UInt8)} {A : Nat → Nat} {lo : Nat} {d s : Int} {j m : Nat} (h : LatM w b n N A lo (hiL n A) d s j m) (g : Good n A) (t : Anti A) (hn : n ≤ 10) :
    Calls Tryd.prog 31 #[.pointer (some ⟨b, 0, none⟩)] w fun e w' => e = .returned (.bool (isP n A)) ∧ ∃ q, w' = w.drewN q := by
  have hm := h.many
  have hh := h.high
  have hhi := (hi_spec g t).1
  have hc := h.code (i := hiL n A) (by omega) hhi
  have hcl := clo_lt10 g hn hhi
  have i1 : (0 : Int) ≤ (hiL n A : Nat) := by omega
  have i2 : ((hiL n A : Nat) : Int) < 10 := by omega
  have i3 : (0 : Int) ≤ n := by omega
  have hshl := shl_any n (by omega)
  have htv := top_val n hn
  have HH := Lib.hid h
  have HI := Lib.hid hhi
  clear h hhi
  by_cases htop : clo A (hiL n A) = 2 ^ n - 1
  · have htt : (((clo A (hiL n A) : Nat) : Int) != wrap64 ((2 : Int) ^ n - 1)) = false := by rw [htv, htop]; simp
    have HTOP := Lib.hid htop
    clear htop htv
    go_enter Tryd.func31, Tryd.ntmps31
    go_wp2
    go_quiet (fail)
    go_wp2
    clear htt hshl hc hh
    go_loopw [27] (fun i wr => ∃ a q : Nat, a ≤ n ∧ i = .int .i64 a ∧ Hid (∀ x, x < a → ∀ y, y < x → mtK n A x y = true) ∧ wr = w.drewN q) (fun i _ => n - (intOf i).toNat)
    case atStart => exact ⟨0, _, Nat.zero_le _, rfl, fun x hx => by omega, rfl⟩
    case round =>
      obtain ⟨a, q, ha, rfl, hall, rfl⟩ := hrel
      by_cases hlt : a < n
      · have hca := HH.out.code (i := a) (by omega) hlt
        have la := clo_lt10 g hn hlt
        have a1 : (0 : Int) ≤ a := by omega
        have a2 : (a : Int) < 10 := by omega
        go_wp2
        go_loopw [31] (fun i wr => ∃ c q : Nat, c ≤ a ∧ i = .int .i64 c ∧ Hid (∀ y, y < c → mtK n A a y = true) ∧ wr = w.drewN q) (fun i _ => a - (intOf i).toNat)
        case atStart => exact ⟨0, q, Nat.zero_le _, rfl, fun y hy => by omega, rfl⟩
        case round =>
          obtain ⟨c, q2, hcc, rfl, hin, rfl⟩ := hrel
          by_cases hlc : c < a
          · have hcb := HH.out.code (i := c) (by omega) (by omega)
            have lb := clo_lt10 g hn (show c < n by omega)
            have c1 : (0 : Int) ≤ c := by omega
            have c2 : (c : Int) < 10 := by omega
            have han := Lib.hid (i64_and_nat (clo A a) (clo A c) (by omega) (by omega))
            cases hmt : mtK n A a c with
            | true =>
              have hr : decV n A ((clo A a &&& clo A c : Nat) : Int) = ((decV n A ((clo A a &&& clo A c : Nat) : Int)).1, 0) := by
                apply Prod.ext
                · rfl
                · rw [decV2]; unfold mtK at hmt; rw [hmt]; rfl
              have con := Lib.hid (fun k => latDecodeQ HH.out hn _ _ hr q2 k)
              have hin' : Hid (∀ y, y < c + 1 → mtK n A a y = true) := fun y hy => by
                rcases Nat.lt_or_ge y c with h1 | h1
                · exact hin.out y h1
                · rw [show y = c by omega]; exact hmt
              clear hr hmt hin
              generalize (decV n A ((clo A a &&& clo A c : Nat) : Int)).1 = dv at *
              generalize clo A a = ca at *
              generalize clo A c = cb at *
              go_wp2
              go_quiet ((go_at_call 12; rw [han.out]; exact con.out _))
              go_wp2
              go_roundw
              case rel => exact ⟨c + 1, _, by omega, by go_num, hin', by first | rfl | exact World.drewN_drewN _ _ _⟩
              case measure => simp [intOf]; omega
            | false =>
              have hr : decV n A ((clo A a &&& clo A c : Nat) : Int) = ((decV n A ((clo A a &&& clo A c : Nat) : Int)).1, 4) := by
                apply Prod.ext
                · rfl
                · rw [decV2]; unfold mtK at hmt; rw [hmt]; rfl
              have con := Lib.hid (fun k => latDecodeQ HH.out hn _ _ hr q2 k)
              have hfin := Lib.hid (isP_no2 hlt hlc hmt)
              clear hr hmt hin
              generalize (decV n A ((clo A a &&& clo A c : Nat) : Int)).1 = dv at *
              generalize clo A a = ca at *
              generalize clo A c = cb at *
              go_wp2
              go_quiet ((go_at_call 12; rw [han.out]; exact con.out _))
              go_wp2
              go_ret
              exact ⟨ret_bool hfin.out.symm, _, by first | rfl | exact World.drewN_drewN _ _ _⟩
          · have hall' : Hid (∀ x, x < a + 1 → ∀ y, y < x → mtK n A x y = true) := fun x hx y hy => by
              rcases Nat.lt_or_ge x a with h1 | h1
              · exact hall.out x h1 y hy
              · obtain rfl : x = a := by omega
                exact hin.out y (by omega)
            clear hall hin
            go_wp2
            go_roundw
            case rel => exact ⟨a + 1, _, by omega, by go_num, hall', rfl⟩
            case measure => simp [intOf]; omega
      · have hfin : Hid (isP n A = true) := isP_of HTOP.out fun x hx y hy => hall.out x (by omega) y hy
        clear hall
        go_wp2
        go_ret
        exact ⟨ret_bool hfin.out.symm, _, rfl⟩
  · have htt : (((clo A (hiL n A) : Nat) : Int) != wrap64 ((2 : Int) ^ n - 1)) = true := by rw [htv, bne_iff_ne]; omega
    have hfin := Lib.hid (isP_no1 htop)
    clear htop htv
    go_enter Tryd.func31, Tryd.ntmps31
    go_wp2
    go_quiet (fail)
    go_wp2
    go_ret
    exact ⟨ret_bool hfin.out.symm, _, rfl⟩

/-! Make. -/
/-- The error that names and pairs have, if any. -/
def mkE (N : List (List UInt8)) (L : List (Int × Int)) : Int :=
  if N.length < 1 ∨ 10 < N.length then 2 else if fineB N then if ordE N.length L = 0 then if isP N.length (ofL (natL L)) then 0 else 30 else ordE N.length L else 31
/-- What is told of a lattice's parts. -/
structure LatOK (N : List (List UInt8)) (L : List (Int × Int)) : Prop where
  pos : 1 ≤ N.length
  le10 : N.length ≤ 10
  fine : fineB N = true
  took : Took N.length (natL L)
  isp : isP N.length (ofL (natL L)) = true
  len : L.length ≤ 1000
theorem LatOK.good {N : List (List UInt8)} {L : List (Int × Int)} (h : LatOK N L) : Good N.length (ofL (natL L)) := h.took.good h.pos (by have := h.le10; omega)
theorem LatOK.anti {N : List (List UInt8)} {L : List (Int × Int)} (h : LatOK N L) : Anti (ofL (natL L)) := h.took.anti h.pos (by have := h.le10; omega)
/-- What Make leaves. -/
def MakePost (N : List (List UInt8)) (L : List (Int × Int)) (w : World) (e : Ending) (w' : World) : Prop := Below w.heap.size w w' ∧
  ((mkE N L ≠ 0 ∧ e = .returned (.tuple #[.pointer none, .int .i64 (mkE N L)])) ∨
   (mkE N L = 0 ∧ LatOK N L ∧ ∃ b, e = .returned (.tuple #[.pointer (some ⟨b, 0, none⟩), .int .i64 0]) ∧ w.heap.size ≤ b ∧ PL w' b N.length N (ofL (natL L))))
theorem fine_len {N : List (List UInt8)} (h : fineB N = true) : ∀ y ∈ N, y.length ≤ 12 := by
  intro y hy
  obtain ⟨i, hi, rfl⟩ := List.mem_iff_getElem.1 hy
  unfold fineB fineK at h
  rw [List.all_eq_true] at h
  have := h i (List.mem_range.2 hi)
  rw [Bool.and_eq_true, List.getD_eq_getElem?_getD, List.getElem?_eq_getElem hi] at this
  exact (Pl.isName_iff.1 this.1).2.1

set_option maxHeartbeats 1000000 in
theorem make_any (A0 : Option Addr) (c0 : Nat) (N : List (List UInt8)) (A1 : Option Addr) (c1 : Nat) (L : List (Int × Int)) (w : World) (hT : Tab w) (hR : Rd w A0 (sv N)) (hc : N.length ≤ c0) (hnl : N.length ≤ 1000000) (hL : ∀ y ∈ N, y.length ≤ maxLen) (hP : Rd w A1 (pvI L)) (hll : L.length ≤ 1000) :
    Calls Tryd.prog 7 #[.slice A0 N.length c0, .slice A1 L.length c1] w (MakePost N L w) := by
  by_cases h1 : N.length < 1
  · have e : mkE N L = 2 := by unfold mkE; rw [if_pos (.inl h1)]
    have hfin : Hid (MakePost N L w (.returned (.tuple #[.pointer none, .int .i64 2])) w) := ⟨Below.refl _ _, .inl ⟨by rw [e]; decide, by rw [e]⟩⟩
    have h1' : (N.length : Int) < 1 := by omega
    clear e hR hP hL
    go_enter Tryd.func7, Tryd.ntmps7
    go_wp2_with fail
    go_ret2
    exact hfin.out
  by_cases h2 : 10 < N.length
  · have e : mkE N L = 2 := by unfold mkE; rw [if_pos (.inr h2)]
    have hfin : Hid (MakePost N L w (.returned (.tuple #[.pointer none, .int .i64 2])) w) := ⟨Below.refl _ _, .inl ⟨by rw [e]; decide, by rw [e]⟩⟩
    clear e hR hP hL
    go_enter Tryd.func7, Tryd.ntmps7
    go_wp2_with fail
    go_ret2
    exact hfin.out
  have hn1 : 1 ≤ N.length := by omega
  have hn2 : N.length ≤ 10 := by omega
  have con := checkNames_any A0 c0 N w hR hc hnl hL
  cases hf : fineB N with
  | false =>
    have e : mkE N L = 31 := by unfold mkE; rw [if_neg (by omega), hf]; rfl
    have hfin : Hid (MakePost N L w (.returned (.tuple #[.pointer none, .int .i64 31])) w) := ⟨Below.refl _ _, .inl ⟨by rw [e]; decide, by rw [e]⟩⟩
    have e2 : fineE N = 31 := by unfold fineE; rw [hf]; rfl
    rw [e2] at con
    have CON := Lib.hid con
    clear e e2 hR hP hL con h1 h2
    go_enter Tryd.func7, Tryd.ntmps7
    go_wp2_with (go_at_call 28; refine Calls.mono CON.out ?_; rintro e w' ⟨rfl, rfl⟩)
    go_ret2
    exact hfin.out
  | true =>
    have e2 : fineE N = 0 := by unfold fineE; rw [hf]; rfl
    rw [e2] at con
    have CON := Lib.hid con
    have con2 := Lib.hid (orderOf_any N.length hn1 hn2 A1 c1 L w hT hP hll)
    have HR := Lib.hid hR
    have hfl := fine_len hf
    have HFL : Hid (∀ y ∈ N, y.length ≤ 1000000) := fun y hy => by have := hfl y hy; omega
    have hE : Hid (∀ r, (∃ h : ordE N.length L = r, r ≠ 0) → mkE N L = r) := by
      rintro r ⟨rfl, hr⟩
      unfold mkE
      rw [if_neg (by omega), hf]
      simp only [if_true]
      rw [if_neg hr]
    have hE2 : Hid (ordE N.length L = 0 → mkE N L = if isP N.length (ofL (natL L)) then 0 else 30) := fun h => by
      unfold mkE
      rw [if_neg (by omega), hf]
      simp only [if_true]
      rw [if_pos h]
    have HF := Lib.hid hf
    clear hR hP hL con e2 h1 h2 hfl hf
    go_enter Tryd.func7, Tryd.ntmps7
    go_wp2_with (go_at_call 28; refine Calls.mono CON.out ?_; rintro e w' ⟨rfl, rfl⟩)
    refine Calls.mono con2.out ?_
    rintro e w1 ⟨hb1, ⟨hr, rfl⟩ | ⟨hr, hTk, bo, rfl, S⟩⟩
    · have hq : (ordE N.length L != 0) = true := by simpa using hr
      have hfin : Hid (MakePost N L w (.returned (.tuple #[.pointer none, .int .i64 (ordE N.length L)])) w1) :=
        ⟨hb1, .inl ⟨by rw [hE.out _ ⟨rfl, hr⟩]; exact hr, by rw [hE.out _ ⟨rfl, hr⟩]⟩⟩
      generalize ordE N.length L = r at *
      go_wp2_with fail
      go_ret2
      exact hfin.out
    · have g := hTk.good hn1 (by omega)
      have t := hTk.anti hn1 (by omega)
      have con3 := Lib.hid (laid_any A0 c0 N bo N.length (ofL (natL L)) rfl g t hn2 w1 S.tab S.ord (HR.out.below hb1) HFL.out)
      have HE2 := Lib.hid (hE2.out hr)
      have HTK := Lib.hid hTk
      clear S hTk hE hE2 hr
      go_wp2_with fail
      refine Calls.mono con3.out ?_
      rintro e w2 ⟨b, rfl, L2, T2, hge, hb2⟩
      have con4 := Lib.hid (isLattice_any L2 g t hn2)
      have HL2 := Lib.hid L2
      have hb12 := hb1.trans (hb2.mono hb1.size)
      clear L2
      cases hp : isP N.length (ofL (natL L)) with
      | true =>
        have hfin : Hid (∀ q, MakePost N L w (.returned (.tuple #[.pointer (some ⟨b, 0, none⟩), .int .i64 0])) (w2.drewN q)) := fun q =>
          ⟨below_drewN hb12 q, .inr ⟨by rw [HE2.out, hp]; rfl, ⟨hn1, hn2, HF.out, HTK.out, hp, hll⟩, b, rfl, Nat.le_trans hb1.size hge, .inl HL2.out⟩⟩
        rw [hp] at con4
        clear hp
        go_wp2_with (go_at_call 31; refine Calls.mono con4.out ?_; rintro e w3 ⟨rfl, q, rfl⟩)
        go_ret2
        exact hfin.out _
      | false =>
        have hfin : Hid (∀ q, MakePost N L w (.returned (.tuple #[.pointer none, .int .i64 30])) (w2.drewN q)) := fun q =>
          ⟨below_drewN hb12 q, .inl ⟨by rw [HE2.out, hp]; decide, by rw [HE2.out, hp]; rfl⟩⟩
        rw [hp] at con4
        clear hp
        go_wp2_with (go_at_call 31; refine Calls.mono con4.out ?_; rintro e w3 ⟨rfl, q, rfl⟩)
        go_ret2
        exact hfin.out _
end Go.Proofs.YtaikhdmgcffflaaDoor
