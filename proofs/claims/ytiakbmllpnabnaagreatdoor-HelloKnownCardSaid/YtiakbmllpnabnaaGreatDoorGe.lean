/- The program's functions of layer 6 over its isPlain: portOf, isPattern, Norm, Write, Plain, Pattern, Match. -/
import Derived.Test.YtiakbmllpnabnaaGreatDoorGd
import Derived.Lib.AppendIntMem
namespace Go.Proofs.YtiakbmllpnabnaaGreatDoor
open Go Go.RowKit Pl

/-- The variables that the program reads. -/
structure Gl (w : World) : Prop where
  size : 8 ≤ w.heap.size
  pw : Lib.TabIs Tryz.prog w "internal/strconv.uint64pow10" .u64 Lib.pow10Tab
  es : ∃ tp p, w.cell? ⟨1, 0, none⟩ = some (.iface tp p)
  er : ∃ tp p, w.cell? ⟨2, 0, none⟩ = some (.iface tp p)
theorem pow_global : Tryz.prog.globalNamed "internal/strconv.uint64pow10" = some 3 := by kernel_rfl
theorem Gl.kept {w w' : World} (h : Gl w) (hs : w.heap.size ≤ w'.heap.size) (hb : ∀ k, k < 8 → w'.heap[k]? = w.heap[k]?) : Gl w' := by
  have hc : ∀ k j, k < 8 → w'.cell? ⟨k, j, none⟩ = w.cell? ⟨k, j, none⟩ := fun k j hk => by unfold World.cell?; rw [hb k hk]
  obtain ⟨tp, p, hp⟩ := h.es
  obtain ⟨tq, q, hq⟩ := h.er
  refine ⟨Nat.le_trans h.size hs, ?_, ⟨tp, p, (hc _ _ (by decide)).trans hp⟩, ⟨tq, q, (hc _ _ (by decide)).trans hq⟩⟩
  have := h.pw
  unfold Lib.TabIs World.var? at *
  rw [pow_global, Option.bind_some] at this ⊢
  rw [hb _ (by decide)]
  exact this
theorem Gl.below {w w' : World} (h : Gl w) (hb : Below w.heap.size w w') : Gl w' := h.kept hb.size fun k hk => hb.block k (by have := h.size; omega)
theorem Gl.drewN {w : World} (h : Gl w) (n : Nat) : Gl (w.drewN n) := h.kept (Nat.le_refl _) fun _ _ => rfl

def PortP (v : Int) (w : World) (e : Ending) (w' : World) : Prop := e = .returned (.int .i64 v) ∧ Below w.heap.size w w'
theorem atoiP_ok {l : List UInt8} {v : Int} (h : Lib.atoiAll l = .ok v) : atoiP l = if Lib.itoa v = l then v else 0 := by unfold atoiP; rw [h]
theorem atoiP_no {l : List UInt8} (h : ∀ v, Lib.atoiAll l ≠ .ok v) : atoiP l = 0 := by
  unfold atoiP; split
  · rename_i v hv; exact absurd hv (h v)
  · rfl
set_option maxHeartbeats 1000000 in
theorem portOf_any (s : ByteArray) (w : World) (hG : Gl w) (hs : s.size ≤ 1000000) :
    Calls Tryz.prog 75 #[.string s] w (PortP (atoiP s.data.toList) w) := by
  cases ha : Lib.atoiAll s.data.toList
  case ok v =>
    have hv := Lib.atoiAll_bounds ha
    have E := Lib.hid (atoiP_ok ha)
    have CA : Hid (∀ w, Calls Tryz.prog 91 #[.string s] w fun e w' => e = .returned (.tuple #[.int .i64 v, .nilIface]) ∧ Below w.heap.size w w') := Lib.hid fun w =>
      (Tryz.strconv_Atoi_ok s (by omega) v ha w).mono fun e w' ⟨he, hw⟩ => ⟨he, by
        rcases hw with rfl | ⟨t, rfl⟩
        · exact Below.refl _ _
        · exact bytesWorld_below w t⟩
    have CI : Hid (∀ w, Gl w → Calls Tryz.prog 92 #[.int .i64 v] w fun e w' => e = .returned (.string ⟨(Lib.itoa v).toArray⟩) ∧ Below w.heap.size w w') := Lib.hid fun w hg =>
      (Tryz.strconv_Itoa v hv.1 hv.2 w hg.pw).mono fun e w' ⟨he, k, os, hw⟩ => ⟨he, by rw [hw]; exact Lib.below_grow _ _ (Nat.le_refl _) _ _⟩
    rw [E.out]
    have HG := Lib.hid hG
    clear hG ha E
    by_cases hi : Lib.itoa v = s.data.toList
    · rw [if_pos hi]
      have hi1 : (⟨(Lib.itoa v).toArray⟩ : ByteArray) = s := by rw [hi]
      have HI := Lib.hid hi1
      clear hi hi1
      go_enter Tryz.func75, Tryz.ntmps75
      go_wp2_with (first
        | (go_at_call 91; refine (CA.out _).mono ?_; rintro e w1 ⟨rfl, hb1⟩; have HG1 := Lib.hid (HG.out.below hb1); have HB1 := Lib.hid hb1; clear hb1)
        | (go_at_call 92; refine (CI.out _ HG1.out).mono ?_; rintro e w2 ⟨rfl, hb2⟩; rw [HI.out]; have HB2 := Lib.hid (Below.and HB1.out hb2); clear hb2))
      go_ret
      exact ⟨rfl, HB2.out⟩
    · rw [if_neg hi]
      have hi1 : ¬ (⟨(Lib.itoa v).toArray⟩ : ByteArray) = s := fun e => hi (by rw [← e])
      generalize (⟨(Lib.itoa v).toArray⟩ : ByteArray) = z at *
      have hi2 : (z.toList == s.toList) = false := by
        rw [beq_eq_false_iff_ne, Lib.toList_data, Lib.toList_data]
        exact fun e => hi1 (by rw [← mk_data z, e, mk_data])
      clear hi
      go_enter Tryz.func75, Tryz.ntmps75
      go_wp2_with (first
        | (go_at_call 91; refine (CA.out _).mono ?_; rintro e w1 ⟨rfl, hb1⟩; have HG1 := Lib.hid (HG.out.below hb1); have HB1 := Lib.hid hb1; clear hb1)
        | (go_at_call 92; refine (CI.out _ HG1.out).mono ?_; rintro e w2 ⟨rfl, hb2⟩; have HB2 := Lib.hid (Below.and HB1.out hb2); clear hb2))
      go_ret
      exact ⟨rfl, HB2.out⟩
  case range =>
    have E := Lib.hid (atoiP_no (l := s.data.toList) (by rw [ha]; intro v h; cases h))
    rw [E.out]
    obtain ⟨tp, p, hp⟩ := hG.er
    have CA := Lib.hid (Tryz.strconv_Atoi_range s (by omega) ha _ w hp (.inr ⟨_, _, rfl⟩))
    clear ha E hG hp
    go_enter Tryz.func75, Tryz.ntmps75
    go_wp2_with (go_at_call 91; refine CA.out.mono ?_; rintro e w1 ⟨N, rfl, _, _, hb1⟩)
    go_ret
    exact ⟨rfl, hb1⟩
  next =>
    have E := Lib.hid (atoiP_no (l := s.data.toList) (by rw [ha]; intro v h; cases h))
    rw [E.out]
    obtain ⟨tp, p, hp⟩ := hG.es
    have CA := Lib.hid (Tryz.strconv_Atoi_syntax s (by omega) ha _ w hp (.inr ⟨_, _, rfl⟩))
    clear ha E hG hp
    go_enter Tryz.func75, Tryz.ntmps75
    go_wp2_with (go_at_call 91; refine CA.out.mono ?_; rintro e w1 ⟨N, rfl, _, _, hb1⟩)
    go_ret
    exact ⟨rfl, hb1⟩

theorem trim_rest (l : List UInt8) : Lib.trimPrefix l [42, 46] = restP l := rfl
theorem restP_len (l : List UInt8) : (restP l).length ≤ l.length := by unfold restP; split <;> simp
def ErrP (b : Bool) (w : World) (e : Ending) (w' : World) : Prop := e = .returned (.int .i64 (okE b)) ∧ Below w.heap.size w w'
theorem isPlain_l (l : List UInt8) (w : World) (hs : l.length ≤ 1000000) : Calls Tryz.prog 76 #[.string ⟨l.toArray⟩] w (BoolP (isPl l) w) := isPlain_any ⟨l.toArray⟩ w (by rw [size_mk]; exact hs)
theorem lower_l (l : List UInt8) (w : World) (hs : l.length ≤ 1000000) : Calls Tryz.prog 74 #[.string ⟨l.toArray⟩] w fun e w' => e = .returned (.string ⟨(lowS l).toArray⟩) ∧ Below w.heap.size w w' :=
  lower_any ⟨l.toArray⟩ w (by rw [size_mk]; unfold maxLen; omega) _ rfl
theorem portOf_l (l : List UInt8) (w : World) (hG : Gl w) (hs : l.length ≤ 1000000) : Calls Tryz.prog 75 #[.string ⟨l.toArray⟩] w (PortP (atoiP l) w) := portOf_any ⟨l.toArray⟩ w hG (by rw [size_mk]; exact hs)

/-- what Norm tells, of the parts as the program has them -/
theorem normP_form {l : List UInt8} {b : Bool} {n : Int} (hb : isPl (lowS (hdC 58 l)) = b) (hn : (if hasC 58 l then atoiP (tlC 58 l) else 80) = n) :
    normP l = if b && isP n then some (lowS (hdC 58 l), n) else none := by
  unfold normP portN
  subst hb hn
  cases hc : hasC 58 l
  · simp [isP]
  · simp only [if_true]
    have h := atoiP_port (tlC 58 l)
    cases hp : isP (atoiP (tlC 58 l))
    · rw [hp, if_neg (by simp)] at h
      rw [← h]; simp
    · rw [hp, if_pos rfl] at h
      rw [← h]
      have : atoiP (tlC 58 l) ≠ 0 := by
        intro e; rw [e] at hp; revert hp; decide
      simp [this]
set_option maxHeartbeats 1000000 in
theorem norm_prog (s : ByteArray) (w : World) (hG : Gl w) (hs : s.size ≤ 1000000) : Calls Tryz.prog 54 #[.string s] w (NormP s.data.toList w) := by
  have hz := Lib.size_eq s
  have hdl := hdC_le 58 s.data.toList
  have htl := tlC_le 58 s.data.toList
  have CC := Lib.hid (cutC_any 58 s w (by unfold maxLen; omega))
  have CL : Hid (∀ w, Calls Tryz.prog 74 #[.string ⟨(hdC 58 s.data.toList).toArray⟩] w fun e w' => e = .returned (.string ⟨(lowS (hdC 58 s.data.toList)).toArray⟩) ∧ Below w.heap.size w w') := Lib.hid fun w => lower_l _ w (by omega)
  have CO : Hid (∀ w, Gl w → Calls Tryz.prog 75 #[.string ⟨(tlC 58 s.data.toList).toArray⟩] w (PortP (atoiP (tlC 58 s.data.toList)) w)) := Lib.hid fun w hg => portOf_l _ w hg (by omega)
  have CP : Hid (∀ w, Calls Tryz.prog 76 #[.string ⟨(lowS (hdC 58 s.data.toList)).toArray⟩] w (BoolP (isPl (lowS (hdC 58 s.data.toList))) w)) := Lib.hid fun w => isPlain_l _ w (by rw [lowS_len]; omega)
  have E : ∀ b n, isPl (lowS (hdC 58 s.data.toList)) = b → (if hasC 58 s.data.toList then atoiP (tlC 58 s.data.toList) else 80) = n → normP s.data.toList = if b && isP n then some (lowS (hdC 58 s.data.toList), n) else none := fun _ _ h1 h2 => normP_form h1 h2
  have E := Lib.hid E
  have HG := Lib.hid hG
  unfold NormP
  generalize normP s.data.toList = r at *
  generalize hdC 58 s.data.toList = hd at *
  generalize atoiP (tlC 58 s.data.toList) = pt at *
  generalize tlC 58 s.data.toList = tl at *
  generalize isPl (lowS hd) = b at *
  generalize lowS hd = lo at *
  clear hG hz hdl htl hs
  cases hc : hasC 58 s.data.toList <;> rw [hc] at CC E <;> cases b <;> cases hp : isP pt
  all_goals
    have HP := Lib.hid hp
    clear hp hc
    have hr := E.out _ _ rfl rfl
    simp only [if_true, if_false, Bool.false_eq_true, HP.out, Bool.and_false, Bool.and_true, show isP 80 = true from rfl] at hr
    clear E
    subst hr
    go_enter Tryz.func54, Tryz.ntmps54
    go_wp2_with (first
      | (go_at_call 73; refine CC.out.mono ?_; rintro e w1 ⟨rfl, k1, rfl⟩; have HG1 := Lib.hid (HG.out.drewN k1); have HB1 := Lib.hid (below_drewN (Below.refl w.heap.size w) k1); generalize w.drewN k1 = w1 at *)
      | (go_at_call 74; refine (CL.out _).mono ?_; rintro e w2 ⟨rfl, hb2⟩; have HG2 := Lib.hid (HG1.out.below hb2); have HB2 := Lib.hid (Below.and HB1.out hb2); clear hb2)
      | (go_at_call 75; refine (CO.out _ HG2.out).mono ?_; rintro e w3 ⟨rfl, hb3⟩; have HB3 := Lib.hid (Below.and HB2.out hb3); clear hb3)
      | (go_at_call 76; refine (CP.out _).mono ?_; rintro e w4 ⟨rfl, hb4⟩; have HB4 := Lib.hid (Below.and HB3.out hb4); clear hb4)
      | (go_at_call 76; refine (CP.out _).mono ?_; rintro e w4 ⟨rfl, hb4⟩; have HB4 := Lib.hid (Below.and HB2.out hb4); clear hb4)
      | (go_at_call 77; refine (isPort_any _ _).mono ?_; rintro e w5 ⟨rfl, rfl⟩; rw [HP.out])
      | (go_at_call 77; refine (isPort_any _ _).mono ?_; rintro e w5 ⟨rfl, rfl⟩; rw [show isP 80 = true from rfl]))
    go_ret3
    exact ⟨rfl, HB4.out⟩
def WriteP (l : List UInt8) (n : Int) (w : World) (e : Ending) (w' : World) : Prop := e = .returned (writeV (writeP l n)) ∧ Below w.heap.size w w'
theorem isP_iff {n : Int} : isP n = true ↔ 1 ≤ n ∧ n ≤ 65535 := by unfold isP; rw [Bool.and_eq_true, decide_eq_true_iff, decide_eq_true_iff]
theorem str_app (a b : List UInt8) : (⟨a.toArray⟩ : ByteArray) ++ ⟨b.toArray⟩ = ⟨(a ++ b).toArray⟩ := ByteArray.mk_append_mk a b
theorem write_text (s : ByteArray) (n : Int) : s ++ ⟨#[58]⟩ ++ ⟨(Lib.itoa n).toArray⟩ = ⟨(s.data.toList ++ 58 :: Lib.itoa n).toArray⟩ := by
  rw [← mk_data s]
  show (⟨s.data.toList.toArray⟩ : ByteArray) ++ ⟨[58].toArray⟩ ++ _ = _
  rw [str_app, str_app]; simp
theorem itoa_len {n : Int} (h : isP n = true) : (Lib.itoa n).length ≤ 5 := by
  have h1 := isP_iff.1 h
  rw [show n = ((n.toNat : Nat) : Int) by omega, Lib.itoa_nonneg]
  exact decLen5 (by omega)
theorem eq_beq (a b : ByteArray) : (a.toList == b.toList) = decide (a.data.toList = b.data.toList) := by
  rw [Lib.toList_data, Lib.toList_data, Bool.eq_iff_iff, beq_iff_eq, decide_eq_true_iff]
theorem match_form {p h : List UInt8} (h1 : isPat p = true) (h2 : isPl h = true) : matchP p h = (decide (p = h) || decide (p = 42 :: 46 :: tlC 46 h)) := by
  unfold matchP
  rw [h1, h2]
  cases hc : hasC 46 h
  · have hn : 46 ∉ h := by unfold hasC at hc; exact of_decide_eq_false hc
    rw [(hdC_none hn).2]
    have : decide (p = [42, 46]) = false := decide_eq_false fun e => by rw [e, isPat_star] at h1; cases h1
    rw [this]; simp
  · simp
theorem star_text (l : List UInt8) : (⟨#[42, 46]⟩ : ByteArray) ++ ⟨l.toArray⟩ = ⟨(42 :: 46 :: l).toArray⟩ := str_app [42, 46] l
end Go.Proofs.YtiakbmllpnabnaaGreatDoor
