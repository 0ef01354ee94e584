/- Do both stand alike (same): the program's order and the chapter's. -/
import Derived.Test.YtkiaolegpjkbdaaDoorWu
namespace Go.Proofs.YtkiaolegpjkbdaaDoor
open Go Go.RowKit Go.Shelf

/-- Is it an element? -/
def isEl (n : Nat) (a : Int) : Bool := decide (0 ≤ a ∧ a < n)
def upG (n : Nat) (A : Nat → Nat) (a : Int) : List Nat := if isEl n a then upL n A a.toNat else []
def dnG (n : Nat) (A : Nat → Nat) (a : Int) : List Nat := if isEl n a then dnL n A a.toNat else []
def leG (n : Nat) (A : Nat → Nat) (a b : Int) : Bool := isEl n a && isEl n b && le A a.toNat b.toNat
theorem isEl_nat {n : Nat} {a : Int} (h : 0 ≤ a ∧ a < n) : ∃ k : Nat, a = k ∧ k < n := ⟨a.toNat, by omega, by omega⟩

/-- The program's order and the chapter's, side by side. -/
structure Both (w : World) (b base bm n : Nat) (v : Value) (L : List (Nat × Nat)) (W : World) : Prop where
  o : OSt w b n (ofL L) W
  m : Ref W base bm n v L
theorem Both.below {w W W' : World} {b base bm n : Nat} {v : Value} {L : List (Nat × Nat)} (h : Both w b base bm n v L W) (hb : Below W.heap.size W W') : Both w b base bm n v L W' := ⟨h.o.below hb, h.m.below hb⟩
theorem Ns.len {W : World} {v : Value} {l : List Nat} (h : Ns W v l) : ∃ A c, v = .slice A l.length c := let ⟨A, c, e, _⟩ := h; ⟨A, c, e⟩

section
variable {w W : World} {b base bm n : Nat} {v : Value} {L : List (Nat × Nat)}
theorem up_gen (B : Both w b base bm n v L W) (f : Fine n L) (a : Int) : Calls Tryd.prog 22 #[.pointer (some ⟨b, 0, none⟩), .int .i64 a] W (NsPost (upG n (ofL L) a) W) := by
  by_cases h : 0 ≤ a ∧ a < n
  · obtain ⟨k, rfl, hk⟩ := isEl_nat h
    have e : upG n (ofL L) k = upL n (ofL L) k := by simp [upG, isEl, hk]
    rw [e]
    exact up_yes b n (ofL L) f.good k hk W B.o.tab B.o.ord
  · have e : upG n (ofL L) a = [] := by simp [upG, isEl, h]
    rw [e]
    exact (up_no b n (ofL L) a h W B.o.ord).mono fun _ _ ⟨he, hw⟩ => ⟨_, he, Ns.nil _, by rw [← hw]; exact Below.refl _ _⟩
theorem down_gen (B : Both w b base bm n v L W) (f : Fine n L) (a : Int) : Calls Tryd.prog 23 #[.pointer (some ⟨b, 0, none⟩), .int .i64 a] W (NsPost (dnG n (ofL L) a) W) := by
  by_cases h : 0 ≤ a ∧ a < n
  · obtain ⟨k, rfl, hk⟩ := isEl_nat h
    have e : dnG n (ofL L) k = dnL n (ofL L) k := by simp [dnG, isEl, hk]
    rw [e]
    exact down_yes b n (ofL L) f.good k hk W B.o.tab B.o.ord
  · have e : dnG n (ofL L) a = [] := by simp [dnG, isEl, h]
    rw [e]
    exact (down_no b n (ofL L) a h W B.o.ord).mono fun _ _ ⟨he, hw⟩ => ⟨_, he, Ns.nil _, by rw [← hw]; exact Below.refl _ _⟩
theorem refUp_gen (B : Both w b base bm n v L W) (f : Fine n L) (a : Int) : Calls Tryd.prog 32 #[.pointer (some ⟨bm, 0, none⟩), .int .i64 a] W (NsPost (upG n (ofL L) a) W) := by
  by_cases h : 0 ≤ a ∧ a < n
  · obtain ⟨k, rfl, hk⟩ := isEl_nat h
    have e : upG n (ofL L) k = upL n (ofL L) k := by simp [upG, isEl, hk]
    rw [e]
    exact refUp_yes base bm n v L k W B.m f hk
  · have e : upG n (ofL L) a = [] := by simp [upG, isEl, h]
    rw [e]
    exact (refUp_no bm n a W B.m.many f.le16 h).mono fun _ _ ⟨he, hw⟩ => ⟨_, he, Ns.nil _, by rw [← hw]; exact Below.refl _ _⟩
theorem refDown_gen (B : Both w b base bm n v L W) (f : Fine n L) (a : Int) : Calls Tryd.prog 33 #[.pointer (some ⟨bm, 0, none⟩), .int .i64 a] W (NsPost (dnG n (ofL L) a) W) := by
  by_cases h : 0 ≤ a ∧ a < n
  · obtain ⟨k, rfl, hk⟩ := isEl_nat h
    have e : dnG n (ofL L) k = dnL n (ofL L) k := by simp [dnG, isEl, hk]
    rw [e]
    exact refDown_yes base bm n v L k W B.m f hk
  · have e : dnG n (ofL L) a = [] := by simp [dnG, isEl, h]
    rw [e]
    exact (refDown_no bm n a W B.m.many f.le16 h).mono fun _ _ ⟨he, hw⟩ => ⟨_, he, Ns.nil _, by rw [← hw]; exact Below.refl _ _⟩
theorem atMost_gen (B : Both w b base bm n v L W) (f : Fine n L) (x y : Int) : Calls Tryd.prog 19 #[.pointer (some ⟨b, 0, none⟩), .int .i64 x, .int .i64 y] W fun e W' => e = .returned (.bool (leG n (ofL L) x y)) ∧ Below W.heap.size W W' := by
  by_cases h : (0 ≤ x ∧ x < n) ∧ (0 ≤ y ∧ y < n)
  · obtain ⟨k, rfl, hk⟩ := isEl_nat h.1
    obtain ⟨j, rfl, hj⟩ := isEl_nat h.2
    have e : leG n (ofL L) k j = le (ofL L) k j := by simp [leG, isEl, hk, hj]
    rw [e]
    exact atMost_yes b n (ofL L) f.good k j W B.o.tab B.o.ord hk hj
  · have e : leG n (ofL L) x y = false := by
      unfold leG isEl
      rcases Classical.not_and_iff_not_or_not.1 h with h | h
      · rw [decide_eq_false h]; rfl
      · rw [decide_eq_false h, Bool.and_false]; rfl
    rw [e]
    exact (atMost_out b n (ofL L) x y W B.o.ord (Classical.not_and_iff_not_or_not.1 h)).mono fun _ _ ⟨he, hw⟩ => ⟨he, by rw [← hw]; exact Below.refl _ _⟩
theorem refAtMost_gen (B : Both w b base bm n v L W) (f : Fine n L) (x y : Int) : Calls Tryd.prog 27 #[.pointer (some ⟨bm, 0, none⟩), .int .i64 x, .int .i64 y] W fun e W' => e = .returned (.bool (leG n (ofL L) x y)) ∧ Below W.heap.size W W' := by
  by_cases h : (0 ≤ x ∧ x < n) ∧ (0 ≤ y ∧ y < n)
  · obtain ⟨k, rfl, hk⟩ := isEl_nat h.1
    obtain ⟨j, rfl, hj⟩ := isEl_nat h.2
    have e : leG n (ofL L) k j = le (ofL L) k j := by simp [leG, isEl, hk, hj]
    rw [e]
    exact refAtMost_any base bm n v L k j W B.m f hk hj
  · have e : leG n (ofL L) x y = false := by
      unfold leG isEl
      rcases Classical.not_and_iff_not_or_not.1 h with h | h
      · rw [decide_eq_false h]; rfl
      · rw [decide_eq_false h, Bool.and_false]; rfl
    rw [e]
    exact (refAtMost_no bm n x y W B.m.many (Classical.not_and_iff_not_or_not.1 h)).mono fun _ _ ⟨he, hw⟩ => ⟨he, by rw [← hw]; exact Below.refl _ _⟩
end
theorem eqNN {W : World} {v v' : Value} {l : List Nat} (hv : Ns W v l) (hv' : Ns W v' l) (hl : l.length ≤ 1000000000) :
    Calls Tryd.prog 30 #[v, v'] W fun e w' => e = .returned (.bool true) ∧ Below W.heap.size W w' := by
  obtain ⟨B, d, rfl, hb⟩ := hv'
  exact eqN hv hb rfl rfl hl
theorem samePP {W : World} {v v' : Value} {l : List (Int × Int)} (hv : Ps W v l) (hv' : Ps W v' l) (hl : l.length ≤ 1000000000) :
    Calls Tryd.prog 28 #[v, v'] W fun e w' => e = .returned (.bool true) ∧ Below W.heap.size W w' := by
  obtain ⟨A, c, rfl, ha⟩ := hv
  obtain ⟨B, d, rfl, hb⟩ := hv'
  exact (samePairs_any A B c d l l W ha hb hl hl).mono fun _ _ ⟨e, n, hw⟩ => ⟨by rw [e, decide_eq_true rfl], by rw [hw]; exact below_drewN (Below.refl _ _) n⟩
theorem upG_len (n : Nat) (A : Nat → Nat) (a : Int) : (upG n A a).length ≤ n := by
  unfold upG
  split
  · exact filter_len_le n
  · simp
theorem dnG_len (n : Nat) (A : Nat → Nat) (a : Int) : (dnG n A a).length ≤ n := by
  unfold dnG
  split
  · exact filter_len_le n
  · simp

theorem undrew {W w1 : World} (h : Below W.drew.heap.size W.drew w1) : Below W.heap.size W w1 := ⟨h.os, h.tape, h.output, h.size, h.block⟩
set_option maxHeartbeats 4000000 in
set_option maxRecDepth 100000 in
theorem same_any {w W : World} {b base bm n : Nat} {v : Value} {L : List (Nat × Nat)} (B : Both w b base bm n v L W) (f : Fine n L) (t : Anti (ofL L)) :
    Calls Tryd.prog 14 #[.pointer (some ⟨b, 0, none⟩), .pointer (some ⟨bm, 0, none⟩)] W fun e W' => e = .returned (.bool true) ∧ Below W.heap.size W W' := by
  have h2 := f.le16
  have g := f.good
  have hcn := B.m.many
  have hnn : ((n : Int) != n) = false := by simp
  have hcl : (covL n (ofL L)).length ≤ 256 := Nat.le_trans (covTo_len n (ofL L) n) (Nat.le_trans (Nat.mul_le_mul h2 h2) (by decide))
  have hll : (lineL n (ofL L)).length ≤ 1000000000 := by rw [(lineL_lined g t).2]; omega
  have hcl' : ((covL n (ofL L)).map up2).length ≤ 1000000000 := by rw [List.length_map]; omega
  go_enter Tryd.func14, Tryd.ntmps14
  go_wp2_with fail
  go_region_held3 (fun w' => w'.cell? ⟨bm, 0, none⟩ = some (.int .i64 n)) (go_keep)
    (first
      | (go_at_call 18; refine (many_any b n (ofL L) _ (by exact B.o.ord)).mono ?_; rintro e w' ⟨rfl, rfl⟩)
      | (go_at_call 20; refine (covers_post b n (ofL L) g _ (by exact B.o.tab) (by exact B.o.ord)).mono ?_; rintro e w1 ⟨v1, rfl, hv1, hb1⟩; have hb1' := undrew hb1; have B1 := B.below hb1'; have d1 := B1.m.many)
      | (go_at_call 29; refine (refCovers_any base bm n v L _ (by exact B1.m) f).mono ?_; rintro e w2 ⟨v2, rfl, hv2, hb2⟩; have B2 := B1.below hb2; have d2 := B2.m.many; have hv1' := hv1.below hb2)
      | (go_at_call 28; refine (samePP hv1' hv2 hcl').mono ?_; rintro e w3 ⟨rfl, hb3⟩; have B3 := B2.below hb3; have d3 := B3.m.many)
      | (go_at_call 21; refine (line_any b n (ofL L) g t _ (by exact B3.o.tab) (by exact B3.o.ord)).mono ?_; rintro e w4 ⟨v4, rfl, hv4, hb4⟩; have B4 := B3.below hb4; have d4 := B4.m.many)
      | (go_at_call 31; refine (refLine_any base bm n v L _ (by exact B4.m) f t).mono ?_; rintro e w5 ⟨v5, rfl, hv5, hb5⟩; have B5 := B4.below hb5; have d5 := B5.m.many; have hv4' := hv4.below hb5)
      | (go_at_call 30; refine (eqNN hv4' hv5 hll).mono ?_; rintro e w6 ⟨rfl, hb6⟩; have B6 := B5.below hb6; have d6 := B6.m.many))
  have hbA : Below W.heap.size W w6 := Below.and (Below.and (Below.and (Below.and (Below.and hb1' hb2) hb3) hb4) hb5) hb6
  clear B B1 B2 B3 B4 B5 hv1 hv1' hv2 hv4 hv4' hv5 hb1 hb1' hb2 hb3 hb4 hb5 hb6 d1 d2 d3 d4 d5 d6 hcn hcl hcl' hll
  have HB6 := Lib.hid B6
  clear B6
  go_wp2_with fail
  go_loopw [5] (fun i wr => ∃ x : Int, -1 ≤ x ∧ x ≤ n + 1 ∧ i = .int .i64 x ∧ Below w6.heap.size w6 wr) (fun i _ => ((n : Int) + 1 - intOf i).toNat)
  case atStart => exact ⟨-1, by omega, by omega, rfl, Below.refl _ _⟩
  case round =>
    obtain ⟨x, hx1, hx2, rfl, hBx⟩ := hrel
    obtain ⟨wp, rfl⟩ : ∃ wp : World, wp = wr := ⟨_, rfl⟩
    have Bx := HB6.out.below hBx
    have hcn := Bx.m.many
    by_cases hxn : x ≤ n
    · have hul := upG_len n (ofL L) x
      have hdl := dnG_len n (ofL L) x
      go_wp2_with fail
      refine (up_gen Bx f x).mono ?_
      rintro e w7 ⟨v7, rfl, hv7, hb7⟩
      have B7 := Bx.below hb7
      clear Bx hcn
      go_wp2_with fail
      refine (refUp_gen B7 f x).mono ?_
      rintro e w8 ⟨v8, rfl, hv8, hb8⟩
      have B8 := B7.below hb8
      have hv7' := hv7.below hb8
      clear B7 hv7
      go_wp2_with fail
      refine (eqNN hv7' hv8 (by omega)).mono ?_
      rintro e w9 ⟨rfl, hb9⟩
      have B9 := B8.below hb9
      clear B8 hv7' hv8
      go_wp2_with fail
      refine (down_gen B9 f x).mono ?_
      rintro e w10 ⟨v10, rfl, hv10, hb10⟩
      have B10 := B9.below hb10
      clear B9
      go_wp2_with fail
      refine (refDown_gen B10 f x).mono ?_
      rintro e w11 ⟨v11, rfl, hv11, hb11⟩
      have B11 := B10.below hb11
      have hv10' := hv10.below hb11
      clear B10 hv10
      go_wp2_with fail
      refine (eqNN hv10' hv11 (by omega)).mono ?_
      rintro e w12 ⟨rfl, hb12⟩
      have hB12 : Below w6.heap.size w6 w12 := Below.and hBx (Below.and (Below.and (Below.and (Below.and (Below.and hb7 hb8) hb9) hb10) hb11) hb12)
      clear B11 hv10' hv11 hb7 hb8 hb9 hb10 hb11 hb12 hBx hul hdl
      go_wp2_with fail
      go_loopw [6] (fun i wr => ∃ y : Int, -1 ≤ y ∧ y ≤ n + 1 ∧ i = .int .i64 y ∧ Below w6.heap.size w6 wr) (fun i _ => ((n : Int) + 1 - intOf i).toNat)
      case atStart => exact ⟨-1, by omega, by omega, rfl, hB12⟩
      case round =>
        obtain ⟨y, hy1, hy2, rfl, hBy⟩ := hrel
        clear hB12
        obtain ⟨wq, rfl⟩ : ∃ wq : World, wq = wr := ⟨_, rfl⟩
        have By := HB6.out.below hBy
        have hcn := By.m.many
        by_cases hyn : y ≤ n
        · go_wp2_with fail
          refine (atMost_gen By f x y).mono ?_
          rintro e w13 ⟨rfl, hb13⟩
          have B13 := By.below hb13
          clear By hcn
          go_wp2_with fail
          refine (refAtMost_gen B13 f x y).mono ?_
          rintro e w14 ⟨rfl, hb14⟩
          have hB14 : Below w6.heap.size w6 w14 := Below.and hBy (Below.and hb13 hb14)
          clear B13 hb13 hb14 hBy
          have hbx : (leG n (ofL L) x y != leG n (ofL L) x y) = false := by simp
          go_wp2_with fail
          go_roundw
          case rel => exact ⟨y + 1, by omega, by omega, rfl, hB14⟩
          case measure => simp [intOf]; omega
        · go_wp2_with fail
          go_roundw
          case rel => exact ⟨x + 1, by omega, by omega, rfl, hBy⟩
          case measure => simp [intOf]; omega
    · go_wp2_with fail
      go_ret
      exact ⟨rfl, Below.and hbA hBx⟩
end Go.Proofs.YtkiaolegpjkbdaaDoor
