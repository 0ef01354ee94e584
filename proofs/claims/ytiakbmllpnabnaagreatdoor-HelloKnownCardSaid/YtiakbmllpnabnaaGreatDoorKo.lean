/- The program's reader: hostIn, suites, bytes.Clone. -/
import Derived.Test.YtiakbmllpnabnaaGreatDoorKm
import Derived.Test.YtiakbmllpnabnaaGreatDoorKj
import Derived.Deep.LoopGhost
namespace Go.Proofs.YtiakbmllpnabnaaGreatDoor
open Go Go.RowKit

/-- it gives up, or it does not; nothing that there was is turned -/
def OutB {α : Type} (o : Option α) (w : World) (good : α → Ending → World → Prop) (e : Ending) (w' : World) : Prop := (o = none → e = PanE ∧ Below w.heap.size w w') ∧ ∀ x, o = some x → good x e w'
theorem ho_len {d h : List UInt8} (e : hoC d = some h) : h.length ≤ d.length := by
  have := ho_some e
  rw [this, encN_len]; omega
theorem re_none {c : Cu} {k : Nat} (h : c = none) : reC c k = none := by subst h; exact muN _
set_option maxRecDepth 100000 in
set_option maxHeartbeats 400000 in
theorem rhostIn_any {D : Nat} {w : World} {A : Option Addr} {c n : Nat} {d : List UInt8} (h : Rb D w A c d) (hD : D ≤ w.heap.size) (hn : n = d.length) (hd : d.length ≤ 1000000) :
    Calls Tryz.prog 71 #[.slice A n c] w (OutB (hoC d) w fun s e w' => e = .returned (.string ⟨s.toArray⟩) ∧ Below w.heap.size w w') := by
  subst hn
  have hr0 := rdr_new w D d A c hD h hd
  have hb0 := below_new w (.cells #[.slice A d.length c] 86)
  have C1 := Lib.hid (rlast_any hr0 2 (by decide))
  have B0 := Lib.hid hb0
  have hHo : Hid (hoC d = reC (muC (tkC (reC (some d) 2) 1) (decide (nmV (reC (some d) 2) 1 = 0))) 2) := Lib.hid rfl
  generalize hoC d = H at *
  clear h hr0 hb0
  go_enter Tryz.func71, Tryz.ntmps71
  go_wp2_with fail
  refine C1.out.mono ?_
  intro e w1 hh
  cases hq1 : reC (some d) 2 with
  | none =>
    obtain ⟨rfl, hk1⟩ := hh.1 hq1
    have HH : Hid (H = none) := Lib.hid (by rw [hHo.out, hq1, tkN, muN]; exact muN _)
    have B1 := Lib.hid (B0.out.trans ((hk1.to (Nat.le_refl _) (by simp))))
    clear hh hk1 C1 hHo
    go_wp2_with fail
    exact ⟨rfl, fun _ => ⟨rfl, B1.out⟩, fun x e => by rw [HH.out] at e; cases e⟩
  | some R1 =>
    obtain ⟨g1, A1, c1, rfl, hr1, hg1, hk1⟩ := hh.2 R1 hq1
    rw [hq1] at hHo
    have B1 := Lib.hid (B0.out.trans ((hk1.to (Nat.le_refl _) (by simp))))
    have hg1' : w.heap.size ≤ g1 := by simp at hg1; omega
    have C2 := Lib.hid (rexpect_any hr1 1 0 (by decide))
    clear hh hk1 C1 hr1 hg1 hq1
    go_wp2_with fail
    refine C2.out.mono ?_
    intro e w2 hh
    generalize hq2 : muC (tkC (some R1) 1) (decide (nmV (some R1) 1 = 0)) = M2 at *
    cases M2 with
    | none =>
      obtain ⟨rfl, hk2⟩ := hh.1 rfl
      have HH : Hid (H = none) := Lib.hid (by rw [hHo.out]; exact muN _)
      have B2 := Lib.hid (B1.out.trans (hk2.to hg1' B1.out.size))
      clear hh hk2 C2 hHo hq2
      go_wp2_with fail
      exact ⟨rfl, fun _ => ⟨rfl, B2.out⟩, fun x e => by rw [HH.out] at e; cases e⟩
    | some R2 =>
      obtain ⟨rfl, ⟨A2, c2, hr2⟩, hk2⟩ := hh.2 R2 rfl
      have B2 := Lib.hid (B1.out.trans (hk2.to hg1' B1.out.size))
      have C3 := Lib.hid (rlast_any hr2 2 (by decide))
      clear hh hk2 C2 hr2 hq2
      go_wp2_with fail
      refine C3.out.mono ?_
      intro e w3 hh
      rw [← hHo.out] at hh
      cases H with
      | none =>
        obtain ⟨rfl, hk3⟩ := hh.1 rfl
        have B3 := Lib.hid (B2.out.trans (hk3.to hg1' B2.out.size))
        clear hh hk3 C3 hHo
        go_wp2_with fail
        exact ⟨rfl, fun _ => ⟨rfl, B3.out⟩, fun x e => by cases e⟩
      | some s =>
        obtain ⟨g3, A3, c3, rfl, hr3, hg3, hk3⟩ := hh.2 s rfl
        have B3 := Lib.hid (B2.out.trans (hk3.to hg1' B2.out.size))
        have d3 := rdr_c hr3
        have cv := hr3.rb.conv
        clear hh hk3 C3 hHo hr3
        generalize s.length = sl at *
        go_wp2_with fail
        go_ret
        exact ⟨(fun e => by cases e), fun x e => by
          obtain rfl := Option.some.inj e
          exact ⟨rfl, B3.out⟩⟩
theorem rowG_empty (w : World) (base : Nat) (hb : base ≤ w.heap.size) : RowG (w.alloc (.cells #[] 5)) base (some ⟨w.heap.size, 0, none⟩) 0 [] :=
  ⟨Nat.le_refl _, Nat.zero_le _, .inr ⟨w.heap.size, rfl, hb, by simp, fun j hj => by simp at hj, fun j hj => by simp at hj⟩⟩
theorem eqlNil_bytes (w : World) (a : Option Addr) (n c n' c' : Nat) : (binOp .eql 22 (.slice a n c) (.slice none n' c')).run Tryz.prog w = .ok (.bool a.isNone) w := Lib.run_eql_slice_nil w _ _ a n c n' c' Tryz.underlying22
set_option maxRecDepth 100000 in
set_option maxHeartbeats 400000 in
theorem bytesClone7 {D : Nat} {w : World} {A : Option Addr} {c n : Nat} {x : List UInt8} (h : Rb D w A c x) (hD : D ≤ w.heap.size) (hn : n = x.length) (hx : x.length ≤ 1000000) :
    Calls Tryz.prog 66 #[.slice A n c] w (MadeP x w) := by
  subst hn
  unfold MadeP
  have hq := eqlNil_bytes
  cases A with
  | none =>
    obtain rfl : x = [] := List.eq_nil_of_length_eq_zero (by have := h.cap; have := h.nil rfl; omega)
    clear h
    go_enter Tryz.func66, Tryz.ntmps66
    go_wp2_with fail
    go_ret
    exact ⟨none, 0, rfl, RowG.nil _ _, Below.refl _ _⟩
  | some ad =>
    have hb0 := below_new w (.cells #[] 5)
    have S := Lib.hid (src_rb (h.keep fun k hk => hb0.block k (Nat.lt_of_lt_of_le hk hD)))
    have R0 := Lib.hid (rowG_empty w w.heap.size (Nat.le_refl _))
    have HB := Lib.hid hb0
    clear h hb0
    go_enter Tryz.func66, Tryz.ntmps66
    go_wp2_with (at_builtin; refine wpList_pushW rfl (.tmp 5) (.tmp 6) 22 rfl _ w.heap.size (some ⟨w.heap.size, 0, none⟩) 0 0 x.length [] x (.slice (some ad) x.length c) rfl rfl rfl rfl R0.out S.out HB.out.size (by omega) ?_; intro A1 c1 w1 hr1 hb1; have R1 := Lib.hid hr1; have B1 := Lib.hid (HB.out.trans hb1.below); clear hr1 hb1)
    go_ret
    refine ⟨A1, c1, rfl, R1.out, B1.out⟩
/- suites -/
theorem suites_step {R : List UInt8} (h : 2 ≤ R.length) : suitesL R = ((nmV (some R) 2 : Nat) : Int) :: suitesL (R.drop 2) := by
  match R, h with
  | a :: b :: r, _ =>
    have e : nmV (some (a :: b :: r)) 2 = a.toNat * 256 + b.toNat := by
      have h0 : tkC (some (a :: b :: r)) 2 = some r := by unfold tkC; simp
      have h1 : tkV (some (a :: b :: r)) 2 = [a, b] := (tk_yes h0).2.2
      unfold nmV
      rw [h1, be_cons, be_cons]
      simp [be]
    rw [e]; rfl
theorem suitesL_short {R : List UInt8} (h : R.length < 2) : suitesL R = [] := by
  match R, h with
  | [], _ => rfl
  | [_], _ => rfl
theorem suitesL_len : ∀ (n : Nat) (R : List UInt8), R.length ≤ n → (suitesL R).length = R.length / 2
  | _, [], _ => rfl
  | _, [_], _ => by simp [suitesL]
  | 0, _ :: _ :: _, h => by simp at h
  | n + 1, a :: b :: r, h => by
    show (suitesL r).length + 1 = _
    rw [suitesL_len n r (by simp at h; omega)]
    simp only [List.length_cons]
    omega
theorem RowV.kp {sz g : Nat} {w w' : World} {base : Nat} {A : Option Addr} {n c : Nat} {vs : List Value} (h : RowV sz w base A n c vs) (hb : Kp g w.heap.size w w') (hg : g < base) : RowV sz w' base A n c vs :=
  h.keep hb.size fun q e => hb.block q (h.lt e).2 (by have := (h.lt e).1; omega)
/-- how far the suites have been read -/
def SuSt (d : List UInt8) (g D : Nat) (w : World) (f : Nat) (l : List Int) (A : Option Addr) (c : Nat) (wr : World) : Prop := ∃ (R : List UInt8) (A1 : Option Addr) (c1 : Nat), R.length ≤ f ∧ R.length ≤ d.length ∧ Rdr wr g D R A1 c1 ∧ RowV 1 wr (g + 1) A l.length c (intV l) ∧ suitesL d = l ++ suitesL R ∧ R.length % 2 = d.length % 2 ∧ l.length ≤ d.length ∧ Below g w wr
def suO (d : List UInt8) : Option (List Int) := if d.length % 2 = 0 then some (suitesL d) else none
set_option maxRecDepth 100000 in
set_option maxHeartbeats 1000000 in
theorem rsuites_any {D : Nat} {w : World} {A : Option Addr} {c n : Nat} {d : List UInt8} (h : Rb D w A c d) (hD : D ≤ w.heap.size) (hn : n = d.length) (hd : d.length ≤ 1000000) :
    Calls Tryz.prog 67 #[.slice A n c] w (OutB (suO d) w fun l e w' => ∃ (A' : Option Addr) (c' : Nat), e = .returned (.slice A' l.length c') ∧ RowV 1 w' (w.heap.size + 1) A' l.length c' (intV l) ∧ Below w.heap.size w w') := by
  subst hn
  obtain ⟨i0, hi0, hz0, hz1, hz2⟩ := info_parts infoI
  have hr0 := rdr_new w D d A c hD h hd
  have R0 := Lib.hid hr0
  have B0 := Lib.hid (below_new w (.cells #[.slice A d.length c] 86))
  have hSu : Hid (∀ l R, suitesL d = l ++ suitesL R → (R = [] → d.length % 2 = 0 → suO d = some l) ∧ (d.length % 2 = 1 → suO d = none)) := Lib.hid fun l R e => ⟨fun h1 h2 => by
    subst h1
    unfold suO
    rw [if_pos h2, e]
    show some (l ++ []) = _
    rw [List.append_nil], fun h1 => by unfold suO; rw [if_neg (by omega)]⟩
  generalize suO d = SU at *
  clear h hr0
  go_enter Tryz.func67, Tryz.ntmps67
  go_wp2_with fail
  generalize w.alloc (.cells #[.slice A d.length c] 86) = w0 at *
  generalize hg : w.heap.size = g at *
  go_loopg [3] d.length (fun f v wr => ∃ (l : List Int) (A' : Option Addr) (c' : Nat), v = .slice A' l.length c' ∧ Hid (SuSt d g D w f l A' c' wr))
  case atStart => exact ⟨[], none, 0, rfl, Lib.hid ⟨d, A, c, Nat.le_refl _, Nat.le_refl _, R0.out, RowV.nil 1 _ _, rfl, rfl, Nat.zero_le _, B0.out⟩⟩
  case round =>
    obtain ⟨l, A', c', rfl, hst⟩ := hrel
    obtain ⟨R, A1, c1, hf, hRd, hr, hrow, hsu, hpar, hll, hb⟩ := hst.out
    have d0 := rdr_c hr
    have HR := Lib.hid hr
    have HROW := Lib.hid hrow
    have HSU := Lib.hid hsu
    have HPAR := Lib.hid hpar
    have HB := Lib.hid hb
    clear hst hr hrow hsu hpar hb
    cases hRl : R with
    | nil =>
      subst hRl
      rw [List.length_nil] at d0
      have HS : Hid (SU = some l) := Lib.hid ((hSu.out l [] HSU.out).1 rfl (by rw [← HPAR.out]; rfl))
      clear hSu HSU HPAR HR
      go_wp2_with fail
      go_ret
      exact ⟨(fun e => by rw [HS.out] at e; cases e), fun x e => by
        rw [HS.out] at e
        obtain rfl := Option.some.inj e
        exact ⟨A', c', rfl, by first | exact HROW.out | (rw [hg]; exact HROW.out), by first | exact HB.out | (rw [hg]; exact HB.out)⟩⟩
    | cons x r =>
      have hpos : 0 < R.length := by rw [hRl]; simp
      have hposi : (0 : Int) < R.length := by omega
      clear hRl
      have CN := Lib.hid (rnumber_any HR.out 2 (by decide))
      go_wp2_with fail
      refine CN.out.mono ?_
      intro e w1 hh
      cases hq : tkC (some R) 2 with
      | none =>
        obtain ⟨rfl, hk1⟩ := hh.1 hq
        have hlt := tk_no hq
        have HS : Hid (SU = none) := Lib.hid ((hSu.out l R HSU.out).2 (by have := HPAR.out; omega))
        have B1 := Lib.hid (HB.out.trans (hk1.to (Nat.le_refl _) (Nat.le_of_lt HR.out.cs.lt)))
        clear hh hk1 hlt CN hSu HSU HPAR d0 hq
        go_wp2_with fail
        exact ⟨rfl, (fun _ => ⟨rfl, by first | exact B1.out | (rw [hg]; exact B1.out)⟩), fun x e => by rw [HS.out] at e; cases e⟩
      | some R2 =>
        obtain ⟨rfl, ⟨A2, c2, hr2⟩, hk1⟩ := hh.2 R2 hq
        obtain ⟨h2, rfl, _⟩ := tk_yes hq
        have hgw : g < wr.heap.size := HR.out.cs.lt
        have B1 := Lib.hid (HB.out.trans (hk1.to (Nat.le_refl _) (Nat.le_of_lt hgw)))
        have ROW1 := Lib.hid (HROW.out.kp hk1 (Nat.lt_succ_self _))
        have R2' := Lib.hid hr2
        have HSU2 := Lib.hid (show suitesL d = l ++ [((nmV (some R) 2 : Nat) : Int)] ++ suitesL (R.drop 2) by rw [HSU.out, suites_step h2, List.append_assoc]; rfl)
        have hgw1 : g < w1.heap.size := Nat.lt_of_lt_of_le hgw hk1.size
        clear hh hk1 CN hSu HSU d0 hq hr2 HROW HB HR hgw
        generalize nmV (some R) 2 = v at *
        have hbn := below_new w1 (.cells #[.int .i64 v] 3)
        have SRC := Lib.hid (src_one (sz := 1) (w := w1.alloc (.cells #[.int .i64 v] 3)) Tryz.underlying25 w1.heap.size [.int .i64 v] rfl (fun j hj => by
          obtain rfl : j = 0 := by simpa using hj
          rw [World.cell?_alloc_at _ _ _ _ rfl]; rfl) (fun u hu => by
          obtain rfl := List.mem_singleton.1 hu
          rfl))
        have ROW2 := Lib.hid (ROW1.out.below hbn)
        have R3 := Lib.hid (R2'.out.below hbn)
        have HBN := Lib.hid hbn
        clear hbn ROW1 R2'
        go_wp2_with (at_builtin; refine wpList_pushV rfl (.tmp 14) (.tmp 17) 25 3 25 rfl i0 _ 8 Tryz.underlying25 hi0 hz0 hz1 hz2 rfl (by decide) _ (g + 1) A' c' l.length 1 (intV l) [.int .i64 v] (.slice (some ⟨w1.heap.size, 0, none⟩) 1 1) rfl rfl rfl ROW2.out SRC.out (Nat.le_trans hgw1 HBN.out.size) (by omega) ?_; intro A3 c3 w3 hr3 hb3 ho3; have ROW3 := Lib.hid hr3; have B3 := Lib.hid hb3; have R4 : Hid (∃ A c, Rdr w3 g D (R.drop 2) A c) := Lib.hid ⟨A2, c2, R3.out.cs.keep hb3.size (hb3.block g (Nat.lt_succ_self _)), R3.out.dg, R3.out.rb.keep fun k hk => hb3.block k (by have := R3.out.dg; omega), R3.out.le⟩; clear hr3 hb3 ho3)
        go_roundg (R.drop 2).length
        case rel =>
          obtain ⟨A4, c4, hr4⟩ := R4.out
          refine ⟨l ++ [(v : Int)], A3, c3, by rw [List.length_append]; rfl, Lib.hid ⟨R.drop 2, A4, c4, Nat.le_refl _, by rw [List.length_drop]; omega, hr4, ?_, HSU2.out, ?_, ?_, (B1.out.trans (HBN.out.mono (Nat.le_of_lt hgw1))).trans (B3.out.mono (Nat.le_succ _))⟩⟩
          · have := ROW3.out
            unfold intV at this ⊢
            rw [List.map_append, List.length_append]
            exact this
          · rw [List.length_drop]; have := HPAR.out; omega
          · have h1 := congrArg List.length HSU2.out
            rw [suitesL_len d.length d (Nat.le_refl _)] at h1
            simp only [List.length_append] at h1 ⊢
            omega
        case measure => rw [List.length_drop]; omega
end Go.Proofs.YtiakbmllpnabnaaGreatDoor
