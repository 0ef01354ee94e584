/- The statement HeadStrips. -/
import Derived.Test.YtfiioojnmjnmmaaDoorHz
namespace Go.Proofs.YtfiioojnmjnmmaaDoor
open Go Go.RowKit

theorem low_up {c : UInt8} (h1 : 97 ≤ c.toNat) (h2 : c.toNat ≤ 122) : lowB (UInt8.ofNat (c.toNat - 32)) = lowB c := by
  have hc : (UInt8.ofNat (c.toNat - 32)).toNat = c.toNat - 32 := by
    rw [UInt8.toNat_ofNat']
    omega
  rw [lowB_id (c := c) (by omega)]
  apply UInt8.toNat_inj.1
  rw [lowB_up (by omega) (by omega), hc]
  omega
theorem strip_low {L : List Hd} {g y : List UInt8} (hl : g.length = y.length) (h : lowS g = lowS y) : stripL L g = stripL L y := by
  unfold stripL begS
  rw [hl, h]
theorem strip_twice (L : List Hd) (y : List UInt8) : stripL (stripL L y) y = stripL L y := by
  unfold stripL
  rw [List.filter_filter]
  congr 1
  funext h
  simp
theorem strip_at {L : List Hd} {y : List UInt8} {i : Nat} (hi : i < L.length) (h : begS L[i].1 y = false) : ∃ h : (stripL (L.take i) y).length < (stripL L y).length, (stripL L y)[(stripL (L.take i) y).length] = L[i] := by
  have e := stripL_no (y := y) hi h
  obtain ⟨t, ht⟩ : stripL (L.take (i + 1)) y <+: stripL L y := (List.take_prefix _ L).filter _
  rw [e] at ht
  have hl : (stripL (L.take i) y).length < (stripL L y).length := by rw [← ht]; simp
  refine ⟨hl, ?_⟩
  have : (stripL L y)[(stripL (L.take i) y).length]? = some L[i] := by
    rw [← ht, List.append_assoc, List.getElem?_append_right (Nat.le_refl _)]
    simp
  rw [List.getElem?_eq_getElem hl] at this
  exact Option.some.inj this
theorem lows_step {g : List UInt8} {s : ByteArray} {k : Nat} (hk : k < s.size) (h : lowS g = lowS (s.data.toList.take k)) (c : UInt8) (hc : lowB c = lowB s[k]) : lowS (g ++ [c]) = lowS (s.data.toList.take (k + 1)) := by
  rw [lowS_append, h, lowS_step s k hk]
  show _ ++ [lowB c] = _
  rw [hc]

set_option maxHeartbeats 4000000 in
set_option maxRecDepth 100000 in
theorem headStrips_any (A : Option Addr) (c : Nat) (l : List Hd) (t : List UInt8) (bits : Int) (w : World) (hr : Rd w A (hv l)) (hm : Mx l) (ht : t.length ≤ maxLen) (hb1 : -9223372036854775808 ≤ bits) (hb2 : bits < 9223372036854775808) :
    Calls Tryd.prog 8 #[.slice A l.length c, .string ⟨t.toArray⟩, .int .i64 bits] w fun e w' => e = .returned (.bool true) ∧ Below w.heap.size w w' := by
  have hy : (t.take 250).length ≤ 250 := by rw [List.length_take]; omega
  have SL := cutL_sm l
  have L20 := cutL_len l
  have c1 := Lib.hid (cut_any A c l w hr hm)
  have c3 := Lib.hid (short_anyL t)
  generalize cutL l = L at *
  obtain ⟨s, hs⟩ : ∃ s : ByteArray, s = ⟨(t.take 250).toArray⟩ := ⟨_, rfl⟩
  have hsd : s.data.toList = t.take 250 := by rw [hs, mk_toList]
  have hsz : s.size ≤ 250 := by rw [hs, mk_size]; exact hy
  rw [← hs] at c3
  have HB1 := Lib.hid hb1
  have HB2 := Lib.hid hb2
  clear hr hm hs hy hb1 hb2
  go_enter Tryd.func8, Tryd.ntmps8
  go_wp2_with fail
  go_at_call 10
  refine c1.out.mono ?_
  rintro e w1 ⟨u0, rfl, h0, b1⟩
  have H0 := Lib.hid h0.hs
  have B1 := Lib.hid b1
  clear h0 b1 c1
  go_wp2_with fail
  refine (c3.out w1 ht).mono ?_
  rintro e w2 ⟨rfl, rfl⟩
  clear c3
  go_wp2_with fail
  go_loopw [7, 8] (fun v i wr => ∃ (k : Nat) (A2 : Option Addr) (c2 : Nat) (g : List UInt8), k ≤ s.size ∧ i = .int .i64 k ∧ v = .slice A2 k c2 ∧ g.length = k ∧ Hid (lowS g = lowS (s.data.toList.take k)) ∧ OwnB wr w1.heap.size v g ∧ Below w1.heap.size w1 wr) (fun _ i _ => s.size - (intOf i).toNat)
  case atStart => exact ⟨0, none, 0, [], Nat.zero_le _, rfl, rfl, rfl, rfl, OwnB.nil _ _, Below.refl _ _⟩
  case round =>
    obtain ⟨k, A2, c2, g, hk, rfl, rfl, hgl, hlow, hown, hb⟩ := hrel
    by_cases hlt : k < s.size
    · have hst1 := Lib.hid fun c hc => lows_step hlt hlow.out c hc
      have i1 : (k : Int) < 250 := by omega
      have i2 : (0 : Int) ≤ k := by omega
      obtain ⟨x, hx⟩ : ∃ x, s[k] = x := ⟨_, rfl⟩
      rw [hx] at hst1
      go_upto_region 7 with fail
      go_cut [40] from 27 to 40 (fun u wx => ∃ b : Bool, u = .bool b ∧ (b = true → 97 ≤ x.toNat ∧ x.toNat ≤ 122) ∧ wx = wr)
      case first =>
        clear hx hst1 hlow
        by_cases h97 : 97 ≤ x.toNat
        · by_cases h122 : x.toNat ≤ 122
          · cases hqq : (Go.bits BinOp.and IntKind.i64 (bits / 2 ^ (k % 60)) 1 == 1) with
            | true =>
              have HX := Lib.hid (And.intro h97 h122)
              go_wp2_with fail
              go_meet
              case rel => exact ⟨true, rfl, fun _ => HX.out, rfl⟩
            | false =>
              go_wp2_with fail
              go_meet
              case rel => exact ⟨false, rfl, (fun h => by cases h), rfl⟩
          · have h122' : 122 < x.toNat := by omega
            go_wp2_with fail
            go_meet
            case rel => exact ⟨false, rfl, (fun h => by cases h), rfl⟩
        · go_wp2_with fail
          go_meet
          case rel => exact ⟨false, rfl, (fun h => by cases h), rfl⟩
      case rest =>
        obtain ⟨b, rfl, hbx, rfl⟩ := hcut
        cases b with
        | true =>
          obtain ⟨h97, h122⟩ := hbx rfl
          have hst2 := Lib.hid (hst1.out (UInt8.ofNat (x.toNat - 32)) (low_up h97 h122))
          have hu : ((UInt8.ofNat (x.toNat - 32)).toNat : Int) = (x.toNat : Int) - 32 := by rw [UInt8.toNat_ofNat']; omega
          have HU := Lib.hid hu.symm
          have HX8 : (x.toNat : Int) ≤ 122 := by omega
          have HX7 : (97 : Int) ≤ x.toNat := by omega
          clear hu hst1 hbx hlow h97 h122
          generalize UInt8.ofNat (x.toNat - 32) = c' at *
          go_wp2_with (at_builtin; refine wpList_pushb rfl (.tmp 43) (.tmp 45) rfl _ w1.heap.size _ g _ c' HU.out rfl hown (by rfl) hb.size (by omega) ?_; intro v3 w3 hown3 hb3)
          obtain ⟨A3, c3, hv3, _⟩ := Rd.own hown3
          have hgl' : (g ++ [c']).length = k + 1 := by rw [List.length_append, hgl]; rfl
          go_roundw
          case rel => exact ⟨k + 1, A3, c3, g ++ [c'], by omega, by go_num, by rw [hv3, hgl'], hgl', hst2, hown3, hb.trans hb3⟩
          case measure => simp [intOf]; omega
        | false =>
          have hst2 := Lib.hid (hst1.out x rfl)
          clear hst1 hbx hlow
          go_wp2_with (at_builtin; refine wpList_pushb rfl (.tmp 43) (.tmp 45) rfl _ w1.heap.size _ g _ x rfl rfl hown (by rfl) hb.size (by omega) ?_; intro v3 w3 hown3 hb3)
          obtain ⟨A3, c3, hv3, _⟩ := Rd.own hown3
          have hgl' : (g ++ [x]).length = k + 1 := by rw [List.length_append, hgl]; rfl
          go_roundw
          case rel => exact ⟨k + 1, A3, c3, g ++ [x], by omega, by go_num, by rw [hv3, hgl'], hgl', hst2, hown3, hb.trans hb3⟩
          case measure => simp [intOf]; omega
    · rw [take_full s (by omega)] at hlow
      obtain rfl : k = s.size := by omega
      have HO := Lib.hid hown
      have BI := Lib.hid hb
      have hcv := hown.conv
      clear hown hb
      have hyl : s.data.toList.length = s.size := (Lib.size_eq s).symm
      have hgy : g.length = s.data.toList.length := by omega
      have ca := Lib.hid (strip_any u0 L g wr (H0.out.below BI.out) SL (by omega))
      rw [strip_low hgy hlow.out] at ca
      have cl := Lib.hid fun w => lower_any s w (by unfold maxLen; omega) _ rfl
      clear hlow hgy
      go_wp2_with fail
      refine ca.out.mono ?_
      rintro e w5 ⟨v5, rfl, h5, b5⟩
      have BI := Lib.hid (BI.out.trans (b5.mono BI.out.size))
      have H5 := Lib.hid (H0.out.below BI.out)
      have HA := Lib.hid h5.hs
      clear h5 b5 ca HO hcv
      obtain ⟨A0, d0, rfl, _, _, hr0⟩ := id H5.out
      have HR := Lib.hid hr0
      clear hr0
      obtain ⟨A5, d5, rfl, _, _, hr5⟩ := id HA.out
      have HR5 := Lib.hid hr5
      clear hr5
      have hn5 : (stripL L s.data.toList).length ≤ 20 := Nat.le_trans (List.length_filter_le _ _) L20
      obtain ⟨n5, hn⟩ : ∃ n5, (stripL L s.data.toList).length = n5 := ⟨_, rfl⟩
      rw [hn] at hn5 HA ⊢
      have HN := Lib.hid hn
      clear hn
      go_wp2_with fail
      go_loopw [11, 12] (fun v i wr => ∃ (k : Nat), k ≤ L.length ∧ i = .int .i64 k ∧ v = .int .i64 ((stripL (L.take k) s.data.toList).length : Nat) ∧ Below w5.heap.size w5 wr) (fun _ i _ => L.length - (intOf i).toNat)
      case atStart => exact ⟨0, Nat.zero_le _, rfl, rfl, Below.refl _ _⟩
      case round =>
        obtain ⟨k, hk, rfl, rfl, hb⟩ := hrel
        by_cases hlt : k < L.length
        · obtain ⟨b, o, rfl, hbl, h1, h2⟩ := (HR.out.below hb).head k hlt
          obtain ⟨z1, z2⟩ := SL.2 L[k] (List.getElem_mem hlt)
          have i1 : (0 : Int) ≤ k := by omega
          have i2 : (k : Int) < L.length := by omega
          have hps := mk_size L[k].1
          have hex := mk_extract L[k].1 s.size
          have hAT := Lib.hid (strip_at (L := L) (y := s.data.toList) hlt)
          by_cases hlen : s.size ≤ L[k].1.length
          · have c1 := Lib.hid fun w => lower_anyL (L[k].1.take s.size) (by rw [List.length_take]; omega) _ rfl w
            have hbg : begS L[k].1 s.data.toList = (lowS (L[k].1.take s.size) == lowS s.data.toList) := by unfold begS; rw [hyl, decide_eq_true hlen, Bool.true_and]
            rw [← hex] at c1
            have e1 : (s.size : Int) ≤ L[k].1.length := by omega
            cases q1 : begS L[k].1 s.data.toList with
            | true =>
              have hst := Lib.hid (stripL_yes hlt q1)
              rw [hbg] at q1
              clear hbg hex hAT
              generalize lowS (L[k].1.take s.size) = a1 at *
              generalize lowS s.data.toList = a2 at *
              generalize stripL (L.take k) s.data.toList = g at *
              generalize L[k].1 = p at *
              generalize L[k].2 = z at *
              generalize hP : (⟨p.toArray⟩ : ByteArray) = P at *
              go_wp2_with fail
              refine (c1.out _).mono ?_
              rintro e w6 ⟨rfl, b6⟩
              go_wp2_with fail
              refine (cl.out _).mono ?_
              rintro e w7 ⟨rfl, b7⟩
              have b8 := hb.trans ((Below.and b6 b7).mono hb.size)
              clear hb b6 b7
              go_wp2_with fail
              go_roundw
              case rel => exact ⟨k + 1, by omega, by go_num, by rw [hst.out], b8⟩
              case measure => simp [intOf]; omega
            | false =>
              have hst := Lib.hid (congrArg List.length (stripL_no hlt q1))
              obtain ⟨hm, hat⟩ := hAT.out q1
              obtain ⟨b', o', rfl, hbl', k1, k2⟩ := (HR5.out.below hb).head _ hm
              rw [hat] at k1 k2
              rw [HN.out] at hm
              rw [List.length_append, List.length_singleton] at hst
              rw [hbg] at q1
              clear hbg hex hAT hat
              generalize lowS (L[k].1.take s.size) = a1 at *
              generalize lowS s.data.toList = a2 at *
              generalize (stripL (L.take k) s.data.toList).length = m at *
              generalize L[k].1 = p at *
              generalize L[k].2 = z at *
              generalize hP : (⟨p.toArray⟩ : ByteArray) = P at *
              go_wp2_with fail
              refine (c1.out _).mono ?_
              rintro e w6 ⟨rfl, b6⟩
              go_wp2_with fail
              refine (cl.out _).mono ?_
              rintro e w7 ⟨rfl, b7⟩
              have b67 := Below.and b6 b7
              have h1 := (b67.cell (p := ⟨b, o + k * 2, none⟩) hbl).trans h1
              have h2 := (b67.cell (p := ⟨b, o + k * 2 + 1, none⟩) hbl).trans h2
              have k1 := (b67.cell (p := ⟨b', o' + m * 2, none⟩) hbl').trans k1
              have k2 := (b67.cell (p := ⟨b', o' + m * 2 + 1, none⟩) hbl').trans k2
              have b8 := hb.trans (b67.mono hb.size)
              clear hb b6 b7 b67
              have NQ := fun w => neq_head w p z p z
              rw [show (!(p == p && z == z)) = false by simp, hP] at NQ
              have j1 : (m : Int) < n5 := by omega
              have j2 : (0 : Int) ≤ m := by omega
              have j3 : ¬ ((n5 : Int) ≤ m) := by omega
              go_wp2_with fail
              go_quiet (fail)
              go_wp2_with fail
              go_roundw
              case rel => exact ⟨k + 1, by omega, by go_num, by rw [hst.out]; go_num, below_drewN b8 _⟩
              case measure => simp [intOf]; omega
          · have q1 : begS L[k].1 s.data.toList = false := by unfold begS; rw [hyl, decide_eq_false hlen]; rfl
            have hst := Lib.hid (congrArg List.length (stripL_no hlt q1))
            obtain ⟨hm, hat⟩ := hAT.out q1
            obtain ⟨b', o', rfl, hbl', k1, k2⟩ := (HR5.out.below hb).head _ hm
            rw [hat] at k1 k2
            rw [HN.out] at hm
            rw [List.length_append, List.length_singleton] at hst
            clear hex hAT hat q1
            generalize (stripL (L.take k) s.data.toList).length = m at *
            generalize L[k].1 = p at *
            generalize L[k].2 = z at *
            generalize hP : (⟨p.toArray⟩ : ByteArray) = P at *
            have e1 : ¬ ((s.size : Int) ≤ p.length) := by omega
            have e2 : (p.length : Int) < s.size := by omega
            have b8 := hb
            clear hb
            have NQ := fun w => neq_head w p z p z
            rw [show (!(p == p && z == z)) = false by simp, hP] at NQ
            have j1 : (m : Int) < n5 := by omega
            have j2 : (0 : Int) ≤ m := by omega
            have j3 : ¬ ((n5 : Int) ≤ m) := by omega
            go_wp2_with fail
            go_quiet (fail)
            go_wp2_with fail
            go_roundw
            case rel => exact ⟨k + 1, by omega, by go_num, by rw [hst.out]; go_num, below_drewN b8 _⟩
            case measure => simp [intOf]; omega
        · have hkk : (stripL (L.take k) s.data.toList).length = n5 := by rw [List.take_of_length_le (by omega)]; exact HN.out
          rw [hkk]
          clear hkk
          obtain ⟨wq, rfl⟩ : ∃ wq : World, wq = wr := ⟨_, rfl⟩
          have SS := stripL_sm SL s.data.toList
          have HA2 := Lib.hid (HA.out.below hb)
          have BI2 := Lib.hid (BI.out.trans (hb.mono BI.out.size))
          have ca := Lib.hid (strip_any _ _ s.data.toList wq HA2.out SS (by omega))
          rw [strip_twice, mk_data] at ca
          have cw := Lib.hid works_any
          clear hb
          go_wp2_with fail
          refine ca.out.mono ?_
          rintro e w6 ⟨v6, rfl, h6, b6⟩
          have H6 := Lib.hid h6.hs
          have BI3 := Lib.hid (BI2.out.trans (b6.mono BI2.out.size))
          have ca := Lib.hid (same_anyH v6 _ _ _ w6 H6.out (HA2.out.below b6) SS.1 SS.1)
          rw [show decide (stripL L s.data.toList = stripL L s.data.toList) = true by simp] at ca
          clear h6 b6
          go_wp2_with fail
          refine ca.out.mono ?_
          rintro e w7 ⟨rfl, b7⟩
          have BI4 := Lib.hid (BI3.out.trans (b7.mono BI3.out.size))
          clear b7 ca
          go_wp2_with fail
          refine (cw.out w7).mono ?_
          rintro e w8 ⟨rfl, b8⟩
          have BI5 := Lib.hid (BI4.out.trans (b8.mono BI4.out.size))
          clear b8
          go_wp2_with fail
          go_ret
          exact ⟨ret_bool rfl, Below.and B1.out BI5.out⟩
end Go.Proofs.YtfiioojnmjnmmaaDoor
