/- The statement HeadSets. -/
import Derived.Test.YtfiioojnmjnmmaaDoorHx
namespace Go.Proofs.YtfiioojnmjnmmaaDoor
open Go Go.RowKit

theorem setL_len {l : List Hd} (h : l.length ≤ 20) (y z : List UInt8) : (setL l y z).length ≤ 1000 := by
  unfold setL
  have : (dropL l y).length ≤ l.length := List.length_filter_le _ _
  split
  · simp; omega
  · simp
theorem cutL_len (l : List Hd) : (cutL l).length ≤ 20 := cut_len l 20 (Nat.le_refl _)

set_option maxHeartbeats 4000000 in
theorem headSets_any (A : Option Addr) (c : Nat) (l : List Hd) (s t : List UInt8) (w : World) (hr : Rd w A (hv l)) (hm : Mx l) (hs : s.length ≤ maxLen) (ht : t.length ≤ maxLen) :
    Calls Tryd.prog 4 #[.slice A l.length c, .string ⟨s.toArray⟩, .string ⟨t.toArray⟩] w fun e w' => e = .returned (.bool true) ∧ Below w.heap.size w w' := by
  have hy : (s.take 250).length ≤ 1000 := take250 s
  have hz : (t.take 250).length ≤ 1000 := take250 t
  have SL := cutL_sm l
  have S20 := setL_len (cutL_len l) (s.take 250) (t.take 250)
  have c1 := Lib.hid (cut_any A c l w hr hm)
  have c3 := Lib.hid (short_anyL s)
  have c4 := Lib.hid (short_anyL t)
  generalize s.take 250 = y at *
  generalize t.take 250 = z at *
  generalize cutL l = L at *
  clear hr hm
  go_enter Tryd.func4, Tryd.ntmps4
  go_wp2_with fail
  go_at_call 10
  refine c1.out.mono ?_
  rintro e w1 ⟨u0, rfl, h0, b1⟩
  have H0 := Lib.hid h0.hs
  have B1 := Lib.hid b1
  clear h0 b1 c1
  go_wp2_with fail
  refine (c3.out w1 hs).mono ?_
  rintro e w2 ⟨rfl, rfl⟩
  clear c3
  go_wp2_with fail
  refine (c4.out w1 ht).mono ?_
  rintro e w2 ⟨rfl, rfl⟩
  clear c4
  have ca := Lib.hid (copy_ref u0 L w1 H0.out SL.1)
  go_wp2_with fail
  refine ca.out.mono ?_
  rintro e w12 ⟨vi, rfl, hi, b12⟩
  have HI := Lib.hid hi
  have N0 := Lib.hid b12.size
  have BI := Lib.hid b12
  clear hi b12 ca
  have ca := Lib.hid (set_any vi L y z w12 HI.out.hs SL hy hz)
  go_wp2_with fail
  refine ca.out.mono ?_
  rintro e w13 ⟨va, rfl, ha, b13⟩
  have HI2 := Lib.hid (HI.out.below b13)
  have HA := Lib.hid ha
  have BI := Lib.hid (BI.out.trans (b13.mono BI.out.size))
  have N1 := Lib.hid b13.size
  clear ha b13 ca
  have ca := Lib.hid (set_ref u0 L y z w13 (H0.out.below BI.out) SL hy hz)
  go_wp2_with fail
  refine ca.out.mono ?_
  rintro e w14 ⟨vb, rfl, hb, b14⟩
  have HI3 := Lib.hid (HI2.out.below b14)
  have HB := Lib.hid hb
  have HA2 := Lib.hid (HA.out.below b14)
  have BI := Lib.hid (BI.out.trans (b14.mono BI.out.size))
  have N2 := Lib.hid (Nat.le_trans N1.out b14.size)
  clear hb b14 ca
  have F1 := Lib.hid (own_far HI.out HA.out (Nat.le_refl _))
  have F2 := Lib.hid (own_far HI.out HB.out N1.out)
  have LI := Lib.hid fun k (hk : vi.ownBlock = some k) => (World.ownsRow.lt HI.out k hk).1
  have LI2 := Lib.hid fun k (hk : vi.ownBlock = some k) => (World.ownsRow.lt HI.out k hk).2
  have ca := Lib.hid (bytes_any vi L w14 HI3.out.hs SL)
  go_wp2_with fail
  refine ca.out.mono ?_
  rintro e w15 ⟨vx, rfl, hx, b15⟩
  have HI4 := Lib.hid (HI3.out.below b15)
  have HX := Lib.hid hx
  have HA3 := Lib.hid (HA2.out.below b15)
  have HB2 := Lib.hid (HB.out.below b15)
  have BI := Lib.hid (BI.out.trans (b15.mono BI.out.size))
  have N3 := Lib.hid (Nat.le_trans N2.out b15.size)
  clear hx b15 ca
  have ca := Lib.hid (bytes_ref u0 L w15 (H0.out.below BI.out) SL)
  go_wp2_with fail
  refine ca.out.mono ?_
  rintro e w16 ⟨vy, rfl, hy2, b16⟩
  have HI5 := Lib.hid (HI4.out.below b16)
  have HX2 := Lib.hid (HX.out.below b16)
  have HY := Lib.hid hy2
  have HA4 := Lib.hid (HA3.out.below b16)
  have HB3 := Lib.hid (HB2.out.below b16)
  have BI := Lib.hid (BI.out.trans (b16.mono BI.out.size))
  clear hy2 b16 ca
  have ca := Lib.hid (spoilt_any vi L _ w16 HI5.out SL.1)
  go_wp2_with fail
  refine ca.out.mono ?_
  rintro e w17 ⟨vw, rfl, hw, g17⟩
  have BI := Lib.hid (BI.out.grown g17 BI.out.size LI.out)
  have HA5 := Lib.hid (World.ownsRow.kept HA4.out g17 F1.out)
  have HB4 := Lib.hid (World.ownsRow.kept HB3.out g17 F2.out)
  have HX3 := Lib.hid (Bs.but HX2.out g17 fun k hk => Nat.lt_of_lt_of_le (LI2.out k hk) N2.out)
  have HY2 := Lib.hid (Bs.but HY.out g17 fun k hk => Nat.lt_of_lt_of_le (LI2.out k hk) N3.out)
  have HW := Lib.hid hw
  clear g17 ca LI LI2 hw
  have ca := Lib.hid (same_refH va vb _ _ w17 (OwnH.hs HA5.out) (OwnH.hs HB4.out) S20 S20)
  rw [show decide (setL L y z = setL L y z) = true by simp] at ca
  generalize setE L y z = se at *
  generalize chkE L = ce at *
  go_wp2_with fail
  refine ca.out.mono ?_
  rintro e w18 ⟨rfl, b18⟩
  have HX4 := Lib.hid (HX3.out.below b18)
  have HY3 := Lib.hid (HY2.out.below b18)
  have HW2 := Lib.hid (HW.out.below b18)
  have BI := Lib.hid (BI.out.trans (b18.mono BI.out.size))
  clear b18 ca
  have ca := Lib.hid (eqBytes_ref vx vy _ _ _ _ w18 HX4.out HY3.out)
  rw [show (byR L == byR L) = true by simp] at ca
  go_wp2_with fail
  refine ca.out.mono ?_
  rintro e w19 ⟨rfl, rfl⟩
  clear ca
  have ca := Lib.hid (same_refH vw u0 _ _ w18 HW2.out.hs (H0.out.below BI.out) SL.1 SL.1)
  rw [show decide (L = L) = true by simp] at ca
  have cw := Lib.hid works_any
  go_wp2_with fail
  refine ca.out.mono ?_
  rintro e w20 ⟨rfl, b20⟩
  have BI := Lib.hid (BI.out.trans (b20.mono BI.out.size))
  clear b20 ca
  go_wp2_with fail
  refine (cw.out w20).mono ?_
  rintro e w21 ⟨rfl, b21⟩
  have BI := Lib.hid (BI.out.trans (b21.mono BI.out.size))
  clear b21
  go_wp2_with fail
  go_ret
  exact ⟨ret_bool rfl, Below.and B1.out BI.out⟩
end Go.Proofs.YtfiioojnmjnmmaaDoor
