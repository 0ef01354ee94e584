/- The statement HeadFinds. -/
import Derived.Test.YtfiioojnmjnmmaaDoorHw
namespace Go.Proofs.YtfiioojnmjnmmaaDoor
open Go Go.RowKit

theorem own_far {w w' : World} {base base' : Nat} {v v' : Value} {l l' : List Hd} (h : OwnH w base v l) (h' : OwnH w' base' v' l') (hb : w.heap.size ≤ base') : v'.ownBlock = none ∨ v'.ownBlock ≠ v.ownBlock := by
  cases e' : v'.ownBlock with
  | none => exact .inl rfl
  | some k' =>
    right
    intro e
    have a := (World.ownsRow.lt h' k' e').1
    have b := (World.ownsRow.lt h k' e.symm).2
    omega
theorem lower_anyL (z : List UInt8) (hz : z.length ≤ 1000) (q : List UInt8) (hq : lowS z = q) (w : World) : Calls Tryd.prog 18 #[.string ⟨z.toArray⟩] w fun e w' => e = .returned (.string ⟨q.toArray⟩) ∧ Below w.heap.size w w' :=
  lower_any _ w (by rw [mk_size]; unfold maxLen; omega) q (by rw [mk_toList]; exact hq)
theorem dropL_sm {l : List Hd} (h : Sm l) (y : List UInt8) : Sm (dropL l y) := h.filter _
theorem stripL_sm {l : List Hd} (h : Sm l) (y : List UInt8) : Sm (stripL l y) := h.filter _
def otherL : List Hd → List UInt8
  | [] => []
  | h :: _ => h.1

set_option maxHeartbeats 4000000 in
theorem headFinds_any (A B : Option Addr) (c d : Nat) (l k : List Hd) (s : List UInt8) (w : World) (hr : Rd w A (hv l)) (hm : Mx l) (hr2 : Rd w B (hv k)) (hm2 : Mx k) (hs : s.length ≤ maxLen) :
    Calls Tryd.prog 3 #[.slice A l.length c, .slice B k.length d, .string ⟨s.toArray⟩] w fun e w' => e = .returned (.bool true) ∧ Below w.heap.size w w' := by
  have hy : (s.take 250).length ≤ 1000 := take250 s
  have SL := cutL_sm l
  have SK := cutL_sm k
  have c1 := Lib.hid (cut_any A c l w hr hm)
  have c2 := Lib.hid fun w1 (h : Below w.heap.size w w1) => cut_any B d k w1 (hr2.below h) hm2
  have c3 := Lib.hid (short_anyL s)
  generalize s.take 250 = y at *
  generalize cutL l = L at *
  generalize cutL k = K at *
  clear hr hm hr2 hm2
  go_enter Tryd.func3, Tryd.ntmps3
  go_wp2_with fail
  go_at_call 10
  refine c1.out.mono ?_
  rintro e w1 ⟨u0, rfl, h0, b1⟩
  have c2' := Lib.hid (c2.out w1 b1)
  have H0 := Lib.hid h0.hs
  have B1 := Lib.hid b1
  clear h0 b1 c1 c2
  go_wp2_with fail
  refine c2'.out.mono ?_
  rintro e w2 ⟨u1, rfl, h1, b2⟩
  have H0 := Lib.hid (H0.out.below b2)
  have H1 := Lib.hid h1.hs
  have B2 := Lib.hid (Below.and B1.out b2)
  clear h1 b2 c2' B1
  go_wp2_with fail
  refine (c3.out w2 hs).mono ?_
  rintro e w3 ⟨rfl, rfl⟩
  clear c3
  have cg := Lib.hid (get_any u0 L y w2 H0.out SL hy)
  go_wp2_with fail
  refine cg.out.mono ?_
  rintro e w3 ⟨rfl, b3⟩
  have H0 := Lib.hid (H0.out.below b3)
  have H1 := Lib.hid (H1.out.below b3)
  have B3 := Lib.hid (Below.and B2.out b3)
  clear b3 B2 cg
  have cg := Lib.hid (get_ref u0 L y w3 H0.out SL hy)
  generalize hfv : fstV (getL L y) = fv at *
  generalize hfn : (getL L y).length = fn at *
  clear hfv hfn
  go_wp2_with fail
  refine cg.out.mono ?_
  rintro e w4 ⟨rfl, b4⟩
  have H0 := Lib.hid (H0.out.below b4)
  have H1 := Lib.hid (H1.out.below b4)
  have B4 := Lib.hid (Below.and B3.out b4)
  clear b4 B3 cg
  obtain ⟨A1, d1, rfl, _, _, hr1⟩ := id H1.out
  have HR1 := Lib.hid hr1
  clear hr1
  go_upto_if 35 with fail
  go_cut [11] from 35 to 39 (fun u wx => u = .string ⟨(otherL K).toArray⟩ ∧ wx = w4)
  case first =>
    cases K with
    | nil =>
      go_wp2_with fail
      go_meet
      case rel => exact ⟨rfl, rfl⟩
    | cons x K' =>
      obtain ⟨b, o, rfl, hbl, e1, e2⟩ := HR1.out.head 0 (by simp)
      have i1 : (0 : Int) < ((x :: K').length : Nat) := by simp
      have i2 : (0 : Int) ≤ ((x :: K').length : Nat) := by omega
      simp only [Nat.zero_mul, Nat.add_zero, List.getElem_cons_zero] at e1
      generalize hn : (x :: K').length = n at *
      go_wp2_with fail
      go_meet
      case rel => exact ⟨rfl, rfl⟩
  case rest =>
    obtain ⟨rfl, rfl⟩ := hcut
    have ho : (otherL K).length ≤ 1000 := by
      cases K with
      | nil => simp [otherL]
      | cons x l => exact (SK.2 x List.mem_cons_self).1
    generalize otherL K = o at *
    clear HR1
    have cc := Lib.hid (check_any u0 L _ H0.out SL)
    go_wp2_with fail
    refine cc.out.mono ?_
    rintro e w5 ⟨rfl, b5⟩
    have H0 := Lib.hid (H0.out.below b5)
    have H1 := Lib.hid (H1.out.below b5)
    have B5 := Lib.hid (Below.and B4.out b5)
    clear b5 B4 cc
    have cc := Lib.hid (check_ref u0 L _ H0.out SL)
    generalize chkE L = ce at *
    go_wp2_with fail
    refine cc.out.mono ?_
    rintro e w6 ⟨rfl, rfl⟩
    clear cc
    have ca := Lib.hid (alike_anyL y o hy ho _ rfl w5)
    have cb := Lib.hid (alike_refL y o hy ho _ rfl)
    generalize alikeS y o = ab at *
    go_wp2_with fail
    refine ca.out.mono ?_
    rintro e w6 ⟨rfl, b6⟩
    have H0 := Lib.hid (H0.out.below b6)
    have H1 := Lib.hid (H1.out.below b6)
    have B6 := Lib.hid (Below.and B5.out b6)
    clear b6 B5 ca
    go_wp2_with fail
    refine (cb.out w6).mono ?_
    rintro e w7 ⟨rfl, b7⟩
    have H0 := Lib.hid (H0.out.below b7)
    have H1 := Lib.hid (H1.out.below b7)
    have B7 := Lib.hid (Below.and B6.out b7)
    clear b7 B6 cb
    have ca := Lib.hid (lower_anyL y hy _ rfl w7)
    have cb := Lib.hid (lower_refL y hy _ rfl)
    generalize lowS y = lo at *
    go_wp2_with fail
    refine ca.out.mono ?_
    rintro e w8 ⟨rfl, b8⟩
    have H0 := Lib.hid (H0.out.below b8)
    have H1 := Lib.hid (H1.out.below b8)
    have B8 := Lib.hid (Below.and B7.out b8)
    clear b8 B7 ca
    go_wp2_with fail
    refine (cb.out w8).mono ?_
    rintro e w9 ⟨rfl, b9⟩
    have H0 := Lib.hid (H0.out.below b9)
    have H1 := Lib.hid (H1.out.below b9)
    have B9 := Lib.hid (Below.and B8.out b9)
    clear b9 B8 cb
    have ca := Lib.hid (same_anyH u0 _ L K w9 H0.out H1.out SL.1 SK.1)
    have cb := Lib.hid fun w h0 h1 => same_refH u0 (.slice A1 K.length d1) L K w h0 h1 SL.1 SK.1
    generalize decide (L = K) = lk at *
    go_wp2_with fail
    refine ca.out.mono ?_
    rintro e w10 ⟨rfl, b10⟩
    have H0 := Lib.hid (H0.out.below b10)
    have H1 := Lib.hid (H1.out.below b10)
    have B10 := Lib.hid (Below.and B9.out b10)
    clear b10 B9 ca
    go_wp2_with fail
    refine (cb.out w10 H0.out H1.out).mono ?_
    rintro e w11 ⟨rfl, b11⟩
    have H0 := Lib.hid (H0.out.below b11)
    have B11 := Lib.hid (Below.and B10.out b11)
    clear b11 B10 cb H1
    have ca := Lib.hid (copy_ref u0 L w11 H0.out SL.1)
    go_wp2_with fail
    refine ca.out.mono ?_
    rintro e w12 ⟨vi, rfl, hi, b12⟩
    have HI := Lib.hid hi
    have BI := Lib.hid b12
    have N0 := Lib.hid b12.size
    clear hi b12 ca
    have ca := Lib.hid (drop_any vi L y w12 HI.out.hs SL hy)
    go_wp2_with fail
    refine ca.out.mono ?_
    rintro e w13 ⟨va, rfl, ha, b13⟩
    have HI2 := Lib.hid (HI.out.below b13)
    have HA := Lib.hid ha
    have BI := Lib.hid (BI.out.trans (b13.mono BI.out.size))
    have N1 := Lib.hid b13.size
    clear ha b13 ca
    have ca := Lib.hid (strip_any vi L y w13 HI2.out.hs SL hy)
    go_wp2_with fail
    refine ca.out.mono ?_
    rintro e w14 ⟨vb, rfl, hb, b14⟩
    have HI3 := Lib.hid (HI2.out.below b14)
    have HB := Lib.hid hb
    have HA2 := Lib.hid (HA.out.below b14)
    have BI := Lib.hid (BI.out.trans (b14.mono BI.out.size))
    clear hb b14 ca
    have F1 := Lib.hid (own_far HI.out HA.out (Nat.le_refl _))
    have F2 := Lib.hid (own_far HI.out HB.out N1.out)
    have F3 := Lib.hid (own_far HA.out HB.out (Nat.le_refl _))
    have LI := Lib.hid fun k (hk : vi.ownBlock = some k) => (World.ownsRow.lt HI.out k hk).1
    have LA := Lib.hid fun k (hk : va.ownBlock = some k) => Nat.le_trans N0.out (World.ownsRow.lt HA.out k hk).1
    have ca := Lib.hid (spoilt_any vi L _ w14 HI3.out SL.1)
    clear N0 N1 HI HI2 HI3
    go_wp2_with fail
    refine ca.out.mono ?_
    rintro e w15 ⟨u15, rfl, _, g15⟩
    have BI := Lib.hid (BI.out.grown g15 BI.out.size LI.out)
    have HA3 := Lib.hid (World.ownsRow.kept HA2.out g15 F1.out)
    have HB2 := Lib.hid (World.ownsRow.kept HB.out g15 F2.out)
    clear g15 ca LI
    have ca := Lib.hid (drop_ref u0 L y w15 (H0.out.below BI.out) SL hy)
    go_wp2_with fail
    refine ca.out.mono ?_
    rintro e w16 ⟨v16, rfl, h16, b16⟩
    have H16 := Lib.hid h16.hs
    have HA4 := Lib.hid (OwnH.below HA3.out b16)
    have HB3 := Lib.hid (OwnH.below HB2.out b16)
    have BI := Lib.hid (BI.out.trans (b16.mono BI.out.size))
    clear h16 b16 ca
    have ca := Lib.hid (same_refH va v16 _ _ w16 HA4.out.hs H16.out (dropL_sm SL y).1 (dropL_sm SL y).1)
    rw [show decide (dropL L y = dropL L y) = true by simp] at ca
    go_wp2_with fail
    refine ca.out.mono ?_
    rintro e w17 ⟨rfl, b17⟩
    have HA5 := Lib.hid (HA4.out.below b17)
    have HB4 := Lib.hid (HB3.out.below b17)
    have BI := Lib.hid (BI.out.trans (b17.mono BI.out.size))
    clear b17 ca H16
    have ca := Lib.hid (strip_ref u0 L y w17 (H0.out.below BI.out) SL hy)
    go_wp2_with fail
    refine ca.out.mono ?_
    rintro e w18 ⟨v18, rfl, h18, b18⟩
    have H18 := Lib.hid h18.hs
    have HA6 := Lib.hid (HA5.out.below b18)
    have HB5 := Lib.hid (HB4.out.below b18)
    have BI := Lib.hid (BI.out.trans (b18.mono BI.out.size))
    clear h18 b18 ca
    have ca := Lib.hid (same_refH vb v18 _ _ w18 HB5.out.hs H18.out (stripL_sm SL y).1 (stripL_sm SL y).1)
    rw [show decide (stripL L y = stripL L y) = true by simp] at ca
    go_wp2_with fail
    refine ca.out.mono ?_
    rintro e w19 ⟨rfl, b19⟩
    have HA7 := Lib.hid (HA6.out.below b19)
    have HB6 := Lib.hid (HB5.out.below b19)
    have BI := Lib.hid (BI.out.trans (b19.mono BI.out.size))
    clear b19 ca H18
    have ca := Lib.hid (spoilt_any va _ _ w19 HA7.out (dropL_sm SL y).1)
    go_wp2_with fail
    refine ca.out.mono ?_
    rintro e w20 ⟨u20, rfl, _, g20⟩
    have BI := Lib.hid (BI.out.grown g20 BI.out.size LA.out)
    have HB7 := Lib.hid (World.ownsRow.kept HB6.out g20 F3.out)
    clear g20 ca LA
    have ca := Lib.hid (strip_ref u0 L y w20 (H0.out.below BI.out) SL hy)
    go_wp2_with fail
    refine ca.out.mono ?_
    rintro e w21 ⟨v21, rfl, h21, b21⟩
    have H21 := Lib.hid h21.hs
    have HB8 := Lib.hid (OwnH.below HB7.out b21)
    have BI := Lib.hid (BI.out.trans (b21.mono BI.out.size))
    clear h21 b21 ca
    have ca := Lib.hid (same_refH vb v21 _ _ w21 HB8.out.hs H21.out (stripL_sm SL y).1 (stripL_sm SL y).1)
    rw [show decide (stripL L y = stripL L y) = true by simp] at ca
    have cw := Lib.hid works_any
    go_wp2_with fail
    refine ca.out.mono ?_
    rintro e w22 ⟨rfl, b22⟩
    have BI := Lib.hid (BI.out.trans (b22.mono BI.out.size))
    clear b22 ca
    go_wp2_with fail
    refine (cw.out w22).mono ?_
    rintro e w23 ⟨rfl, b23⟩
    have BI := Lib.hid (BI.out.trans (b23.mono BI.out.size))
    clear b23
    go_wp2_with fail
    go_ret
    exact ⟨ret_bool rfl, Below.and B11.out BI.out⟩
end Go.Proofs.YtfiioojnmjnmmaaDoor
