/- The statement HeadOthers. -/
import Derived.Test.YtfiioojnmjnmmaaDoorHy
namespace Go.Proofs.YtfiioojnmjnmmaaDoor
open Go Go.RowKit

theorem getL_drop (L : List Hd) (y : List UInt8) : getL (dropL L y) y = [] := by
  unfold getL dropL
  rw [List.filter_filter, List.filter_eq_nil_iff]
  intro h _
  cases alikeS h.1 y <;> simp
theorem alike_self {y : List UInt8} (h : isNm y = true) : alikeS y y = true := by unfold alikeS; rw [h]; simp
theorem set_not {L : List Hd} {y z : List UInt8} (h : okH (y, z) = false) : setE L y z = 40 ∧ setL L y z = [] := by
  unfold okH at h
  dsimp only at h
  have e : setE L y z = 40 := by unfold setE; rw [h]; rfl
  exact ⟨e, by unfold setL; rw [e, if_neg (by decide)]⟩
theorem set_yes {L : List Hd} {y z : List UInt8} (h : okH (y, z) = true) (hl : L.length ≤ 12) : setE L y z = 0 ∧ setL L y z = dropL L y ++ [(y, z)] ∧ getL (dropL L y ++ [(y, z)]) y = [(y, z)] := by
  obtain ⟨h1, h2⟩ := okH_one.1 h
  unfold okH at h
  dsimp only at h h1
  have hd : (dropL L y).length ≤ L.length := List.length_filter_le _ _
  have e : setE L y z = 0 := by unfold setE; rw [h, if_pos rfl, if_neg (by omega)]
  refine ⟨e, by unfold setL; rw [e, if_pos rfl], ?_⟩
  have g := getL_drop L y
  unfold getL at *
  rw [List.filter_append, g]
  simp [alike_self h1]

theorem wpList_pushhG {ops : Array Oper} {rest : List Oper} {o : Oper} {a : Act} {Q : Exit → Act → World → Prop} (hw : Region.wanted o (yielded ops a.tmps) = true) (s x : Operand)
    (ho : o.op = .call { callee := .builtin .append, args := #[s, x], argTypes := #[22, 22] }) (w : World) (base : Nat) (v : Value) (l : List Hd) (p q : ByteArray) (z y : List UInt8) (hp : p = ⟨z.toArray⟩) (hq : q = ⟨y.toArray⟩)
    (hs : a.eval s = v) (hown : OwnH w base v l) (hx : a.eval x = .slice (some ⟨w.heap.size, 0, none⟩) 1 1) (hbase : base ≤ w.heap.size) (hlen : l.length ≤ 1000000000)
    (h : ∀ v' w', OwnH w' base v' (l ++ [(z, y)]) → Below base w w' → w.grownBy w' v.ownBlock → wpList Tryd.prog ops Q rest (a.put o.dst v') w') :
    wpList Tryd.prog ops Q (o :: rest) a (w.alloc (.cells #[.string p, .string q] 28)) := by
  obtain ⟨i0, hi, hz0, hz1, hz2⟩ := info_parts infoH
  subst hp hq
  refine wpList_step fun K hK => ?_
  rw [if_pos hw]
  refine wp_append_lies _ s x 22 ho base 28 i0 (.agg #[.string ⟨#[]⟩, .string ⟨#[]⟩]) 2 32 Tryd.underlying22 hi hz0 hz1 hz2 rfl (by decide) v l.length (hv l) hs (World.ownsRow.alloc hown _)
    ⟨w.heap.size, 0, none⟩ 1 1 [strV z, strV y] hx rfl ?_ ?_ (by decide) (by unfold maxLen; omega) (by omega) (by simp; omega) _ rfl ?_
  · intro j u hj
    match j, hj with
    | 0, hj => simp at hj; subst hj; simp [Addr.add, strV]
    | 1, hj => simp at hj; subst hj; simp [Addr.add, strV]
    | j + 2, hj => simp at hj
  · intro u hu
    simp at hu
    rcases hu with rfl | rfl <;> rfl
  · intro g cap w' ho' hg _ _
    refine hK _ _ (h _ w' ?_ ?_ (grownBy_trans (World.grownBy_alloc w _ _) hg))
    · unfold OwnH; rw [List.length_append, hv_snoc]; exact ho'
    · exact ((Below.refl base w).alloc hbase _).grown hg (by simp; omega) (fun k hk => (World.ownsRow.lt hown k hk).1)

set_option maxHeartbeats 4000000 in
theorem headOthers_any (A : Option Addr) (c : Nat) (l : List Hd) (s t : List UInt8) (w : World) (hr : Rd w A (hv l)) (hm : Mx l) (hlen : l.length ≤ maxLen) (hs : s.length ≤ maxLen) (ht : t.length ≤ maxLen) :
    Calls Tryd.prog 7 #[.slice A l.length c, .string ⟨s.toArray⟩, .string ⟨t.toArray⟩] w fun e w' => e = .returned (.bool true) ∧ Below w.heap.size w w' := by
  have hy : (s.take 250).length ≤ 1000 := take250 s
  have hz : (t.take 250).length ≤ 1000 := take250 t
  have SL := fineL_sm l
  have L12 := fineL_len l
  have c1 := Lib.hid (fine_any A c l w hr hm hlen)
  have c3 := Lib.hid (short_anyL s)
  have c4 := Lib.hid (short_anyL t)
  generalize s.take 250 = y at *
  generalize t.take 250 = z at *
  generalize fineL l = L at *
  clear hr hm hlen
  go_enter Tryd.func7, Tryd.ntmps7
  go_wp2_with fail
  go_at_call 36
  refine c1.out.mono ?_
  rintro e w1 ⟨u0, rfl, h0, b1⟩
  have H0 := Lib.hid h0.hs
  have B1 := Lib.hid b1
  clear h0 b1 c1
  go_wp2_with fail
  refine (c3.out w1 hs).mono ?_
  rintro e w2 ⟨rfl, rfl⟩
  clear c3
  go_wp2_with fail
  refine (c4.out w1 ht).mono ?_
  rintro e w2 ⟨rfl, rfl⟩
  clear c4
  have ca := Lib.hid (check_any _ [(y, z)] _ (hs_made w1 [(y, z)] 1 rfl #[.string ⟨y.toArray⟩, .string ⟨z.toArray⟩] rfl) (one_sm hy hz))
  rw [chk_one] at ca
  have one_b : ((if okH (y, z) = true then (0 : Int) else 40) == 0) = okH (y, z) := by cases okH (y, z) <;> rfl
  generalize (if okH (y, z) = true then (0 : Int) else 40) = ce at *
  generalize hone : okH (y, z) = one at *
  have HO := Lib.hid hone
  clear hone
  go_wp2_with fail
  refine ca.out.mono ?_
  rintro e w3 ⟨rfl, b3⟩
  have b3 := Below.and (below_new w1 _) b3
  have H0 := Lib.hid (H0.out.below b3)
  have B3 := Lib.hid (Below.and B1.out b3)
  clear b3 B1 ca
  obtain ⟨A0, d0, rfl, _, _, hr0⟩ := id H0.out
  have HR := Lib.hid hr0
  clear hr0
  go_wp2_with fail
  go_loopw [8, 9] (fun v i wr => ∃ k : Nat, k ≤ L.length ∧ i = .int .i64 k ∧ OwnH wr w3.heap.size v (dropL (L.take k) y) ∧ Below w3.heap.size w3 wr) (fun _ i _ => L.length - (intOf i).toNat)
  case atStart => exact ⟨0, Nat.zero_le _, rfl, OwnH.nil _ _, Below.refl _ _⟩
  case round =>
    obtain ⟨k, hk, rfl, hown, hb⟩ := hrel
    have hgl := dropL_len L y k
    by_cases hlt : k < L.length
    · obtain ⟨b, o, rfl, hbl, h1, h2⟩ := (HR.out.below hb).head k hlt
      obtain ⟨z1, z2⟩ := SL.2 L[k] (List.getElem_mem hlt)
      have i1 : (0 : Int) ≤ k := by omega
      have i2 : (k : Int) < L.length := by omega
      cases q1 : alikeS L[k].1 y with
      | true =>
        have hst := Lib.hid (dropL_yes hlt q1)
        have c1 := Lib.hid (alike_anyL L[k].1 y z1 hy true q1)
        clear q1
        generalize L[k].1 = p at *
        generalize L[k].2 = z at *
        generalize dropL (L.take k) y = g at *
        go_wp2_with (go_at_call 16; refine (c1.out _).mono ?_; rintro e w1 ⟨rfl, b1⟩)
        go_roundw
        case rel => exact ⟨k + 1, by omega, by go_num, by rw [hst.out]; exact hown.below b1, hb.trans (b1.mono hb.size)⟩
        case measure => simp [intOf]; omega
      | false =>
        have hst := Lib.hid (dropL_no hlt q1)
        have c1 := Lib.hid (alike_anyL L[k].1 y z1 hy false q1)
        clear q1
        generalize L[k].1 = p at *
        generalize L[k].2 = q at *
        generalize dropL (L.take k) y = g at *
        go_wp2_with fail
        go_at_call 16
        refine (c1.out _).mono ?_
        rintro e w1 ⟨rfl, b1⟩
        have h1' := (b1.cell (p := ⟨b, o + k * 2, none⟩) hbl).trans h1
        have h2' := (b1.cell (p := ⟨b, o + k * 2 + 1, none⟩) hbl).trans h2
        have hown1 := hown.below b1
        have hb1 := hb.trans (b1.mono hb.size)
        clear hown hb
        go_wp2_with (at_builtin; refine wpList_pushh rfl (.tmp 42) (.tmp 47) rfl _ w3.heap.size _ _ _ _ p q rfl rfl rfl hown1 rfl hb1.size (by omega) ?_; intro v3 w3 hown3 hb3)
        go_roundw
        case rel => exact ⟨k + 1, by omega, by go_num, by rw [hst.out]; exact hown3, hb1.trans hb3⟩
        case measure => simp [intOf]; omega
    · rw [List.take_of_length_le (by omega)] at *
      obtain ⟨wq, rfl⟩ : ∃ wq : World, wq = wr := ⟨_, rfl⟩
      have SD := dropL_sm SL y
      have G0 := getL_drop L y
      have HS := Lib.hid hown
      have BI := Lib.hid hb
      have ca := Lib.hid (drop_any _ L y wq (H0.out.below hb) SL hy)
      clear hown hb HR
      go_wp2_with fail
      refine ca.out.mono ?_
      rintro e w5 ⟨v5, rfl, h5, b5⟩
      have HS1 := Lib.hid (HS.out.below b5)
      have BI := Lib.hid (BI.out.trans (b5.mono BI.out.size))
      have ca := Lib.hid (same_anyH v5 _ _ _ w5 h5.hs HS1.out.hs SD.1 SD.1)
      rw [show decide (dropL L y = dropL L y) = true by simp] at ca
      clear b5 h5 HS
      go_wp2_with fail
      refine ca.out.mono ?_
      rintro e w6 ⟨rfl, b6⟩
      have HS2 := Lib.hid (HS1.out.below b6)
      have BI := Lib.hid (BI.out.trans (b6.mono BI.out.size))
      clear b6 HS1 ca
      have ca := Lib.hid (get_any _ _ y w6 HS2.out.hs SD hy)
      rw [G0] at ca
      go_wp2_with fail
      refine ca.out.mono ?_
      rintro e w7 ⟨rfl, b7⟩
      have HS3 := Lib.hid (HS2.out.below b7)
      have BI := Lib.hid (BI.out.trans (b7.mono BI.out.size))
      clear b7 HS2 ca
      have ca := Lib.hid (set_any _ L y z w7 (H0.out.below BI.out) SL hy hz)
      have cw := Lib.hid works_any
      cases one with
      | false =>
        obtain ⟨e1, e2⟩ := set_not (L := L) HO.out
        rw [e1, e2] at ca
        clear e1 e2 HO
        go_wp2_with fail
        refine ca.out.mono ?_
        rintro e w8 ⟨v8, rfl, h8, b8⟩
        obtain ⟨A8, c8, rfl, _, _, _⟩ := h8.hs
        have BI := Lib.hid (BI.out.trans (b8.mono BI.out.size))
        clear b8 ca h8
        go_wp2_with fail
        refine (cw.out w8).mono ?_
        rintro e w9 ⟨rfl, b9⟩
        have BI := Lib.hid (BI.out.trans (b9.mono BI.out.size))
        clear b9
        go_wp2_with fail
        go_ret
        exact ⟨ret_bool rfl, Below.and B3.out BI.out⟩
      | true =>
        obtain ⟨e1, e2, e3⟩ := set_yes (L := L) HO.out L12
        rw [e1, e2] at ca
        have SS : Sm (dropL L y ++ [(y, z)]) := ⟨by have := SD.1; have : (dropL L y).length ≤ L.length := List.length_filter_le _ _; simp; omega, fun h hh => by
          rcases List.mem_append.1 hh with hh | hh
          · exact SD.2 h hh
          · simp at hh; subst hh; exact ⟨hy, hz⟩⟩
        have hdl : (dropL L y).length ≤ 12 := Nat.le_trans (List.length_filter_le _ _) L12
        clear e1 e2 HO
        go_wp2_with fail
        refine ca.out.mono ?_
        rintro e w8 ⟨v8, rfl, h8, b8⟩
        have HV := Lib.hid h8
        have F8 := Lib.hid (own_far HS3.out h8 (Nat.le_refl _))
        have HS4 := Lib.hid (HS3.out.below b8)
        have BI := Lib.hid (BI.out.trans (b8.mono BI.out.size))
        clear b8 ca h8 HS3
        have ca := Lib.hid (get_any _ _ y w8 HV.out.hs SS hy)
        rw [e3] at ca
        go_wp2_with fail
        refine ca.out.mono ?_
        rintro e w9 ⟨rfl, b9⟩
        have HV2 := Lib.hid (HV.out.below b9)
        have HS5 := Lib.hid (HS4.out.below b9)
        have BI := Lib.hid (BI.out.trans (b9.mono BI.out.size))
        clear b9 ca HV HS4
        generalize dropL L y = g at *
        go_wp2_with (at_builtin; refine wpList_pushhG (by rfl) (.tmp 101) (.tmp 105) rfl w9 w3.heap.size _ g _ _ y z rfl rfl rfl HS5.out rfl BI.out.size (by omega) ?_; intro v10 w10 hown10 hb10 hg10)
        have HV3 := Lib.hid (World.ownsRow.kept HV2.out hg10 F8.out)
        have HR10 := Lib.hid hown10
        have BI := Lib.hid (BI.out.trans hb10)
        have ca := Lib.hid (same_anyH v8 v10 _ _ w10 (OwnH.hs HV3.out) HR10.out.hs SS.1 SS.1)
        rw [show decide (g ++ [(y, z)] = g ++ [(y, z)]) = true by simp] at ca
        clear hb10 hg10 hown10 HV2 HS5
        refine ca.out.mono ?_
        rintro e w11 ⟨rfl, b11⟩
        have BI := Lib.hid (BI.out.trans (b11.mono BI.out.size))
        clear b11 ca
        go_wp2_with fail
        refine (cw.out w11).mono ?_
        rintro e w12 ⟨rfl, b12⟩
        have BI := Lib.hid (BI.out.trans (b12.mono BI.out.size))
        clear b12
        go_wp2_with fail
        go_ret
        exact ⟨ret_bool rfl, Below.and B3.out BI.out⟩
end Go.Proofs.YtfiioojnmjnmmaaDoor
