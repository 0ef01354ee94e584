/- The chapter's Drop, Strip, Set and Copy. -/
import Derived.Test.YtfiioojnmjnmmaaDoorHf
namespace Go.Proofs.YtfiioojnmjnmmaaDoor
open Go Go.RowKit

theorem dropL_yes {l : List Hd} {y : List UInt8} {k : Nat} (hk : k < l.length) (h : alikeS l[k].1 y = true) : dropL (l.take (k + 1)) y = dropL (l.take k) y := filter_no hk (by simp [h])
theorem dropL_no {l : List Hd} {y : List UInt8} {k : Nat} (hk : k < l.length) (h : alikeS l[k].1 y = false) : dropL (l.take (k + 1)) y = dropL (l.take k) y ++ [(l[k].1, l[k].2)] := filter_yes hk (by simp [h])
theorem dropL_len (l : List Hd) (y : List UInt8) (k : Nat) : (dropL (l.take k) y).length ≤ l.length := Nat.le_trans (List.length_filter_le _ _) (by rw [List.length_take]; omega)
theorem stripL_yes {l : List Hd} {y : List UInt8} {k : Nat} (hk : k < l.length) (h : begS l[k].1 y = true) : stripL (l.take (k + 1)) y = stripL (l.take k) y := filter_no hk (by simp [h])
theorem stripL_no {l : List Hd} {y : List UInt8} {k : Nat} (hk : k < l.length) (h : begS l[k].1 y = false) : stripL (l.take (k + 1)) y = stripL (l.take k) y ++ [(l[k].1, l[k].2)] := filter_yes hk (by simp [h])
theorem stripL_len (l : List Hd) (y : List UInt8) (k : Nat) : (stripL (l.take k) y).length ≤ l.length := Nat.le_trans (List.length_filter_le _ _) (by rw [List.length_take]; omega)
theorem Sm.filter {l : List Hd} (h : Sm l) (p : Hd → Bool) : Sm (l.filter p) := ⟨Nat.le_trans (List.length_filter_le _ _) h.1, fun x hx => h.2 x ((List.mem_filter.1 hx).1)⟩
theorem OwnH.up {w w' : World} {base base' : Nat} {v : Value} {l : List Hd} (h : OwnH w base v l) (hb : base' ≤ base) (hw : w' = w) : OwnH w' base' v l := by
  subst hw
  unfold OwnH at *
  rcases h with ⟨h1, h2⟩
  refine ⟨h1, ?_⟩
  rcases h2 with h2 | ⟨g, cap, cur, e, hg, rest⟩
  · exact .inl h2
  · exact .inr ⟨g, cap, cur, e, Nat.le_trans hb hg, rest⟩

set_option maxHeartbeats 1000000 in
/-- the chapter's Drop -/
theorem drop_ref (v : Value) (l : List Hd) (y : List UInt8) (w : World) (hv : Hs w v l) (hs : Sm l) (hy : y.length ≤ 1000) : Calls Tryd.prog 26 #[v, .string ⟨y.toArray⟩] w fun e w' =>
    ∃ u, e = .returned u ∧ OwnH w' w.heap.size u (dropL l y) ∧ Below w.heap.size w w' := by
  obtain ⟨A, c, rfl, hc, _, hr⟩ := hv
  obtain ⟨hn, hsz⟩ := hs
  have HR := Lib.hid hr
  have HS := Lib.hid hsz
  clear hr hsz
  go_enter Tryd.func26, Tryd.ntmps26
  go_wp2_with fail
  go_loopw [5, 6] (fun v i wr => ∃ k : Nat, k ≤ l.length ∧ i = .int .i64 k ∧ OwnH wr w.heap.size v (dropL (l.take k) y) ∧ Below w.heap.size w wr) (fun _ i _ => l.length - (intOf i).toNat)
  case atStart => exact ⟨0, Nat.zero_le _, rfl, OwnH.nil _ _, Below.refl _ _⟩
  case round =>
    obtain ⟨k, hk, rfl, hown, hb⟩ := hrel
    have hgl := dropL_len l y k
    by_cases hlt : k < l.length
    · obtain ⟨b, o, rfl, hbl, h1, h2⟩ := (HR.out.below hb).head k hlt
      obtain ⟨z1, z2⟩ := HS.out l[k] (List.getElem_mem hlt)
      have i1 : (0 : Int) ≤ k := by omega
      have i2 : (k : Int) < l.length := by omega
      cases q1 : alikeS l[k].1 y with
      | true =>
        have hst := Lib.hid (dropL_yes hlt q1)
        have c1 := Lib.hid (alike_refL l[k].1 y z1 hy true q1)
        clear q1
        generalize l[k].1 = p at *
        generalize l[k].2 = z at *
        generalize dropL (l.take k) y = g at *
        go_wp2_with (go_at_call 17; refine (c1.out _).mono ?_; rintro e w1 ⟨rfl, b1⟩)
        go_roundw
        case rel => exact ⟨k + 1, by omega, by go_num, by rw [hst.out]; exact hown.below b1, hb.trans (b1.mono hb.size)⟩
        case measure => simp [intOf]; omega
      | false =>
        have hst := Lib.hid (dropL_no hlt q1)
        have c1 := Lib.hid (alike_refL l[k].1 y z1 hy false q1)
        clear q1
        generalize l[k].1 = p at *
        generalize l[k].2 = z at *
        generalize dropL (l.take k) y = g at *
        go_wp2_with fail
        go_at_call 17
        refine (c1.out _).mono ?_
        rintro e w1 ⟨rfl, b1⟩
        have h1' := (b1.cell (p := ⟨b, o + k * 2, none⟩) hbl).trans h1
        have h2' := (b1.cell (p := ⟨b, o + k * 2 + 1, none⟩) hbl).trans h2
        have hown1 := hown.below b1
        have hb1 := hb.trans (b1.mono hb.size)
        clear hown hb
        go_wp2_with (at_builtin; refine wpList_pushh rfl (.tmp 21) (.tmp 26) rfl _ w.heap.size _ _ _ _ p z rfl rfl rfl hown1 rfl hb1.size (by omega) ?_; intro v3 w3 hown3 hb3)
        go_roundw
        case rel => exact ⟨k + 1, by omega, by go_num, by rw [hst.out]; exact hown3, hb1.trans hb3⟩
        case measure => simp [intOf]; omega
    · rw [List.take_of_length_le (by omega)] at *
      go_wp2_with fail
      go_ret
      exact ⟨_, rfl, hown, hb⟩

theorem lower_refL (z : List UInt8) (hz : z.length ≤ 1000) (q : List UInt8) (hq : lowS z = q) (w : World) : Calls Tryd.prog 19 #[.string ⟨z.toArray⟩] w fun e w' => e = .returned (.string ⟨q.toArray⟩) ∧ Below w.heap.size w w' :=
  lower_ref _ w (by rw [mk_size]; omega) q (by rw [mk_toList]; exact hq)
theorem mk_extract (z : List UInt8) (k : Nat) : (⟨z.toArray⟩ : ByteArray).extract 0 k = ⟨(z.take k).toArray⟩ := by
  apply ByteArray.ext
  rw [ByteArray.data_extract]
  simp

set_option maxHeartbeats 1000000 in
/-- the chapter's Strip -/
theorem strip_ref (v : Value) (l : List Hd) (y : List UInt8) (w : World) (hv : Hs w v l) (hs : Sm l) (hy : y.length ≤ 1000) : Calls Tryd.prog 27 #[v, .string ⟨y.toArray⟩] w fun e w' =>
    ∃ u, e = .returned u ∧ OwnH w' w.heap.size u (stripL l y) ∧ Below w.heap.size w w' := by
  obtain ⟨A, c, rfl, hc, _, hr⟩ := hv
  obtain ⟨hn, hsz⟩ := hs
  have HR := Lib.hid hr
  have HS := Lib.hid hsz
  clear hr hsz
  have hys := mk_size y
  generalize hY : (⟨y.toArray⟩ : ByteArray) = Y at *
  go_enter Tryd.func27, Tryd.ntmps27
  go_wp2_with fail
  go_loopw [5, 6] (fun v i wr => ∃ k : Nat, k ≤ l.length ∧ i = .int .i64 k ∧ OwnH wr w.heap.size v (stripL (l.take k) y) ∧ Below w.heap.size w wr) (fun _ i _ => l.length - (intOf i).toNat)
  case atStart => exact ⟨0, Nat.zero_le _, rfl, OwnH.nil _ _, Below.refl _ _⟩
  case round =>
    obtain ⟨k, hk, rfl, hown, hb⟩ := hrel
    have hgl := stripL_len l y k
    by_cases hlt : k < l.length
    · obtain ⟨b, o, rfl, hbl, h1, h2⟩ := (HR.out.below hb).head k hlt
      obtain ⟨z1, z2⟩ := HS.out l[k] (List.getElem_mem hlt)
      have i1 : (0 : Int) ≤ k := by omega
      have i2 : (k : Int) < l.length := by omega
      have hps := mk_size l[k].1
      have hex := mk_extract l[k].1 y.length
      by_cases hlen : y.length ≤ l[k].1.length
      · have c1 := Lib.hid (lower_refL (l[k].1.take y.length) (by rw [List.length_take]; omega) _ rfl)
        have c2 := Lib.hid (lower_refL y hy _ rfl)
        rw [hY] at c2
        have hbg : begS l[k].1 y = (lowS (l[k].1.take y.length) == lowS y) := by unfold begS; rw [decide_eq_true hlen, Bool.true_and]
        rw [← hex] at c1
        have hle : Hid (y.length ≤ l[k].1.length) := hlen
        have hnl : ¬ ((⟨l[k].1.toArray⟩ : ByteArray).size : Int) < (Y.size : Int) := by omega
        cases q1 : begS l[k].1 y with
        | true =>
          have hst := Lib.hid (stripL_yes hlt q1)
          rw [hbg] at q1
          clear hbg hex
          generalize lowS (l[k].1.take y.length) = a1 at *
          generalize lowS y = a2 at *
          generalize stripL (l.take k) y = g at *
          generalize l[k].1 = p at *
          generalize l[k].2 = z at *
          generalize hP : (⟨p.toArray⟩ : ByteArray) = P at *
          have e1 : ¬ (p.length : Int) < (y.length : Int) := by omega
          go_wp2_with fail
          go_at_call 19
          refine (c1.out _).mono ?_
          rintro e w1 ⟨rfl, b1⟩
          go_wp2_with fail
          go_at_call 19
          refine (c2.out _).mono ?_
          rintro e w2 ⟨rfl, b2⟩
          have b3 := Below.and b1 b2
          have hown1 := hown.below b3
          have hb1 := hb.trans (b3.mono hb.size)
          clear hown hb
          go_wp2_with fail
          go_roundw
          case rel => exact ⟨k + 1, by omega, by go_num, by rw [hst.out]; exact hown1, hb1⟩
          case measure => simp [intOf]; omega
        | false =>
          have hst := Lib.hid (stripL_no hlt q1)
          rw [hbg] at q1
          clear hbg hex
          generalize lowS (l[k].1.take y.length) = a1 at *
          generalize lowS y = a2 at *
          generalize stripL (l.take k) y = g at *
          generalize l[k].1 = p at *
          generalize l[k].2 = z at *
          generalize hP : (⟨p.toArray⟩ : ByteArray) = P at *
          have e1 : ¬ (p.length : Int) < (y.length : Int) := by omega
          go_wp2_with fail
          go_at_call 19
          refine (c1.out _).mono ?_
          rintro e w1 ⟨rfl, b1⟩
          go_wp2_with fail
          go_at_call 19
          refine (c2.out _).mono ?_
          rintro e w2 ⟨rfl, b2⟩
          have b3 := Below.and b1 b2
          have h1' := (b3.cell (p := ⟨b, o + k * 2, none⟩) hbl).trans h1
          have h2' := (b3.cell (p := ⟨b, o + k * 2 + 1, none⟩) hbl).trans h2
          have hown1 := hown.below b3
          have hb1 := hb.trans (b3.mono hb.size)
          clear hown hb
          go_wp2_with (at_builtin; refine wpList_pushh rfl (.tmp 34) (.tmp 39) rfl _ w.heap.size _ _ _ _ p z hP.symm rfl rfl hown1 rfl hb1.size (by omega) ?_; intro v3 w3 hown3 hb3)
          go_roundw
          case rel => exact ⟨k + 1, by omega, by go_num, by rw [hst.out]; exact hown3, hb1.trans hb3⟩
          case measure => simp [intOf]; omega
      · have hst := Lib.hid (stripL_no (y := y) hlt (by unfold begS; rw [decide_eq_false hlen]; rfl))
        clear hex
        generalize l[k].1 = p at *
        generalize l[k].2 = z at *
        generalize stripL (l.take k) y = g at *
        generalize hP : (⟨p.toArray⟩ : ByteArray) = P at *
        have e1 : (p.length : Int) < (y.length : Int) := by omega
        go_wp2_with (at_builtin; refine wpList_pushh rfl (.tmp 34) (.tmp 39) rfl _ w.heap.size _ _ _ _ p z hP.symm rfl rfl hown rfl hb.size (by omega) ?_; intro v3 w3 hown3 hb3)
        go_roundw
        case rel => exact ⟨k + 1, by omega, by go_num, by rw [hst.out]; exact hown3, hb.trans hb3⟩
        case measure => simp [intOf]; omega
    · rw [List.take_of_length_le (by omega)] at *
      go_wp2_with fail
      go_ret
      exact ⟨_, rfl, hown, hb⟩

theorem hv_one (l : List Hd) : ∀ u ∈ hv l, u.oneCell' = true := by
  intro u hu
  simp only [hv, List.mem_flatMap, List.mem_cons, List.not_mem_nil, or_false] at hu
  obtain ⟨h, _, rfl | rfl⟩ := hu <;> rfl
/-- the chapter's Copy -/
theorem copy_ref (v : Value) (l : List Hd) (w : World) (hv : Hs w v l) (hs : l.length ≤ 1000) : Calls Tryd.prog 22 #[v] w fun e w' =>
    ∃ u, e = .returned u ∧ OwnH w' w.heap.size u l ∧ Below w.heap.size w w' := by
  obtain ⟨A, c, rfl, hc, hnil, hr⟩ := hv
  obtain ⟨i0, hi, hz0, hz1, hz2⟩ := info_parts infoH
  cases A with
  | none =>
    obtain rfl : c = 0 := hnil rfl
    obtain rfl : l = [] := List.eq_nil_of_length_eq_zero (by omega)
    go_enter Tryd.func22, Tryd.ntmps22
    go_wp2_with (at_builtin; refine wpList_append_own_none rfl (.tmp 4) (.tmp 5) 22 rfl w.heap.size 28 i0 2 Tryd.underlying22 hi _ 0 [] rfl (OwnH.nil w w.heap.size) rfl ?_)
    go_ret
    exact ⟨_, rfl, OwnH.nil _ _, Below.refl _ _⟩
  | some ad =>
    have hnews : ∀ j u, (hv l)[j]? = some u → w.cell? (ad.add j) = some u := fun j u hj => by
      obtain ⟨hlt, e⟩ := List.getElem?_eq_some_iff.1 hj
      obtain ⟨b, off, e1, _, hcell⟩ := hr j hlt
      injection e1 with e1
      subst e1
      rw [add_pl, hcell, e]
    have HR := Lib.hid hnews
    clear hnews hr
    go_enter Tryd.func22, Tryd.ntmps22
    go_wp2_with (at_builtin; refine wpList_append_own _ rfl (.tmp 4) (.tmp 5) 22 rfl w.heap.size 28 i0 (.agg #[.string ⟨#[]⟩, .string ⟨#[]⟩]) 2 32 Tryd.underlying22 hi hz0 hz1 hz2 rfl (by decide) _ 0 [] rfl (OwnH.nil w w.heap.size) ad l.length c (hv l) rfl (hv_len l) HR.out (hv_one l) (by unfold maxLen; omega) (by omega) (Nat.le_refl _) ?_; intro v3 w3 hown3 hg3 _)
    go_ret
    refine ⟨_, rfl, ?_, (Below.refl _ _).grown hg3 (Nat.le_refl _) (fun k hk => by cases hk)⟩
    unfold OwnH
    simpa using hown3

set_option maxHeartbeats 1000000 in
/-- the chapter's Set -/
theorem set_ref (v : Value) (l : List Hd) (y z : List UInt8) (w : World) (hv : Hs w v l) (hs : Sm l) (hy : y.length ≤ 1000) (hz : z.length ≤ 1000) : Calls Tryd.prog 30 #[v, .string ⟨y.toArray⟩, .string ⟨z.toArray⟩] w fun e w' =>
    ∃ u, e = .returned (.tuple #[u, .int .i64 (setE l y z)]) ∧ OwnH w' w.heap.size u (setL l y z) ∧ Below w.heap.size w w' := by
  have cd := Lib.hid (drop_ref v l y w hv hs hy)
  have hdl : (dropL l y).length ≤ 1000 := (hs.filter _).1
  unfold setL setE
  clear hv hs
  cases q1 : isNm y with
  | false =>
    have c1 := Lib.hid (isName_refL y hy false q1)
    clear q1 cd
    go_enter Tryd.func30, Tryd.ntmps30
    go_wp2_with (go_at_call 45; refine (c1.out _).mono ?_; rintro e w1 ⟨rfl, rfl⟩)
    go_ret2
    exact ⟨_, rfl, OwnH.nil _ _, Below.refl _ _⟩
  | true =>
    have c1 := Lib.hid (isName_refL y hy true q1)
    cases q2 : isVl z with
    | false =>
      have c2 := Lib.hid (isValue_refL z hz false q2)
      clear q1 q2 cd
      go_enter Tryd.func30, Tryd.ntmps30
      go_wp2_with fail
      go_at_call 45
      refine (c1.out _).mono ?_
      rintro e w1 ⟨rfl, rfl⟩
      go_wp2_with fail
      go_at_call 46
      refine (c2.out _).mono ?_
      rintro e w1 ⟨rfl, rfl⟩
      go_wp2_with fail
      go_ret2
      exact ⟨_, rfl, OwnH.nil _ _, Below.refl _ _⟩
    | true =>
      have c2 := Lib.hid (isValue_refL z hz true q2)
      clear q1 q2
      generalize dropL l y = g at *
      go_enter Tryd.func30, Tryd.ntmps30
      go_wp2_with fail
      go_at_call 45
      refine (c1.out _).mono ?_
      rintro e w1 ⟨rfl, rfl⟩
      go_wp2_with fail
      go_at_call 46
      refine (c2.out _).mono ?_
      rintro e w1 ⟨rfl, rfl⟩
      go_wp2_with fail
      go_at_call 26
      refine cd.out.mono ?_
      rintro e w1 ⟨u, rfl, hown, hb⟩
      by_cases h16 : 16 < g.length + 1
      · go_wp2_with (at_builtin; refine wpList_pushh rfl (.tmp 19) (.tmp 23) rfl _ w.heap.size _ _ _ _ y z rfl rfl rfl hown rfl hb.size (by omega) ?_; intro v3 w3 hown3 hb3; obtain ⟨A3, c3, rfl, hl3, _, hr3⟩ := hown3.hs; rw [List.length_append, List.length_singleton])
        go_ret2
        exact ⟨_, rfl, OwnH.nil _ _, hb.trans hb3⟩
      · go_wp2_with (at_builtin; refine wpList_pushh rfl (.tmp 19) (.tmp 23) rfl _ w.heap.size _ _ _ _ y z rfl rfl rfl hown rfl hb.size (by omega) ?_; intro v3 w3 hown3 hb3; obtain ⟨A3, c3, rfl, hl3, _, hr3⟩ := hown3.hs; rw [List.length_append, List.length_singleton])
        go_ret2
        exact ⟨_, rfl, by rw [List.length_append] at hown3; exact hown3, hb.trans hb3⟩
end Go.Proofs.YtfiioojnmjnmmaaDoor
