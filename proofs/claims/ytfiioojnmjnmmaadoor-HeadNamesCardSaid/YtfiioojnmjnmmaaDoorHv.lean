/- Helpers of the laws: fine, those of a list that may be, 12 at most. -/
import Derived.Test.YtfiioojnmjnmmaaDoorHu
namespace Go.Proofs.YtfiioojnmjnmmaaDoor
open Go Go.RowKit

def fineF (l : List Hd) : List Hd := (l.map cutH).filter okH
def fineL (l : List Hd) : List Hd := (fineF l).take 12
theorem fineF_step {l : List Hd} {k : Nat} (hk : k < l.length) : fineF (l.take (k + 1)) = fineF (l.take k) ++ (if okH (l[k].1.take 250, l[k].2.take 250) then [(l[k].1.take 250, l[k].2.take 250)] else []) := by
  unfold fineF
  rw [cut_step hk, List.filter_append]
  congr 1
  cases h : okH (l[k].1.take 250, l[k].2.take 250) <;> simp [h]
theorem fineF_pre (l : List Hd) (k : Nat) : fineF (l.take k) <+: fineF l := ((List.take_prefix k l).map cutH).filter _
theorem fineL_stop {l : List Hd} {k : Nat} (h : (fineF (l.take k)).length = 12) : fineL l = fineF (l.take k) := by
  obtain ⟨t, ht⟩ := fineF_pre l k
  unfold fineL
  rw [← ht, List.take_append_of_le_length (by omega), ← h, List.take_length]
theorem fineL_full {l : List Hd} (h : (fineF l).length ≤ 12) : fineL l = fineF l := List.take_of_length_le h
theorem fineL_ok {l : List Hd} : ∀ h ∈ fineL l, okH h = true := fun _ hh => (List.mem_filter.1 (List.mem_of_mem_take hh)).2
theorem fineL_len (l : List Hd) : (fineL l).length ≤ 12 := by unfold fineL; rw [List.length_take]; omega
theorem ok_sm {l : List Hd} (hl : l.length ≤ 1000) (h : ∀ x ∈ l, okH x = true) : Sm l := ⟨hl, fun x hx => by
  obtain ⟨h1, h2⟩ := okH_one.1 (h x hx)
  have := isNm_len h1
  have := isVl_len h2
  omega⟩
theorem fineL_sm (l : List Hd) : Sm (fineL l) := ok_sm (Nat.le_trans (fineL_len l) (by omega)) fineL_ok
theorem chk_one (h : Hd) : chkE [h] = if okH h then 0 else 40 := by
  unfold chkE
  rw [if_neg (by simp)]
  simp
theorem one_sm {p q : List UInt8} (hp : p.length ≤ 1000) (hq : q.length ≤ 1000) : Sm [(p, q)] := ⟨by simp, by intro h hh; simp at hh; subst hh; exact ⟨hp, hq⟩⟩
theorem take250 (z : List UInt8) : (z.take 250).length ≤ 1000 := by rw [List.length_take]; omega

set_option maxHeartbeats 1000000 in
theorem fine_any (A : Option Addr) (c : Nat) (l : List Hd) (w : World) (hr : Rd w A (hv l)) (hm : Mx l) (hlen : l.length ≤ maxLen) : Calls Tryd.prog 36 #[.slice A l.length c] w fun e w' =>
    ∃ u, e = .returned u ∧ OwnH w' w.heap.size u (fineL l) ∧ Below w.heap.size w w' := by
  have HR := Lib.hid hr
  have HS := Lib.hid hm
  clear hr hm
  unfold maxLen at hlen
  go_enter Tryd.func36, Tryd.ntmps36
  go_wp2_with fail
  go_loopw [3, 4] (fun v i wr => ∃ (k : Nat) (A2 : Option Addr) (c2 : Nat), k ≤ l.length ∧ i = .int .i64 k ∧ v = .slice A2 (fineF (l.take k)).length c2 ∧ (fineF (l.take k)).length ≤ 12 ∧ OwnH wr w.heap.size v (fineF (l.take k)) ∧ Below w.heap.size w wr) (fun _ i _ => l.length - (intOf i).toNat)
  case atStart => exact ⟨0, none, 0, Nat.zero_le _, rfl, rfl, Nat.zero_le _, OwnH.nil _ _, Below.refl _ _⟩
  case round =>
    obtain ⟨k, A2, c2, hk, rfl, rfl, hgl, hown, hb⟩ := hrel
    by_cases hlt : k < l.length
    · by_cases h12 : (fineF (l.take k)).length < 12
      · obtain ⟨wq, rfl⟩ : ∃ wq : World, wq = wr := ⟨_, rfl⟩
        obtain ⟨b, o, rfl, hbl0, h10, h20'⟩ := HR.out.head k hlt
        have h1 := (hb.cell (p := ⟨b, o + k * 2, none⟩) hbl0).trans h10
        have h2 := (hb.cell (p := ⟨b, o + k * 2 + 1, none⟩) hbl0).trans h20'
        have hbl : b < wq.heap.size := Nat.lt_of_lt_of_le hbl0 hb.size
        obtain ⟨z1, z2⟩ := HS.out l[k] (List.getElem_mem hlt)
        have i1 : (0 : Int) ≤ k := by omega
        have i2 : (k : Int) < l.length := by omega
        have i3 : ((fineF (l.take k)).length : Int) < 12 := by omega
        have hst := Lib.hid (fineF_step hlt)
        have s1 := Lib.hid (short_still l[k].1 z1)
        have s2 := Lib.hid (short_still l[k].2 z2)
        have t1 := Lib.hid (take250 l[k].1)
        have t2 := Lib.hid (take250 l[k].2)
        clear h10 h20'
        generalize l[k].1 = p at *
        generalize l[k].2 = z at *
        generalize fineF (l.take k) = g at *
        generalize hp' : p.take 250 = p' at *
        generalize hz' : z.take 250 = z' at *
        clear hp' hz' z1 z2
        have HO := Lib.hid hown
        have HB := Lib.hid hb
        clear hown hb
        go_upto_region 5 with fail
        go_cut [5] from 17 to 29 (fun u wx => u = .pointer (some ⟨wq.heap.size, 0, none⟩) ∧ wx = (wq.alloc (.cells #[.string ⟨p'.toArray⟩, .string ⟨z'.toArray⟩] 28)).drew)
        case first =>
          go_wp2_with fail
          go_region_held3 (fun w' => w'.cell? ⟨b, o + k * 2, none⟩ = some (.string ⟨p.toArray⟩) ∧ w'.cell? ⟨b, o + k * 2 + 1, none⟩ = some (.string ⟨z.toArray⟩))
            (first | exact ⟨h1, h2⟩ | exact ⟨(new2 wq _ _ hbl _).trans h1, (new2 wq _ _ hbl _).trans h2⟩)
            ((first
              | (go_at_call 11; with_reducible refine (s1.out _).mono ?_; rintro e w' ⟨rfl, rfl⟩)
              | (go_at_call 11; with_reducible refine (s2.out _).mono ?_; rintro e w' ⟨rfl, rfl⟩)))
          all_goals (go_wp2_with fail; go_meet; case rel => exact ⟨rfl, rfl⟩)
        case rest =>
          obtain ⟨rfl, rfl⟩ := hcut
          obtain ⟨d1, d2⟩ := alloc_head wq (.string ⟨p'.toArray⟩) (.string ⟨z'.toArray⟩)
          have e1 : (wq.alloc (.cells #[.string ⟨p'.toArray⟩, .string ⟨z'.toArray⟩] 28)).drew.cell? ⟨wq.heap.size, 0, none⟩ = _ := d1
          have e2 : (wq.alloc (.cells #[.string ⟨p'.toArray⟩, .string ⟨z'.toArray⟩] 28)).drew.cell? ⟨wq.heap.size, 1, none⟩ = _ := d2
          have B1 : Below wq.heap.size wq (wq.alloc (.cells #[.string ⟨p'.toArray⟩, .string ⟨z'.toArray⟩] 28)).drew := below_drewN (below_new _ _) 1
          have hq : wq.heap.size < (wq.alloc (.cells #[.string ⟨p'.toArray⟩, .string ⟨z'.toArray⟩] 28)).drew.heap.size := by show _ < (wq.alloc _).heap.size; simp
          generalize (wq.alloc (.cells #[.string ⟨p'.toArray⟩, .string ⟨z'.toArray⟩] 28)).drew = W1 at *
          have con := Lib.hid (check_any _ [(p', z')] _ (hs_made W1 [(p', z')] 1 rfl #[.string ⟨p'.toArray⟩, .string ⟨z'.toArray⟩] rfl) (one_sm t1.out t2.out))
          rw [chk_one] at con
          have HO1 := Lib.hid (HO.out.below B1)
          have HB1 := Lib.hid (HB.out.trans (B1.mono HB.out.size))
          clear d1 d2 HO HB h1 h2 B1
          generalize wq.heap.size = bx at *
          cases hok : okH (p', z') with
          | true =>
            rw [hok, if_pos rfl] at con hst
            have HK := Lib.hid hok
            clear hok
            go_wp2_with fail
            refine con.out.mono ?_
            rintro e W2 ⟨rfl, b2⟩
            have b2 := Below.and (below_new W1 _) b2
            have e3 := (b2.cell (p := ⟨bx, 0, none⟩) hq).trans e1
            have e4 := (b2.cell (p := ⟨bx, 1, none⟩) hq).trans e2
            have HO2 := HO1.out.below b2
            have HB2 := Lib.hid (HB1.out.trans (b2.mono HB1.out.size))
            clear e1 e2 HO1 HB1 con b2
            go_wp2_with (at_builtin; refine wpList_pushh rfl (.tmp 34) (.tmp 36) rfl _ w.heap.size _ _ _ _ p' z' rfl rfl rfl HO2 rfl HB2.out.size (by omega) ?_; intro v3 w3 hown3 hb3)
            obtain ⟨A4, c4, rfl, _⟩ := hown3.hs
            go_roundw
            case rel => exact ⟨k + 1, _, _, by omega, by go_num, by rw [hst.out], by rw [hst.out]; simp; omega, by rw [hst.out]; exact hown3, HB2.out.trans hb3⟩
            case measure => simp [intOf]; omega
          | false =>
            rw [hok, if_neg (by simp)] at con
            rw [hok, if_neg (by simp), List.append_nil] at hst
            clear hok
            go_wp2_with fail
            refine con.out.mono ?_
            rintro e W2 ⟨rfl, b2⟩
            have b2 := Below.and (below_new W1 _) b2
            have HO2 := Lib.hid (HO1.out.below b2)
            have HB2 := Lib.hid (HB1.out.trans (b2.mono HB1.out.size))
            clear e1 e2 HO1 HB1 con b2
            go_wp2_with fail
            go_roundw
            case rel => exact ⟨k + 1, _, _, by omega, by go_num, by rw [hst.out], by rw [hst.out]; omega, by rw [hst.out]; exact HO2.out, HB2.out⟩
            case measure => simp [intOf]; omega
      · have hf := Lib.hid (fineL_stop (l := l) (k := k) (by omega))
        have i2 : (k : Int) < l.length := by omega
        have i3 : ¬ (((fineF (l.take k)).length : Int) < 12) := by omega
        generalize fineF (l.take k) = g at *
        have HO := Lib.hid hown
        have HB := Lib.hid hb
        clear hown hb
        go_wp2_with fail
        go_ret
        exact ⟨_, rfl, by rw [hf.out]; exact HO.out, HB.out⟩
    · rw [List.take_of_length_le (by omega)] at *
      have hf := Lib.hid (fineL_full hgl)
      generalize fineF l = g at *
      have HO := Lib.hid hown
      have HB := Lib.hid hb
      clear hown hb
      go_wp2_with fail
      go_ret
      exact ⟨_, rfl, by rw [hf.out]; exact HO.out, HB.out⟩
end Go.Proofs.YtfiioojnmjnmmaaDoor
