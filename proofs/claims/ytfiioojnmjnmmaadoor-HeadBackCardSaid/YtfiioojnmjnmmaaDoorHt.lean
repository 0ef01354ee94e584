/- Helpers of the laws over lists of headers: cut, spoilt, fine. -/
import Derived.Test.YtfiioojnmjnmmaaDoorHr
import Derived.StillTailTactics
namespace Go.Proofs.YtfiioojnmjnmmaaDoor
open Go Go.RowKit

def cutH (h : Hd) : Hd := (h.1.take 250, h.2.take 250)
def cutL (l : List Hd) : List Hd := (l.take 20).map cutH
theorem cut_step {l : List Hd} {k : Nat} (hk : k < l.length) : (l.take (k + 1)).map cutH = (l.take k).map cutH ++ [(l[k].1.take 250, l[k].2.take 250)] := by
  rw [← List.take_append_getElem hk, List.map_append]; rfl
theorem cut_len (l : List Hd) (k : Nat) (hk : k ≤ 20) : ((l.take k).map cutH).length ≤ 20 := by rw [List.length_map, List.length_take]; omega
theorem cutL_sm (l : List Hd) : Sm (cutL l) := by
  refine ⟨Nat.le_trans (cut_len l 20 (Nat.le_refl _)) (by omega), fun h hh => ?_⟩
  obtain ⟨x, _, rfl⟩ := List.mem_map.1 hh
  unfold cutH
  simp only [List.length_take]
  omega
/-- Headers whose texts are no longer than a machine's. -/
def Mx (l : List Hd) : Prop := ∀ h ∈ l, h.1.length ≤ maxLen ∧ h.2.length ≤ maxLen
theorem short_still (z : List UInt8) (hz : z.length ≤ maxLen) (w : World) : Calls Tryd.prog 11 #[.string ⟨z.toArray⟩] w fun e w' => e = .returned (.string ⟨(z.take 250).toArray⟩) ∧ w' = w :=
  (short_anyL z w hz).mono fun _ _ ⟨h1, h2⟩ => ⟨h1, h2.symm⟩

theorem new2 (w : World) (p q : ByteArray) {b : Nat} (h : b < w.heap.size) (j : Nat) : (w.alloc (.cells #[.string p, .string q] 28)).drew.cell? ⟨b, j, none⟩ = w.cell? ⟨b, j, none⟩ :=
  (below_new w (.cells #[.string p, .string q] 28)).cell (p := ⟨b, j, none⟩) h
theorem step_pushh {ops : Array Oper} {o : Oper} {a : Act} {K : Act → World → Prop} {Q : Exit → Act → World → Prop} {E : Prop} (hgd : o.guard = none) (s x : Operand)
    (ho : o.op = .call { callee := .builtin .append, args := #[s, x], argTypes := #[22, 22] }) (w : World) (base : Nat) (v : Value) (l : List Hd) (z y : List UInt8)
    (hs : a.eval s = v) (hown : OwnH w base v l) (hx : a.eval x = .slice (some ⟨w.heap.size, 0, none⟩) 1 1) (hbase : base ≤ w.heap.size) (hlen : l.length ≤ 1000000000)
    (h : ∀ v' w', OwnH w' base v' (l ++ [(z, y)]) → Below base w w' → K (a.put o.dst v') w') :
    if Region.wanted o (yielded ops a.tmps) = true then Oper.wp Tryd.prog o a (w.alloc (.cells #[.string ⟨z.toArray⟩, .string ⟨y.toArray⟩] 28)).drew K Q else E := by
  obtain ⟨i0, hi, hz0, hz1, hz2⟩ := info_parts infoH
  have hown' : OwnH (w.alloc (.cells #[.string ⟨z.toArray⟩, .string ⟨y.toArray⟩] 28)).drew base v l := OwnH.below hown (below_drewN (below_new _ _) 1)
  refine step_append_lies _ hgd s x 22 ho base 28 i0 (.agg #[.string ⟨#[]⟩, .string ⟨#[]⟩]) 2 32 Tryd.underlying22 hi hz0 hz1 hz2 rfl (by decide) v l.length (hv l) hs hown'
    ⟨w.heap.size, 0, none⟩ 1 1 [strV z, strV y] hx rfl ?_ ?_ (by decide) (by unfold maxLen; omega) (by omega) (by show base ≤ (w.alloc _).heap.size; simp; omega) _ rfl ?_
  · intro j u hj
    match j, hj with
    | 0, hj => simp at hj; subst hj; show (w.alloc _).cell? _ = _; simp [Addr.add, strV]
    | 1, hj => simp at hj; subst hj; show (w.alloc _).cell? _ = _; simp [Addr.add, strV]
    | j + 2, hj => simp at hj
  · intro u hu
    simp at hu
    rcases hu with rfl | rfl <;> rfl
  · intro g cap w' ho' hg _ _
    refine h _ w' ?_ ?_
    · unfold OwnH; rw [List.length_append, hv_snoc]; exact ho'
    · exact (below_drewN ((Below.refl base w).alloc hbase _) 1).grown hg (by show base ≤ (w.alloc _).heap.size; simp; omega) (fun k hk => (World.ownsRow.lt hown k hk).1)

set_option maxHeartbeats 1000000 in
theorem cut_any (A : Option Addr) (c : Nat) (l : List Hd) (w : World) (hr : Rd w A (hv l)) (hm : Mx l) : Calls Tryd.prog 10 #[.slice A l.length c] w fun e w' =>
    ∃ u, e = .returned u ∧ OwnH w' w.heap.size u (cutL l) ∧ Below w.heap.size w w' := by
  have HR := Lib.hid hr
  have HS := Lib.hid hm
  clear hr hm
  go_enter Tryd.func10, Tryd.ntmps10
  go_wp2_with fail
  go_loopw [3, 4] (fun v i wr => ∃ k : Nat, k ≤ l.length ∧ k ≤ 20 ∧ i = .int .i64 k ∧ OwnH wr w.heap.size v ((l.take k).map cutH) ∧ Below w.heap.size w wr) (fun _ i _ => 20 - (intOf i).toNat)
  case atStart => exact ⟨0, Nat.zero_le _, Nat.zero_le _, rfl, OwnH.nil _ _, Below.refl _ _⟩
  case round =>
    obtain ⟨k, hk, hk2, rfl, hown, hb⟩ := hrel
    have hgl := cut_len l k hk2
    by_cases hlt : k < l.length
    · by_cases h20 : k < 20
      · obtain ⟨wq, rfl⟩ : ∃ wq : World, wq = wr := ⟨_, rfl⟩
        obtain ⟨b, o, rfl, hbl0, h10, h20'⟩ := HR.out.head k hlt
        have h1 := (hb.cell (p := ⟨b, o + k * 2, none⟩) hbl0).trans h10
        have h2 := (hb.cell (p := ⟨b, o + k * 2 + 1, none⟩) hbl0).trans h20'
        have hbl : b < wq.heap.size := Nat.lt_of_lt_of_le hbl0 hb.size
        obtain ⟨z1, z2⟩ := HS.out l[k] (List.getElem_mem hlt)
        have i1 : (0 : Int) ≤ k := by omega
        have i2 : (k : Int) < l.length := by omega
        have hst := Lib.hid (cut_step hlt)
        have s1 := Lib.hid (short_still l[k].1 z1)
        have s2 := Lib.hid (short_still l[k].2 z2)
        clear h10 h20'
        generalize l[k].1 = p at *
        generalize l[k].2 = z at *
        generalize (l.take k).map cutH = g at *
        generalize hp' : p.take 250 = p' at *
        generalize hz' : z.take 250 = z' at *
        clear hp' hz' z1 z2
        have HO := Lib.hid hown
        have HB := Lib.hid hb
        clear hown hb
        have k1 := (new2 wq ⟨p'.toArray⟩ ⟨z'.toArray⟩ hbl (o + k * 2)).trans h1
        have k2 := (new2 wq ⟨p'.toArray⟩ ⟨z'.toArray⟩ hbl (o + k * 2 + 1)).trans h2
        have K1 : Hid (_ ∧ _) := Lib.hid (And.intro k1 k2)
        clear k1 k2
        go_wp2_with fail
        go_region_held3 (fun w' => w'.cell? ⟨b, o + k * 2, none⟩ = some (.string ⟨p.toArray⟩) ∧ w'.cell? ⟨b, o + k * 2 + 1, none⟩ = some (.string ⟨z.toArray⟩))
          (first | exact ⟨h1, h2⟩ | exact K1.out | exact Hid.out (by assumption))
          ((first
            | (go_at_call 11; with_reducible refine (s1.out _).mono ?_; rintro e w' ⟨rfl, rfl⟩)
            | (go_at_call 11; with_reducible refine (s2.out _).mono ?_; rintro e w' ⟨rfl, rfl⟩)
            | (refine step_pushh rfl (.tmp 15) (.tmp 29) rfl wq w.heap.size _ g p' z' rfl HO.out rfl HB.out.size (by omega) ?_; intro v3 w3 hown3 hb3; have K3 : Hid (_ ∧ _) := Lib.hid (And.intro ((hb3.cell (p := ⟨b, o + k * 2, none⟩) hbl0).trans h1) ((hb3.cell (p := ⟨b, o + k * 2 + 1, none⟩) hbl0).trans h2)))))
        all_goals
          go_wp2_with fail
          go_roundw
          case rel => exact ⟨k + 1, by omega, by omega, by go_num, by rw [hst.out]; exact hown3, HB.out.trans hb3⟩
          case measure => simp [intOf]; omega
      · have hf : cutL l = (l.take k).map cutH := by unfold cutL; rw [show k = 20 by omega]
        have hf := Lib.hid hf
        generalize (l.take k).map cutH = g at *
        have i2 : (k : Int) < l.length := by omega
        have HO := Lib.hid hown
        have HB := Lib.hid hb
        clear hown hb
        go_wp2_with fail
        go_ret
        exact ⟨_, rfl, by rw [hf.out]; exact HO.out, HB.out⟩
    · have hf : cutL l = (l.take k).map cutH := by unfold cutL; rw [List.take_of_length_le (by omega), List.take_of_length_le (by omega)]
      have hf := Lib.hid hf
      generalize (l.take k).map cutH = g at *
      have HO := Lib.hid hown
      have HB := Lib.hid hb
      clear hown hb
      go_wp2_with fail
      go_ret
      exact ⟨_, rfl, by rw [hf.out]; exact HO.out, HB.out⟩
end Go.Proofs.YtfiioojnmjnmmaaDoor
