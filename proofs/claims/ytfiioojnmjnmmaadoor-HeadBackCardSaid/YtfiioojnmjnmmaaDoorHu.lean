/- Helpers of the laws: spoilt writes over a list that the call owns. -/
import Derived.Test.YtfiioojnmjnmmaaDoorHt
namespace Go.Proofs.YtfiioojnmjnmmaaDoor
open Go Go.RowKit

/-- The cells of a row that may be written. -/
structure RowW (w : World) (g n : Nat) : Prop where
  lt : g < w.heap.size
  has : ∀ j, j < n → ∃ v, w.cell? ⟨g, j, none⟩ = some v
  free : ∀ j, j < n → w.frozen? ⟨g, j, none⟩ = false
theorem RowW.set {w : World} {g n : Nat} (h : RowW w g n) (k : Nat) (hk : k < n) (u : Value) : RowW (w.setCell ⟨g, k, none⟩ u) g n := by
  refine ⟨by simpa using h.lt, fun j hj => ?_, fun j hj => by simpa using h.free j hj⟩
  obtain ⟨v, hv⟩ := h.has j hj
  by_cases e : j = k
  · subst e
    exact ⟨u, World.cell?_setCell_same _ _ _ hv⟩
  · exact ⟨v, by rw [World.cell?_setCell_other _ _ _ _ (fun x => e (by simpa using x.symm)), hv]⟩
theorem RowW.of {w : World} {base : Nat} {v : Value} {l : List Hd} (h : OwnH w base v l) : (v = .slice none 0 0 ∧ l = []) ∨ ∃ g c, v = .slice (some ⟨g, 0, none⟩) l.length c ∧ base ≤ g ∧ RowW w g (l.length * 2) := by
  rcases h.2 with ⟨h1, h2⟩ | ⟨g, cap, cur, hv, hb, hg, hc, _, hz, _⟩
  · exact .inl ⟨h1, List.eq_nil_of_length_eq_zero h2⟩
  · refine .inr ⟨g, cap, hv, hb, (Array.getElem?_eq_some_iff.1 hg).1, fun j hj => ?_, fun j hj => ?_⟩
    · exact ⟨cur[j], by simp [World.cell?, hg, Array.getElem?_eq_getElem (show j < cur.size by omega)]⟩
    · unfold World.frozen?
      rw [hg]
      simp
theorem RowW.kept {w W : World} {g n : Nat} {row : Option Nat} (h : RowW w g n) (hg : w.grownBy W row) (hne : some g ≠ row) : RowW W g n := by
  have e := hg.block g h.lt hne
  refine ⟨Nat.lt_of_lt_of_le h.lt hg.size, fun j hj => ?_, fun j hj => ?_⟩
  · obtain ⟨v, hv⟩ := h.has j hj
    exact ⟨v, (cell_heap e j).trans hv⟩
  · have := h.free j hj
    unfold World.frozen? at *
    rw [e]; exact this
theorem RowW.below {w W : World} {g n : Nat} (h : RowW w g n) (hb : Below w.heap.size w W) : RowW W g n := h.kept (grownBy_below hb none) (by simp)
theorem grownBy_set {w W : World} {g : Nat} (h : w.grownBy W (some g)) (j : Nat) (u : Value) : w.grownBy (W.setCell ⟨g, j, none⟩ u) (some g) :=
  have hb : Below g W (W.setCell ⟨g, j, none⟩ u) := (Below.refl g W).setCell (p := ⟨g, j, none⟩) (Nat.le_refl _) u
  ⟨hb.os.trans h.os, hb.tape.trans h.tape, hb.output.trans h.output, Nat.le_trans h.size hb.size, fun k hk hne => by
    rw [heap_setCell_other W ⟨g, j, none⟩ k u (fun e => hne (by subst e; rfl))]
    exact h.block k hk hne⟩
theorem grownBy_trans {a b c : World} {row : Option Nat} (h : a.grownBy b row) (k : b.grownBy c row) : a.grownBy c row :=
  ⟨k.os.trans h.os, k.tape.trans h.tape, k.output.trans h.output, Nat.le_trans h.size k.size, fun i hi hne => (k.block i (Nat.lt_of_lt_of_le hi h.size) hne).trans (h.block i hi hne)⟩
theorem OwnH.set {w : World} {base g : Nat} {v : Value} {l : List Hd} (h : OwnH w base v l) (hg : g < base) (j : Nat) (u : Value) : OwnH (w.setCell ⟨g, j, none⟩ u) base v l := by
  refine World.ownsRow.kept h (row := some g) (grownBy_set ⟨rfl, rfl, rfl, Nat.le_refl _, fun _ _ _ => rfl⟩ j u) ?_
  right
  rcases h.2 with ⟨rfl, _⟩ | ⟨b, cap, cur, rfl, hb, _⟩
  · simp [Value.ownBlock]
  · simp [Value.ownBlock]; omega

set_option maxHeartbeats 1000000 in
/-- spoilt: what was; the list's own row is written over, nothing else is. -/
theorem spoilt_any (v : Value) (l : List Hd) (base : Nat) (w : World) (hown : OwnH w base v l) (hs : l.length ≤ 1000) : Calls Tryd.prog 25 #[v] w fun e w' =>
    ∃ u, e = .returned u ∧ OwnH w' w.heap.size u l ∧ w.grownBy w' v.ownBlock := by
  have con := Lib.hid (copy_ref v l w hown.hs hs)
  rcases RowW.of hown with ⟨rfl, rfl⟩ | ⟨g, c, rfl, hg, hrow⟩
  · go_enter Tryd.func25, Tryd.ntmps25
    go_wp2_with fail
    refine con.out.mono ?_
    rintro e w1 ⟨u, rfl, hu, hb⟩
    have HU := Lib.hid hu
    clear hu con
    go_wp2_with fail
    go_loop [4] (fun i => i = .int .i64 0) (fun i => 0)
    case atStart => rfl
    case round =>
      obtain rfl := hrel
      go_wp2_with fail
      go_ret
      exact ⟨_, rfl, HU.out, grownBy_below hb _⟩
  · have hgl := hrow.lt
    have HW := Lib.hid hrow
    clear hrow hown
    go_enter Tryd.func25, Tryd.ntmps25
    go_wp2_with fail
    refine con.out.mono ?_
    rintro e w1 ⟨u, rfl, hu, hb⟩
    have HU := Lib.hid hu
    have HR := Lib.hid (HW.out.below hb)
    have HG : Hid (w.grownBy w1 (some g)) := grownBy_below hb _
    clear hu con hb HW
    go_wp2_with fail
    go_loopw [4] (fun i wr => ∃ k : Nat, k ≤ l.length ∧ i = .int .i64 k ∧ Hid (OwnH wr w.heap.size u l) ∧ Hid (RowW wr g (l.length * 2)) ∧ Hid (w.grownBy wr (some g))) (fun i _ => l.length - (intOf i).toNat)
    case atStart => exact ⟨0, Nat.zero_le _, rfl, HU, HR, HG⟩
    case round =>
      obtain ⟨k, hk, rfl, HO, HW, HG2⟩ := hrel
      clear HU HR HG
      by_cases hlt : k < l.length
      · have i1 : (0 : Int) ≤ k := by omega
        have i2 : (k : Int) < l.length := by omega
        obtain ⟨x0, h0⟩ := HW.out.has (k * 2) (by omega)
        obtain ⟨x1, h1⟩ := HW.out.has (k * 2 + 1) (by omega)
        have f0 := HW.out.free (k * 2) (by omega)
        have f1 := HW.out.free (k * 2 + 1) (by omega)
        go_wp2_with fail
        go_roundw
        case rel => exact ⟨k + 1, by omega, by go_num, (HO.out.set hgl _ _).set hgl _ _, (HW.out.set _ (by omega) _).set _ (by omega) _, grownBy_set (grownBy_set HG2.out _ _) _ _⟩
        case measure => simp [intOf]; omega
      · go_wp2_with fail
        go_ret
        exact ⟨_, rfl, HO.out, HG2.out⟩
end Go.Proofs.YtfiioojnmjnmmaaDoor
