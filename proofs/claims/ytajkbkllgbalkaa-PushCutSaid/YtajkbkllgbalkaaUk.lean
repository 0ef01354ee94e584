/- The program's reader: lines. -/
import Derived.Test.YtajkbkllgbalkaaUj
import Derived.Deep.WholeRow
namespace Go.Proofs.Ytajkbkllgbalkaa
open Go Go.RowKit

theorem lnC_snoc : ∀ (k : Nat) (st : St), lnC (k + 1) st = txC (lnC k st)
  | 0, _ => rfl
  | k + 1, st => by rw [lnC, lnC_snoc k (txC st), lnC]
theorem lnV_snoc : ∀ (k : Nat) (st : St), lnV (k + 1) st = lnV k st ++ [txV (lnC k st)]
  | 0, _ => rfl
  | k + 1, st => by rw [lnV, lnV_snoc k (txC st), lnV, lnC]; rfl
theorem lnV_len : ∀ (k : Nat) (st : St), (lnV k st).length = k
  | 0, _ => rfl
  | k + 1, st => by rw [lnV, List.length_cons, lnV_len k]
theorem lnV_short : ∀ (k : Nat) (st : St), ∀ s ∈ lnV k st, s.length ≤ 65536
  | 0, _, s, h => by cases h
  | k + 1, st, s, h => by
    rw [lnV] at h
    rcases List.mem_cons.1 h with rfl | h
    · exact txV_len st
    · exact lnV_short k _ s h
theorem Own.kp {w w' : World} {base g B : Nat} {v : Value} {ws : List Bs} (h : Own w base v ws) (hk : Kp g B w w') (hB : w.heap.size ≤ B) (hg : g < base) : Own w' base v ws :=
  World.ownsRow.kept (row := some g) h ⟨hk.os, hk.tape, hk.output, hk.size, fun k hk' hne => hk.block k (Nat.lt_of_lt_of_le hk' hB) fun e => hne (by rw [e])⟩ (by
    cases hv : v.ownBlock with
    | none => simp
    | some b =>
      have := (World.ownsRow.lt h b hv).1
      simp
      omega)
theorem Own.up {w : World} {base base' : Nat} {v : Value} {ws : List Bs} (h : Own w base v ws) (hb : base' ≤ base) : Own w base' v ws := by
  refine ⟨h.1, ?_⟩
  rcases h.2 with h0 | ⟨g, cap, cur, h1, h2, h3⟩
  · exact .inl h0
  · exact .inr ⟨g, cap, cur, h1, Nat.le_trans hb h2, h3⟩
theorem Rdm.low {T : TypeId} {w w' : World} {g D base : Nat} {st : St} {A : Option Addr} {n c : Nat} {e : Int} (h : Rdm T w g D st A n c e) (hb : Below base w w') (hg : g < base) : Rdm T w' g D st A n c e :=
  ⟨(hb.block g hg).trans h.box, h.dg, fun B hB => by
    obtain ⟨h1, h2, h3, h4⟩ := h.ok B hB
    exact ⟨h1, h2, h3.keep fun k hk => hb.block k (by have := h.dg; omega), h4⟩, h.err⟩
/-- what lines hands back -/
def LinP (T : TypeId) (g D : Nat) (L : List Bs) (st : St) (w : World) (E : Ending) (w' : World) : Prop :=
  ∃ v, E = .returned v ∧ Own w' w.heap.size v L ∧ RdP T g D st w w'
set_option maxRecDepth 100000 in
theorem lines_prog {w : World} {g D : Nat} {st : St} {A : Option Addr} {n c : Nat} {e : Int} (h : Rdm 75 w g D st A n c e) :
    Calls Try.prog 77 #[.pointer (some ⟨g, 0, none⟩)] w (LinP 75 g D (lsV st) (lsC st) w) := by
  have CC := Lib.hid (count_prog h 2 (by decide) 1000)
  have hle := cnV_le st 2 1000
  have hg := h.box.lt
  have HV : Hid (lsV st = lnV (cnV st 2 1000) (cnC st 2 1000) ∧ lsC st = lnC (cnV st 2 1000) (cnC st 2 1000)) := Lib.hid ⟨rfl, rfl⟩
  clear h
  unfold NumP RdP at *
  unfold LinP RdP
  rw [HV.out.1, HV.out.2]
  generalize cnC st 2 1000 = S at *
  generalize cnV st 2 1000 = N at *
  clear HV
  go_enter Try.func77, Try.ntmps77
  go_wp2_with (go_at_call 82; refine CC.out.mono ?_; rintro E w1 ⟨rfl, hk1, A1, n1, c1, e1, hr1⟩; have K1 := Lib.hid hk1; have R1 := Lib.hid hr1; clear hk1 hr1)
  go_loopw [3, 6] (fun v i wr => ∃ (k : Nat) (A' : Option Addr) (n' c' : Nat) (e' : Int), k ≤ N ∧ i = .int .i64 k ∧ Own wr w.heap.size v (lnV k S) ∧ Kp g w.heap.size w wr ∧ Rdm 75 wr g D (lnC k S) A' n' c' e') (fun _ i _ => N - (intOf i).toNat)
  case atStart => exact ⟨0, A1, n1, c1, e1, Nat.zero_le _, rfl, Own.nil _ _, K1.out, R1.out⟩
  case round =>
    obtain ⟨k, A', n', c', e', hk, rfl, hown, hkp, hrd⟩ := hrel
    by_cases hlt : k < N
    · have q1 : (k : Int) < N := by omega
      have CT := Lib.hid (text_prog hrd)
      have HO := Lib.hid hown
      have HK := Lib.hid hkp
      have HVn := Lib.hid (lnV_snoc k S)
      have HCn := Lib.hid (lnC_snoc k S)
      have HL : Hid ((lnV k S).length ≤ 1000) := Lib.hid (by rw [lnV_len]; omega)
      have hgr : g < wr.heap.size := hrd.box.lt
      clear hown hkp hrd
      unfold TxtP RdP at CT
      generalize txV (lnC k S) = x at *
      generalize txC (lnC k S) = S2 at *
      generalize lnV k S = ws at *
      go_wp2_with (first
        | (go_at_call 76; refine CT.out.mono ?_; rintro E w2 ⟨rfl, hk2, A2, n2, c2, e2, hr2⟩; have K2 := Lib.hid (HK.out.trans (hk2.mono HK.out.size)); have R2 := Lib.hid hr2; have O2 := Lib.hid (HO.out.kp hk2 (Nat.le_refl _) hg); clear hk2 hr2)
        | (at_builtin; refine wpList_push rfl (.tmp 8) (.tmp 11) rfl w2 w.heap.size _ ws _ rfl O2.out rfl K2.out.size (by have := HL.out; omega) ?_; intro v3 w3 hown3 hb3; have O3 := Lib.hid hown3; have K3 := Lib.hid (K2.out.trans (kp_below hb3)); have R3 := Lib.hid (R2.out.low hb3 hg); clear hown3 hb3))
      go_roundw
      case rel => exact ⟨k + 1, A2, n2, c2, e2, by omega, by go_num, by rw [HVn.out]; have := O3.out; rwa [mk_toList] at this, K3.out, by rw [HCn.out]; exact R3.out⟩
      case measure => simp [intOf]; omega
    · obtain rfl : k = N := by omega
      have HO := Lib.hid hown
      have HK := Lib.hid hkp
      have HR := Lib.hid hrd
      clear hown hkp hrd
      go_wp2_with fail
      go_ret
      exact ⟨_, rfl, HO.out, HK.out, A', n', c', e', HR.out⟩
end Go.Proofs.Ytajkbkllgbalkaa
