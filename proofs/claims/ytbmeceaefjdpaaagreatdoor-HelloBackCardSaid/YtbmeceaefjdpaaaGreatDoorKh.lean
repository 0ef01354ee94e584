/- What the program asks of a greeting: its size. -/
import Derived.Test.YtbmeceaefjdpaaaGreatDoorKg
namespace Go.Proofs.YtbmeceaefjdpaaaGreatDoor
open Go Go.RowKit

def sizeG (g : Grt) : Nat := 53 + g.ses.length + 2 * g.suites.length + g.meth.length + g.host.length + (encX g.exts).length
theorem encX_step {l : List (Int × List UInt8)} {k : Nat} (hk : k < l.length) : (encX (l.take (k + 1))).length = (encX (l.take k)).length + (4 + l[k].2.length) := by
  rw [encX_take hk]
  unfold fillB
  rw [List.length_append, List.length_append, List.length_append, rowB_len, rowB_len]
  omega
theorem encX_most {l : List (Int × List UInt8)} (hd : ∀ x ∈ l, x.2.length ≤ 1000000) : ∀ k, k ≤ l.length → (encX (l.take k)).length ≤ k * 1000004
  | 0, _ => by simp [encX]
  | k + 1, hk => by
    have := encX_most hd k (by omega)
    have h2 := hd l[k] (List.getElem_mem (by omega))
    rw [encX_step (by omega)]
    omega
set_option maxRecDepth 100000 in
set_option maxHeartbeats 1000000 in
theorem size_prog {w : World} {g : Grt} {a : Adr} (h : GrV w.heap.size w g a) (hd : ∀ x ∈ g.exts, x.2.length ≤ 1000000) : Calls Tryz.prog 57 #[.agg (grtA g a)] w fun e w' => e = .returned (.int .i64 (sizeG g : Nat)) ∧ Below w.heap.size w w' := by
  have HN := Lib.hid h.ext
  have HM := Lib.hid (encX_most hd)
  have HB0 := Lib.hid (below_new w (.cells (grtA g a) 28))
  have hs := h.sl
  have hu := h.ul
  have hm := h.ml
  have hh := h.hl
  have hx := h.xl
  have hhs := mk_size g.host
  have HS : Hid (∀ n, n = g.exts.length → 53 + g.ses.length + 2 * g.suites.length + g.meth.length + g.host.length + (encX (g.exts.take n)).length = sizeG g) := Lib.hid fun n hn => by rw [hn, List.take_length]; rfl
  have HE : Hid (∀ k (hk : k < g.exts.length), (encX (g.exts.take (k + 1))).length = (encX (g.exts.take k)).length + (4 + g.exts[k].2.length)) := Lib.hid fun k hk => encX_step hk
  have HDL : Hid (∀ k (hk : k < g.exts.length), g.exts[k].2.length ≤ 1000000) := Lib.hid fun k hk => hd _ (List.getElem_mem hk)
  clear h hd
  obtain ⟨mi, rnd, ses, su, me, ho, pos, ex⟩ := g
  obtain ⟨a1, k1, a2, k2, a3, k3, a4, k4⟩ := a
  dsimp only at *
  generalize sizeG ⟨mi, rnd, ses, su, me, ho, pos, ex⟩ = SZ at *
  go_enter Tryz.func57, Tryz.ntmps57
  go_wp2_with fail
  clear hhs
  generalize w.alloc (.cells (grtA ⟨mi, rnd, ses, su, me, ho, pos, ex⟩ ⟨a1, k1, a2, k2, a3, k3, a4, k4⟩) 28) = w1 at *
  generalize ses.length = q1 at *
  generalize su.length = q2 at *
  generalize me.length = q3 at *
  generalize ho.length = q4 at *
  go_loopw [3, 26] (fun n i wr => ∃ k : Nat, k ≤ ex.length ∧ i = .int .i64 k ∧ n = .int .i64 ((53 + q1 + 2 * q2 + q3 + q4 + (encX (ex.take k)).length : Nat) : Int) ∧ Below w.heap.size w wr) (fun _ i _ => ex.length - (intOf i).toNat)
  case atStart => exact ⟨0, Nat.zero_le _, rfl, congrArg (Value.int .i64) (by simp [encX]), HB0.out⟩
  case round =>
    obtain ⟨k, hk, rfl, rfl, hb⟩ := hrel
    have hem := HM.out k hk
    have HB := Lib.hid hb
    by_cases hlt : k < ex.length
    · obtain ⟨b, off, Ad, cd, rfl, _, hc0, hc1, _⟩ := HN.out.keep (fun j hj => hb.block j hj) hb.size k hlt
      have q0 : (0 : Int) ≤ k := by omega
      have q1' : (k : Int) < ex.length := by omega
      have hst := Lib.hid (HE.out k hlt)
      have hdl := HDL.out k hlt
      clear hb
      generalize ex[k].2.length = dl at *
      generalize ex[k].1 = kd at *
      generalize (encX (ex.take k)).length = E at *
      go_wp2_with fail
      go_roundw
      case rel => exact ⟨k + 1, by omega, by go_num, congrArg (Value.int .i64) (by rw [hst.out]; omega), HB.out.alloc HB.out.size _⟩
      case measure => simp [intOf]; omega
    · obtain rfl : ex.length = k := by omega
      clear hb
      have HT := Lib.hid (HS.out _ rfl)
      go_wp2_with fail
      go_ret
      exact ⟨by rw [← HT.out] <;> rfl, HB.out⟩
end Go.Proofs.YtbmeceaefjdpaaaGreatDoor
