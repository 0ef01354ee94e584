/- The range function over a set: what it hands to each loop over it. -/
import Derived.Test.YtaikhdmgcffflaaDoorWa
import Derived.RangeFuncNested
import Derived.RangeFuncBound
import Derived.RangeFuncCalls
import Derived.RangeFuncLeaves
import Derived.Shelf.Abstract
import Derived.Shelf.RegionOpen
import Derived.WalkKit
import Derived.OwnWalkIn
import Derived.TacticsInMore
import Derived.LoopNIn
import Derived.LoopIn
namespace Go.Proofs.YtaikhdmgcffflaaDoor
open Go Go.RowKit Go.Shelf
attribute [local go_sem] Oper.semAt_some

/-- What a loop over a set is handed: an element. -/
abbrev El := { x : Nat // x < 16 }
def elsE (s : Nat) : List El := (els s).attach.map fun x => ⟨x.1, els_lt x.2⟩
theorem elsE_val (s : Nat) : (elsE s).map (·.1) = els s := by
  unfold elsE
  rw [List.map_map]
  exact List.attach_map_subtype_val _
theorem map_val_inj : ∀ {xs ys : List El}, xs.map (·.1) = ys.map (·.1) → xs = ys
  | [], [], _ => rfl
  | [], _ :: _, h => by simp at h
  | _ :: _, [], h => by simp at h
  | x :: xs, y :: ys, h => by
    simp only [List.map_cons, List.cons.injEq] at h
    rw [Subtype.ext h.1, map_val_inj h.2]
theorem elsE_step {s : Nat} (hs : s < 65536) (h0 : s ≠ 0) : elsE s = ⟨tz s, (tz_spec hs h0).1⟩ :: elsE (s &&& (s - 1)) := by
  apply map_val_inj
  rw [elsE_val, List.map_cons, elsE_val, els_step hs h0]
theorem elsE_zero : elsE 0 = [] := by
  have h := elsE_val 0
  rw [els_zero] at h
  exact List.map_eq_nil_iff.1 h
theorem and_pred_lt {s : Nat} (h0 : s ≠ 0) : s &&& (s - 1) < s := Nat.lt_of_le_of_lt Nat.and_le_right (by omega)

theorem and_pred_bits {r : Nat} (hr : r < 65536) (hz : r ≠ 0) : bits BinOp.and IntKind.u16 (↑r) (↑r - 1) = ((r &&& (r - 1) : Nat) : Int) := by
  rw [show (r : Int) - 1 = ((r - 1 : Nat) : Int) by omega, u16_and_nat r _ hr (by omega)]

set_option maxHeartbeats 1000000 in
theorem elements1_in (n : Nat) (hn : 1 ≤ n) (l Bs n₀ : Nat) (hn₀ : 0 < n₀) (s : Nat) (hs : s < 65536) (J Jx : List El → World → Prop)
    (hY : ∀ pre x W, J pre W → pre.length < (elsE s).length → YieldAt Fence.wide (n - 1) Tryd.prog l #[.int .i64 (x.1 : Nat)] W fun e W' =>
      (e = .returned (.bool true) ∧ J (pre ++ [x]) W' ∧ Below n₀ W W') ∨ (e = .returned (.bool false) ∧ Jx (pre ++ [x]) W'))
    (W : World) (hT : Tab W) (hBs : W.cell? ⟨Bs, 0, none⟩ = some (.int .u16 s)) (h0 : J [] W) :
    CallsIn Fence.wide n Tryd.prog 83 #[.func (.yield l) #[] #[], .pointer (some ⟨Bs, 0, none⟩)] W fun e W' => (∃ v, e = .returned v) ∧
      ((∃ ys, ys = elsE s ∧ J ys W') ∨ (∃ pre, pre <+: elsE s ∧ Jx pre W')) := by
  refine callsIn_of_wp Tryd.func83 rfl trivial ?_ rfl
  simp only [Tryd.ntmps83, List.size_toArray, List.length_cons, List.length_nil, Nat.reduceAdd, Nat.reduceSub, Array.replicate_succ, Array.replicate_zero, List.push_toArray, List.append_toArray, List.nil_append, List.cons_append]
  gi_wp2
  gi_loopw [3] (fun p wr => ∃ (pre : List El) (r : Nat), p = .int .u16 (r : Nat) ∧ r < 65536 ∧ elsE s = pre ++ elsE r ∧ Tab wr ∧ J pre wr)
    (fun p _ => (intOf p).toNat)
  case atStart =>
    exact ⟨[], s, rfl, hs, rfl, hT, h0⟩
  case round =>
    obtain ⟨pre, r, rfl, hr, hx, ht, hJs⟩ := hrel
    by_cases hz : r = 0
    · subst hz
      gi_wp2
      go_end0
      exact ⟨⟨_, rfl⟩, .inl ⟨pre, by rw [hx, elsE_zero]; simp, hJs⟩⟩
    · have hst := elsE_step hr hz
      have HX := Lib.hid hx
      have HS := Lib.hid hst
      have hz1 : ((r : Int) == 0) = false := by rw [beq_eq_false_iff_ne]; omega
      have hz2 : ((r : Int) != 0) = true := by simp [bne, hz1]
      obtain ⟨fn, tmps, assign, body, hy, hR⟩ := hY pre ⟨tz r, (tz_spec hr hz).1⟩ wr hJs (by rw [hx, hst]; simp)
      clear hx hst
      gi_wp2_with (((try refine ⟨trivial, ?_⟩); gi_at_call 84; refine (callsIn_wide.2 (tz_walk r _ hr hz ht)).mono ?_; rintro e w' ⟨rfl, rfl⟩))
      refine hR.mono ?_
      rintro e W3 (⟨rfl, hJ3, hk3⟩ | ⟨rfl, hJx3⟩)
      · gi_wp2
        go_roundw
        case rel =>
          exact ⟨pre ++ [⟨tz r, (tz_spec hr hz).1⟩], r &&& (r - 1), by rw [and_pred_bits hr hz], and_lt hr, by rw [HX.out, HS.out]; simp, ht.below hk3 hn₀, hJ3⟩
        case measure =>
          rw [and_pred_bits hr hz]
          have := and_pred_lt hz
          simp only [intOf]
          omega
      · gi_wp2
        refine bodyPost_ret (results_none rfl _ _ _) rfl ?_
        exact ⟨⟨_, rfl⟩, .inr ⟨pre ++ [⟨tz r, (tz_spec hr hz).1⟩], ⟨elsE (r &&& (r - 1)), by rw [HX.out, HS.out]; simp⟩, hJx3⟩⟩

/-- The range function over a set: all its elements, increasing; or a part of them, if a round says so. -/
theorem elements_stops (n : Nat) (hn : 1 ≤ n) (Bs s : Nat) (hs : s < 65536) (w : World) (hT : Tab w) (hb : Boxed w Bs 110 (.int .u16 s)) :
    SeqStopsK Fence.wide n Tryd.prog 83 #[.pointer (some ⟨Bs, 0, none⟩)] (fun x : El => #[Value.int .i64 (x.1 : Nat)]) (Below 1) (fun ys => ys = elsE s) (fun pre => pre <+: elsE s) (elsE s).length w := fun l J Jx W hW _ _ hY h0 =>
  elements1_in n hn l Bs 1 (by omega) s hs J Jx hY W (hT.below hW hT.lt) ((hW.cell (p := ⟨Bs, 0, none⟩) hb.lt).trans hb.cell) h0
end Go.Proofs.YtaikhdmgcffflaaDoor
