/- A region that draws its order, in a round of a loop over a range function: walked once, in the order of the text. -/
import Derived.Test.YtaikhdmgcffflaaDoorWb
import Derived.Sort.QuietThIn
namespace Go.Proofs.YtaikhdmgcffflaaDoor
open Go Go.RowKit Go.Shelf

def noDefer (o : Oper) : Bool := match o.op with
  | .defer _ => false
  | _ => true
theorem noDefer_ne {o : Oper} (h : noDefer o = true) (c : Call) : o.op ≠ .defer c := by
  intro e
  unfold noDefer at h
  rw [e] at h
  cases h
theorem oper_round {n : Nat} {P : Program} {l : Nat} {o : Oper} {a : Act} {w : World} {K : Act → World → Prop} {Q : Exit → Act → World → Prop} (hn : noDefer o = true) (h : o.wpIn Fence.wide n P a w K Q) : o.wpIn (Fence.wide.inRound l) n P a w K Q := by
  refine ⟨h.1, ?_⟩
  have h2 := h.2
  rw [Oper.semAt_plain _ _ _ (noDefer_ne hn)] at h2 ⊢
  generalize (execOp a.eval o).run P w = r at *
  cases r with
  | ok x w' => cases x <;> exact h2
  | halt x w' => cases x <;> exact h2
theorem any_round {n : Nat} {P : Program} {l : Nat} {md : Region.Mode} {ops : Array Oper} {Q : Exit → Act → World → Prop} (hn : ∀ (i : Nat) o, ops[i]? = some o → noDefer o = true) : ∀ (fuel : Nat) (listed : Array Bool) (a : Act) (w : World),
    wpAnyIn Fence.wide n P md ops Q fuel listed a w → wpAnyIn (Fence.wide.inRound l) n P md ops Q fuel listed a w
  | 0, _, _, _, h => h
  | fuel + 1, listed, a, w, h => by
    refine ⟨h.1, fun i hi => ?_⟩
    have h2 := wpOpIn_mono (K' := wpAnyIn (Fence.wide.inRound l) n P md ops Q fuel (listed.setIfInBounds i true)) (fun a w k => any_round hn fuel _ a w k) (h.2 i hi)
    unfold wpOpIn at h2 ⊢
    split
    · rename_i ho; simpa [ho] using h2
    · rename_i o ho
      simp only [ho] at h2
      split
      · rename_i hw; simp only [hw, if_true] at h2; exact oper_round (hn i o ho) h2
      · rename_i hw; simp only [hw] at h2; exact h2

/-- One walk in the order of the text serves every order, in a round. -/
theorem round_quiet {n : Nat} {P : Program} {l : Nat} {C : World → Prop} {id : Nat} {Q : Exit → Act → World → Prop} {a : Act} {w : World} {os : List Oper} (hm : P.follows .mixedOrders = true) (hB : Region.lexB .any os.toArray = true) (hn : os.all noDefer = true) (hC : C w.drew)
    (h : wpQuietIn Fence.wide n P os.toArray C (fun a' => ∀ w', C w' → Q .normal a' w') os a) : (Code.region id os.toArray true).wpIn (Fence.wide.inRound l) n P Q a w := by
  simp only [Region.lexB, Bool.and_eq_true] at hB
  refine wpIn_region_any hm (any_round (fun i o ho => ?_) _ _ _ _ (wpAnyIn_of_quiet (Q := fun a' => ∀ w', C w' → Q .normal a' w') rfl (fun _ w' hw' h => h w' hw') _ _ _ _ hC ?_))
  · rw [List.all_eq_true] at hn
    exact hn o (by simpa using Array.mem_of_getElem? ho)
  · have := wpAnyQIn_lex (F := Fence.wide) (n := n) (C := C) (md := .any) hB.1 os 0 (Array.replicate os.toArray.size false) a (by simp) (by simpa using hB.2) h
    simpa using this
theorem q_val {n : Nat} {P : Program} {C : World → Prop} {ops : Array Oper} {Q : Act → Prop} {o : Oper} {rest : List Oper} {a : Act} (v : Value) (hw : Region.wanted o (yielded ops a.tmps) = true) (hv : ∀ w, C w → (execOp a.eval o).run P w = .ok (.value v) w)
    (hK : wpQuietIn Fence.wide n P ops C Q rest (a.put o.dst v)) : wpQuietIn Fence.wide n P ops C Q (o :: rest) a := by
  refine ⟨fun _ _ _ _ => trivial, ?_⟩
  rw [if_pos hw]
  refine ⟨v, fun w hC => ?_, hK⟩
  show Oper.quietUponIn _ _ _ _ _ _ _
  rw [hv w hC]
  exact ⟨rfl, rfl⟩
theorem q_call {n : Nat} {P : Program} {C : World → Prop} {ops : Array Oper} {Q : Act → Prop} {o : Oper} {rest : List Oper} {a : Act} (v : Value) (f : FuncId) (args : Array Value) (hw : Region.wanted o (yielded ops a.tmps) = true)
    (hr : ∀ w, C w → (execOp a.eval o).run P w = .ok (.enter f args) w) (hc : ∀ w, C w → Calls P f args w fun e w' => e = .returned v ∧ C w')
    (hK : wpQuietIn Fence.wide n P ops C Q rest (a.put o.dst v)) : wpQuietIn Fence.wide n P ops C Q (o :: rest) a := by
  refine ⟨fun _ _ _ _ => trivial, ?_⟩
  rw [if_pos hw]
  refine ⟨v, fun w hC => ?_, hK⟩
  show Oper.quietUponIn _ _ _ _ _ _ _
  rw [hr w hC]
  exact ⟨rfl, fun h => (by cases h), callsIn_wide.2 (hc w hC)⟩
end Go.Proofs.YtaikhdmgcffflaaDoor
