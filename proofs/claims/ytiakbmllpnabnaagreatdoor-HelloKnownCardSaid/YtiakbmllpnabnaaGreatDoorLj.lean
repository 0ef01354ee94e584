/- A region that draws its order, whose loads all stand ahead of its stores: a load may be taken first, if each store waits for it. 'T': the numbers of the stores; 'C': what the world meets as long as none of them has come up. The chapter's Write. The law's cut. HelloWrites. -/
import Derived.Deep.RegionHeld
import Derived.WalkKit
import Derived.Test.YtiakbmllpnabnaaGreatDoorLd
import Derived.Test.YtiakbmllpnabnaaGreatDoorKk
import Derived.Test.YtiakbmllpnabnaaGreatDoorKa
import Derived.Test.YtiakbmllpnabnaaGreatDoorLa
import Derived.Deep.CutBlock
import Derived.Test.YtiakbmllpnabnaaGreatDoorKzn
import Derived.Test.YtiakbmllpnabnaaGreatDoorLg
namespace Go.Proofs.YtiakbmllpnabnaaGreatDoor
open Go Go.RowKit

section
variable {P : Program} {ops : Array Oper} {Q : Exit → Act → World → Prop} {md : Region.Mode} {T : List Nat} {C : World → Prop}

/-- no store has come up -/
def NoneOf (T : List Nat) (listed : Array Bool) : Prop := ∀ t ∈ T, listed.getD t true = false
theorem NoneOf.back {listed : Array Bool} {i : Nat} (hi : i ∉ T) (h : NoneOf T listed) : NoneOf T (listed.setIfInBounds i true) := fun t ht => by
  rw [getD_set_ne true (fun e => hi (by rw [e]; exact ht))]
  exact h t ht
/-- in whatever order, with C as long as no store has come up -/
def wpAnyC (P : Program) (md : Region.Mode) (ops : Array Oper) (Q : Exit → Act → World → Prop) (T : List Nat) (C : World → Prop) : Nat → Array Bool → Act → World → Prop
  | 0, listed, a, w => Region.ready md ops listed = [] ∧ Q .normal a w
  | fuel + 1, listed, a, w =>
    (Region.ready md ops listed = [] → Q .normal a w) ∧
    ∀ i ∈ Region.ready md ops listed, wpOp P ops Q i (fun a' w' => (NoneOf T (listed.setIfInBounds i true) → C w') ∧ wpAnyC P md ops Q T C fuel (listed.setIfInBounds i true) a' w') a w
theorem wpAny_of_C : ∀ (fuel : Nat) (listed : Array Bool) (a : Act) (w : World), wpAnyC P md ops Q T C fuel listed a w → wpAny P md ops Q fuel listed a w
  | 0, _, _, _, h => h
  | fuel + 1, _, _, _, h => ⟨h.1, fun i hi => wpOp_mono (fun _ _ h' => wpAny_of_C fuel _ _ _ h'.2) (h.2 i hi)⟩
/-- each store waits for number i -/
def Waits (md : Region.Mode) (ops : Array Oper) (T : List Nat) (i : Nat) : Bool := T.all fun t => match ops[t]? with
  | none => false
  | some o => o.after.any fun e => Region.binds md e && e.on == i
theorem Waits.not_ready {i j : Nat} {listed : Array Bool} (h : Waits md ops T i = true) (hi : i ∈ Region.ready md ops listed) (hj : j ∈ Region.ready md ops listed) : j ∉ T := fun ht => by
  have h1 := List.all_eq_true.1 h j ht
  obtain ⟨_, o, ho, hall⟩ := mem_ready.1 hj
  rw [ho] at h1
  obtain ⟨e, he, hb⟩ := Array.any_eq_true'.1 h1
  rw [Bool.and_eq_true, beq_iff_eq] at hb
  have h2 := hall e he hb.1
  rw [hb.2] at h2
  have h0 := (mem_ready.1 hi).1
  rcases Nat.lt_or_ge i listed.size with h' | h'
  · simp [h'] at h0 h2; rw [h0] at h2; cases h2
  · simp [Array.getElem?_eq_none h'] at h0
theorem wpAnyC_first {i : Nat} {oi : Oper} {v : Value} (hi : ops[i]? = some oi) (hsel : ∀ (j : Nat) (o : Oper) cs b, ops[j]? = some o → o.op ≠ .select cs b)
    (hQ : ∀ c a w, Q (.panic c) (a.put oi.dst v) w → Q (.panic c) a w) (hW : Waits md ops T i = true) (hiT : i ∉ T) :
    ∀ (fuel : Nat) (listed : Array Bool) (a : Act) (w : World),
      (∀ j oj, ops[j]? = some oj → j ≠ i → listed.getD j true = false → (∀ e ∈ oj.after, Region.binds md e = true → e.on ≠ i) → oi.apart ops oj = true) →
      i ∈ Region.ready md ops listed → YieldsIf P ops C oi v a → C w → NoneOf T listed →
      wpAnyC P md ops Q T C fuel (listed.setIfInBounds i true) (a.put oi.dst v) w → wpAnyC P md ops Q T C (fuel + 1) listed a w := by
  intro fuel
  induction fuel with
  | zero =>
    intro listed a w _ hr hy hS _ H
    refine ⟨fun h => (by rw [h] at hr; cases hr), fun j hj => ?_⟩
    by_cases hji : j = i
    · subst hji; exact hy.wpOp hi hS ⟨fun _ => hS, H⟩
    · have := ready_mono hj hji
      rw [H.1] at this
      cases this
  | succ fuel ih =>
    intro listed a w hfree hr hy hS hN H
    refine ⟨fun h => (by rw [h] at hr; cases hr), fun j hj => ?_⟩
    by_cases hji : j = i
    · subst hji; exact hy.wpOp hi hS ⟨fun _ => hS, H⟩
    · have h1 := H.2 j (ready_mono hj hji)
      have hjT := Waits.not_ready hW hr hj
      obtain ⟨hjun, oj, hoj, hall⟩ := mem_ready.1 hj
      have hnot : ∀ e ∈ oj.after, Region.binds md e = true → e.on ≠ i := fun e he hb heq => by
        have h1 := hall e he hb
        have h0 := (mem_ready.1 hr).1
        rw [heq] at h1
        rcases Nat.lt_or_ge i listed.size with h' | h'
        · simp [h'] at h0 h1; rw [h0] at h1; cases h1
        · simp [Array.getElem?_eq_none h'] at h1
      have h2 := wpOp_putIf hoj (hfree j oj hoj hji hjun hnot) (fun cs b => hsel i oi cs b hi) (fun cs b => hsel j oj cs b hoj) hQ hy h1
      have hfree' : ∀ k ok, ops[k]? = some ok → k ≠ i → (listed.setIfInBounds j true).getD k true = false →
          (∀ e ∈ ok.after, Region.binds md e = true → e.on ≠ i) → oi.apart ops ok = true := fun k ok hk hki hun hno => by
        refine hfree k ok hk hki ?_ hno
        by_cases hjk : j = k
        · subst hjk; exact hjun
        · rw [getD_set_ne true hjk] at hun; exact hun
      have hN' : NoneOf T (listed.setIfInBounds j true) := hN.back hjT
      refine wpOp_mono (fun a' w' h3 => ?_) h2
      have hC : C w' := h3.2.1 (by rw [Array.setIfInBounds_comm _ _ (Ne.symm hji)]; exact hN'.back hiT)
      refine ⟨fun _ => hC, ih (listed.setIfInBounds j true) a' w' hfree' (ready_mono hr (Ne.symm hji)) h3.1 hC hN' ?_⟩
      rw [Array.setIfInBounds_comm _ _ hji]
      exact h3.2.2
/-- what yields in whatever world may be taken first, too, whoever waits for it -/
theorem wpAnyC_firstP {i : Nat} {oi : Oper} {v : Value} (hi : ops[i]? = some oi) (hsel : ∀ (j : Nat) (o : Oper) cs b, ops[j]? = some o → o.op ≠ .select cs b)
    (hQ : ∀ c a w, Q (.panic c) (a.put oi.dst v) w → Q (.panic c) a w) (hiT : i ∉ T) :
    ∀ (fuel : Nat) (listed : Array Bool) (a : Act) (w : World),
      (∀ j oj, ops[j]? = some oj → j ≠ i → listed.getD j true = false → (∀ e ∈ oj.after, Region.binds md e = true → e.on ≠ i) → oi.apart ops oj = true) →
      i ∈ Region.ready md ops listed → YieldsIf P ops (fun _ => True) oi v a → (NoneOf T listed → C w) →
      wpAnyC P md ops Q T C fuel (listed.setIfInBounds i true) (a.put oi.dst v) w → wpAnyC P md ops Q T C (fuel + 1) listed a w := by
  intro fuel
  induction fuel with
  | zero =>
    intro listed a w _ hr hy hS H
    refine ⟨fun h => (by rw [h] at hr; cases hr), fun j hj => ?_⟩
    by_cases hji : j = i
    · subst hji
      refine hy.wpOp hi trivial ⟨fun hN => hS fun t ht => ?_, H⟩
      have := hN t ht
      rwa [getD_set_ne true (fun e => hiT (by rw [e]; exact ht))] at this
    · have := ready_mono hj hji
      rw [H.1] at this
      cases this
  | succ fuel ih =>
    intro listed a w hfree hr hy hS H
    refine ⟨fun h => (by rw [h] at hr; cases hr), fun j hj => ?_⟩
    by_cases hji : j = i
    · subst hji
      refine hy.wpOp hi trivial ⟨fun hN => hS fun t ht => ?_, H⟩
      have := hN t ht
      rwa [getD_set_ne true (fun e => hiT (by rw [e]; exact ht))] at this
    · have h1 := H.2 j (ready_mono hj hji)
      obtain ⟨hjun, oj, hoj, hall⟩ := mem_ready.1 hj
      have hnot : ∀ e ∈ oj.after, Region.binds md e = true → e.on ≠ i := fun e he hb heq => by
        have h1 := hall e he hb
        have h0 := (mem_ready.1 hr).1
        rw [heq] at h1
        rcases Nat.lt_or_ge i listed.size with h' | h'
        · simp [h'] at h0 h1; rw [h0] at h1; cases h1
        · simp [Array.getElem?_eq_none h'] at h1
      have h2 := wpOp_putIf hoj (hfree j oj hoj hji hjun hnot) (fun cs b => hsel i oi cs b hi) (fun cs b => hsel j oj cs b hoj) hQ hy h1
      have hfree' : ∀ k ok, ops[k]? = some ok → k ≠ i → (listed.setIfInBounds j true).getD k true = false →
          (∀ e ∈ ok.after, Region.binds md e = true → e.on ≠ i) → oi.apart ops ok = true := fun k ok hk hki hun hno => by
        refine hfree k ok hk hki ?_ hno
        by_cases hjk : j = k
        · subst hjk; exact hjun
        · rw [getD_set_ne true hjk] at hun; exact hun
      refine wpOp_mono (fun a' w' h3 => ?_) h2
      have hC : NoneOf T (listed.setIfInBounds j true) → C w' := fun hN => h3.2.1 (by rw [Array.setIfInBounds_comm _ _ (Ne.symm hji)]; exact hN.back hiT)
      refine ⟨hC, ih (listed.setIfInBounds j true) a' w' hfree' (ready_mono hr (Ne.symm hji)) h3.1 hC ?_⟩
      rw [Array.setIfInBounds_comm _ _ hji]
      exact h3.2.2
/-- no store has come up, as a Bool -/
def noneB (T : List Nat) (listed : Array Bool) : Bool := T.all fun t => !listed.getD t true
theorem noneB_spec {listed : Array Bool} (h : noneB T listed = true) : NoneOf T listed := fun t ht => by
  have := List.all_eq_true.1 h t ht
  simpa using this
/-- a load that each store waits for -/
theorem wpAnyC_load {i : Nat} {oi : Oper} {v : Value} {fuel : Nat} {listed : Array Bool} {a : Act} {w : World} (hi : ops[i]? = some oi)
    (hs : Region.noSelect ops = true) (hf : Region.free md ops listed i = true) (hr : (Region.ready md ops listed).contains i = true) (hW : (Waits md ops T i && !T.contains i && noneB T listed) = true)
    (hQ : ∀ c a w, Q (.panic c) (a.put oi.dst v) w → Q (.panic c) a w) (hy : YieldsIf P ops C oi v a) (hS : C w)
    (h : wpAnyC P md ops Q T C fuel (listed.setIfInBounds i true) (a.put oi.dst v) w) : wpAnyC P md ops Q T C (fuel + 1) listed a w := by
  rw [Bool.and_eq_true, Bool.and_eq_true] at hW
  exact wpAnyC_first hi (Region.noSelect_spec hs) hQ hW.1.1 (by simpa using hW.1.2) fuel listed a w (Region.free_spec hi hf) (by simpa using hr) hy hS (noneB_spec hW.2) h
/-- a copy, an address, arithmetic -/
theorem wpAnyC_pure {i : Nat} {oi : Oper} {v : Value} {fuel : Nat} {listed : Array Bool} {a : Act} {w : World} (hi : ops[i]? = some oi)
    (hs : Region.noSelect ops = true) (hf : Region.free md ops listed i = true) (hr : (Region.ready md ops listed).contains i = true) (hT : T.contains i = false)
    (hQ : ∀ c a w, Q (.panic c) (a.put oi.dst v) w → Q (.panic c) a w) (hy : YieldsIf P ops (fun _ => True) oi v a) (hS : NoneOf T listed → C w)
    (h : wpAnyC P md ops Q T C fuel (listed.setIfInBounds i true) (a.put oi.dst v) w) : wpAnyC P md ops Q T C (fuel + 1) listed a w :=
  wpAnyC_firstP hi (Region.noSelect_spec hs) hQ (by simpa using hT) fuel listed a w (Region.free_spec hi hf) (by simpa using hr) hy hS h
/-- a store comes up, alone -/
theorem wpAnyC_store {i : Nat} {o : Oper} {fuel : Nat} {listed : Array Bool} {a : Act} {w : World} (hr : Region.ready md ops listed = [i]) (ho : ops[i]? = some o) (hT : (T.contains i && decide (i < listed.size)) = true)
    (h : ∀ K' : Act → World → Prop, Shut (∀ a w, wpAnyC P md ops Q T C fuel (listed.setIfInBounds i true) a w → K' a w) → if Region.wanted o (yielded ops a.tmps) = true then Oper.wp P o a w K' Q else K' (a.put o.dst undef) w) :
    wpAnyC P md ops Q T C (fuel + 1) listed a w := by
  rw [Bool.and_eq_true, decide_eq_true_iff] at hT
  refine ⟨fun h0 => absurd (hr ▸ h0) (by simp), fun j hj => ?_⟩
  rw [hr, List.mem_singleton] at hj
  subst hj
  refine wpOp_step ho fun K' hK => h K' fun a w hW => hK a w ⟨fun hN => ?_, hW⟩
  have := hN j (by simpa using hT.1)
  simp [hT.2] at this
theorem wpAnyC_done {listed : Array Bool} {a : Act} {w : World} (hr : Region.ready md ops listed = []) (h : Q .normal a w) : ∀ fuel, wpAnyC P md ops Q T C fuel listed a w
  | 0 => ⟨hr, h⟩
  | _ + 1 => ⟨fun _ => h, by rw [hr]; simp⟩
theorem wp_region_C (T : List Nat) (C : World → Prop) {id : Nat} {a : Act} {w : World} (hm : P.follows .mixedOrders = true) (h : wpAnyC P .any ops Q T C ops.size (Array.replicate ops.size false) a w.drew) : (Code.region id ops true).wp P Q a w :=
  wp_region_any hm (wpAny_of_C _ _ _ _ h)
end
end Go.Proofs.YtiakbmllpnabnaaGreatDoor
namespace Go.Proofs.YtiakbmllpnabnaaGreatDoor
open Go Go.RowKit

/-- a greeting whose parts are short -/
structure SmG (g : Grt) : Prop where
  s : g.ses.length ≤ 1000
  u : g.suites.length ≤ 1000
  m : g.meth.length ≤ 1000
  h : g.host.length ≤ 1000
  x : g.exts.length ≤ 1000
  d : ∀ y ∈ g.exts, y.2.length ≤ 500
theorem encX_sm : ∀ (l : List (Int × List UInt8)), (∀ x ∈ l, x.2.length ≤ 500) → (encX l).length ≤ 504 * l.length
  | [], _ => by simp [encX]
  | x :: l, h => by
    have h1 := encX_sm l fun y hy => h y (List.mem_cons_of_mem _ hy)
    have h2 := h x (List.mem_cons_self ..)
    rw [encX_cons, List.length_append, encE_len, List.length_cons]
    omega
def allP (g : Grt) (i : Nat) : List UInt8 := if i ≤ g.pos.toNat then encX (g.exts.take i) else encX (g.exts.take g.pos.toNat) ++ encE 0 (encN g.host) ++ encX ((g.exts.take i).drop g.pos.toNat)
def allM (g : Grt) (i : Nat) : List UInt8 := if i = g.pos.toNat then allP g i ++ encE 0 (encN g.host) else allP g i
theorem allP_zero (g : Grt) : allP g 0 = [] := by unfold allP; rw [if_pos (Nat.zero_le _)]; rfl
theorem allM_eq {g : Grt} {i : Nat} (h : i = g.pos.toNat) : allM g i = allP g i ++ encE 0 (encN g.host) := if_pos h
theorem allM_ne {g : Grt} {i : Nat} (h : ¬ i = g.pos.toNat) : allM g i = allP g i := if_neg h
theorem encX_one (x : Int × List UInt8) : encX [x] = encE x.1.toNat x.2 := by rw [encX_cons, encX_nil, List.append_nil]
theorem allM_step {g : Grt} {i : Nat} (h : i < g.exts.length) : allP g (i + 1) = allM g i ++ encE (g.exts[i]).1.toNat (g.exts[i]).2 := by
  have ht : g.exts.take (i + 1) = g.exts.take i ++ [g.exts[i]] := List.take_succ_eq_append_getElem h
  unfold allM allP
  by_cases h1 : i + 1 ≤ g.pos.toNat
  · rw [if_pos h1, if_neg (by omega), if_pos (by omega), ht, encX_app, encX_one]
  · rw [if_neg h1, ht]
    by_cases h2 : i = g.pos.toNat
    · rw [if_pos h2, if_pos (by omega), ← h2, List.drop_append_of_le_length (by rw [List.length_take]; omega), List.drop_of_length_le (by rw [List.length_take]; omega), List.nil_append, encX_one]
    · rw [if_neg h2, if_neg (by omega), List.drop_append_of_le_length (by rw [List.length_take]; omega), encX_app, encX_one]
      simp only [List.append_assoc]
theorem allM_last {g : Grt} (h : g.pos.toNat ≤ g.exts.length) : allP g (g.exts.length + 1) = allM g g.exts.length := by
  unfold allM allP
  rw [if_neg (by omega), List.take_of_length_le (Nat.le_succ _)]
  by_cases h2 : g.exts.length = g.pos.toNat
  · rw [if_pos h2, if_pos (by omega), ← h2, List.drop_of_length_le (Nat.le_refl _), encX_nil, List.append_nil, List.take_length]
  · rw [if_neg h2, if_neg (by omega), List.take_length]
theorem allP_end {g : Grt} (h : g.pos.toNat ≤ g.exts.length) : allP g (g.exts.length + 1) = allX g := by
  unfold allP allX
  rw [if_neg (by omega), List.take_of_length_le (Nat.le_succ _)]
theorem allP_len {g : Grt} (h : SmG g) (i : Nat) : (allP g i).length ≤ 510000 := by
  have h0 : ∀ k, (encX (g.exts.take k)).length ≤ 504000 := fun k => by
    have := encX_sm (g.exts.take k) fun x hx => h.d x (List.mem_of_mem_take hx)
    have h2 : (g.exts.take k).length ≤ 1000 := by rw [List.length_take]; have := h.x; omega
    omega
  have hh := h.h
  unfold allP
  split
  · have := h0 i; omega
  · rw [List.length_append, List.length_append, encE_len, encN_len]
    by_cases hp : g.pos.toNat ≤ (g.exts.take i).length
    · have e : encX (g.exts.take i) = encX ((g.exts.take i).take g.pos.toNat) ++ encX ((g.exts.take i).drop g.pos.toNat) := by rw [← encX_app, List.take_append_drop]
      have e2 : (g.exts.take i).take g.pos.toNat = g.exts.take g.pos.toNat := by rw [List.take_take]; congr 1; rw [List.length_take] at hp; omega
      rw [e2] at e
      have := congrArg List.length e
      rw [List.length_append] at this
      have := h0 i
      omega
    · have e : (g.exts.take i).drop g.pos.toNat = [] := List.drop_of_length_le (by omega)
      rw [e, encX_nil]
      have := h0 g.pos.toNat
      simp only [List.length_nil]
      omega
theorem allM_len {g : Grt} (h : SmG g) (i : Nat) : (allM g i).length ≤ 520000 := by
  have h1 := allP_len h i
  have hh := h.h
  unfold allM
  split
  · rw [List.length_append, encE_len, encN_len]; omega
  · omega
theorem encS_step {l : List Int} {i : Nat} (h : i < l.length) : encS (l.take (i + 1)) = encS (l.take i) ++ rowB (l[i]).toNat 2 := by
  unfold encS
  rw [List.take_succ_eq_append_getElem h, List.flatMap_append]
  simp
theorem encS_tlen (l : List Int) (i : Nat) (h : i ≤ l.length) : (encS (l.take i)).length = 2 * i := by rw [encS_len, List.length_take]; omega
theorem suites_at {l : List Int} (h : suitesOk l = true) (i : Nat) (hi : i < l.length) : 0 ≤ l[i] ∧ l[i] ≤ 65535 := by
  have := List.all_eq_true.1 h l[i] (List.getElem_mem hi)
  rw [Bool.and_eq_true, decide_eq_true_iff, decide_eq_true_iff] at this
  exact this
/-- the bytes of the random, where they stand -/
theorem rnd_rbx {w : World} {q : Nat} {g : Grt} {a : Adr} (h : w.heap[q]? = some (.cells (grtA g a) 28 (0, 0))) (hr : g.rnd.length = 32) : Rb (q + 1) w (some ⟨q, 1, none⟩) 32 g.rnd := by
  refine ⟨by omega, (fun e => by cases e), fun i hi => ⟨q, 1, rfl, Nat.lt_succ_self _, ?_⟩⟩
  have h1 := (row_cell h (1 + i)).1
  have h2 := gCells_grt g a hr
  have h3 := gCells_rcell g.minor g.rnd (.slice a.a1 g.ses.length a.c1) (.slice a.a2 g.suites.length a.c2) (.slice a.a3 g.meth.length a.c3) (.string ⟨g.host.toArray⟩) (.int .i64 g.pos) (.slice a.a4 g.exts.length a.c4) i hi
  rw [h1, ← Array.getElem?_toList, ← h2, h3]
theorem step_pushG7 {ops : Array Oper} {o : Oper} {a : Act} {K : Act → World → Prop} {Q : Exit → Act → World → Prop} {E : Prop} (hgd : o.guard = none) (s x : Operand) (tx : TypeId)
    (ho : o.op = .call { callee := .builtin .append, args := #[s, x], argTypes := #[22, tx] }) (w : World) (base : Nat) (A : Option Addr) (c n m : Nat) (l z : List UInt8) (xv : Value) (hn : l.length = n) (hm : z.length = m)
    (hs : a.eval s = .slice A n c) (hx : a.eval x = xv) (h : RowG w base A c l) (hsrc : Src Tryz.prog 1 tx xv z.length (Lib.byteCells z) w) (hbase : base ≤ w.heap.size) (hlen : n + m ≤ 140737488355328)
    (hk : ∀ (A' : Option Addr) (c' : Nat) w', RowG w' base A' c' (l ++ z) → Below base w w' → K (a.put o.dst (.slice A' (n + m) c')) w') :
    if Region.wanted o (yielded ops a.tmps) = true then Oper.wp Tryz.prog o a w K Q else E := by
  have hw : Region.wanted o (yielded ops a.tmps) = true := by simp [Region.wanted, hgd]
  rw [if_pos hw]
  subst hn hm
  obtain ⟨A', c', w', hr, h2, h3, _, _⟩ := run_pushG w base o.type tx A c l z xv h hsrc hbase hlen
  unfold Oper.wp execOp
  simp only [ho, resolve, invoke, builtin, Sem.run_bind, Sem.run_pure, Result.andThen_ok, List.map_toArray, List.map_cons, List.map_nil, hs, hx, hr]
  exact hk A' c' w' h2 h3
theorem src_len {D : Nat} {w : World} {A : Option Addr} {c n : Nat} {z : List UInt8} (hz : Rb D w A c z) (hn : z.length = n) : Src Tryz.prog 1 22 (.slice A n c) z.length (Lib.byteCells z) w := by
  have := src_rb hz
  rw [hn] at this ⊢
  exact this
theorem madeN {l : List UInt8} {n : Nat} {w w' : World} {e : Ending} (hn : l.length = n) (h : MadeP l w e w') : ∃ (A : Option Addr) (c : Nat), e = .returned (.slice A n c) ∧ RowG w' w.heap.size A c l ∧ Below w.heap.size w w' := by
  subst hn
  exact h
theorem fillB_len (l : List UInt8) (k : Nat) : (fillB l k).length = k + l.length := by unfold fillB; rw [List.length_append, rowB_len]
set_option maxRecDepth 100000 in
set_option maxHeartbeats 2000000 in
theorem write_ref7 {w : World} {g : Grt} {a : Adr} (h : GrV w.heap.size w g a) (hs : SmG g) : Calls Tryz.prog 20 #[.agg (grtA g a)] w (WrP g w) := by
  have hB0 := below_new w (.cells (grtA g a) 28)
  have hW0 : (w.alloc (.cells (grtA g a) 28)).heap.size = w.heap.size + 1 := by simp
  have HGI := Lib.hid (infoGA g a)
  have HGB : Hid (∀ wx, Below (w.heap.size + 1) (w.alloc (.cells (grtA g a) 28)) wx → wx.heap[w.heap.size]? = some (.cells (grtA g a) 28 (0, 0))) := Lib.hid fun wx hb => (hb.block w.heap.size (Nat.lt_succ_self _)).trans (heap_alloc_new w _)
  have HV : Hid (∀ wx, Below w.heap.size w wx → GrV wx.heap.size wx g a) := Lib.hid fun wx hb => h.below hb
  have CM := Lib.hid (may_ref7 (HV.out _ hB0))
  have G0 := Lib.hid (HGB.out _ (Below.refl _ _))
  have HB0 := Lib.hid hB0
  have HW := Lib.hid hW0
  have HS := Lib.hid hs
  have HRL := Lib.hid h.rl
  unfold BoolP at CM
  cases hm : mayG g with
  | false =>
    have HN : Hid (okG g = false) := Lib.hid (by unfold okG; rw [hm]; rfl)
    rw [hm] at CM
    clear h hs hB0 hW0 hm
    obtain ⟨mi, rnd, ses, su, me, ho, pos, ex⟩ := g
    obtain ⟨a1, k1, a2, k2, a3, k3, a4, k4⟩ := a
    go_enter Tryz.func20, Tryz.ntmps20
    go_wp2_with (first
      | (refine wpList_load_row rfl 28 (.tmp 1) rfl w.heap.size rfl 28 _ (0, 0) _ G0.out Tryz.underlying28 rfl HGI.out ?_)
      | (go_at_call 36; refine CM.out.mono ?_; rintro e w1 ⟨rfl, hb⟩; have HB := Lib.hid (Below.and HB0.out hb); clear hb))
    go_ret2
    exact ⟨(fun e => by rw [HN.out] at e; cases e), fun _ => ⟨rfl, HB.out⟩⟩
  | true =>
    have HOK : Hid (okG g = decide ((msgG g).length ≤ 16384)) := Lib.hid (by unfold okG; rw [hm]; rfl)
    obtain ⟨hmi, _, _, _, hH, hX, hSU⟩ := mayG_iff hm
    have HMI := Lib.hid hmi
    have HSU : Hid (∀ k (hk : k < g.suites.length), 0 ≤ g.suites[k] ∧ g.suites[k] ≤ 65535) := Lib.hid fun k hk => suites_at hSU k hk
    unfold extsOk at hX
    rw [Bool.and_eq_true, Bool.and_eq_true, decide_eq_true_iff, decide_eq_true_iff] at hX
    obtain ⟨⟨x0, x1⟩, hT⟩ := hX
    have HPX : Hid (0 ≤ g.pos ∧ g.pos ≤ g.exts.length) := Lib.hid ⟨x0, x1⟩
    have HTX : Hid (∀ k (hk : k < g.exts.length), 1 ≤ (g.exts[k]).1 ∧ (g.exts[k]).1 ≤ 65535) := Lib.hid fun k hk => by
      obtain ⟨t1, t2, _⟩ := typesOk_all hT _ (List.getElem_mem hk)
      exact ⟨t1, t2⟩
    have HBX : Hid (∀ wx, Below (w.heap.size + 1) (w.alloc (.cells (grtA g a) 28)) wx → BxG wx w.heap.size g a ∧ GrV wx.heap.size wx g a ∧ Rb wx.heap.size wx (some ⟨w.heap.size, 1, none⟩) 32 g.rnd ∧ Below w.heap.size w wx) := Lib.hid fun wx hb => by
      have hb' : Below w.heap.size w wx := HB0.out.trans (hb.mono (Nat.le_succ _))
      have hg := HGB.out wx hb
      exact ⟨bx_of hg HRL.out, HV.out wx hb', (rnd_rbx hg HRL.out).mono (by have := hb.size; omega), hb'⟩
    rw [hm] at CM
    have hul := hs.u
    have hxl := hs.x
    clear h hs hB0 hW0 hm hmi hH hSU x0 x1 hT HV HGB
    obtain ⟨mi, rnd, ses, su, me, ho, pos, ex⟩ := g
    obtain ⟨a1, k1, a2, k2, a3, k3, a4, k4⟩ := a
    go_enter Tryz.func20, Tryz.ntmps20
    go_wp2_with (first
      | (refine wpList_load_row rfl 28 (.tmp 1) rfl w.heap.size rfl 28 _ (0, 0) _ G0.out Tryz.underlying28 rfl HGI.out ?_)
      | (go_at_call 36; refine CM.out.mono ?_; rintro e w1 ⟨rfl, hb⟩; have HB1 := Lib.hid (hb.mono (Nat.le_of_eq HW.out.symm)); clear hb))
    have HQ1 : Hid (∀ wx, Below w1.heap.size w1 wx → Below (w.heap.size + 1) (w.alloc (.cells (grtA ⟨mi, rnd, ses, su, me, ho, pos, ex⟩ ⟨a1, k1, a2, k2, a3, k3, a4, k4⟩) 28)) wx) := Lib.hid fun wx hb => HB1.out.trans (hb.mono (by have := HB1.out.size; have := HW.out; omega))
    have HBY : Hid (∀ wx, Below w1.heap.size w1 wx → BxG wx w.heap.size ⟨mi, rnd, ses, su, me, ho, pos, ex⟩ ⟨a1, k1, a2, k2, a3, k3, a4, k4⟩ ∧ GrV wx.heap.size wx ⟨mi, rnd, ses, su, me, ho, pos, ex⟩ ⟨a1, k1, a2, k2, a3, k3, a4, k4⟩ ∧ Rb wx.heap.size wx (some ⟨w.heap.size, 1, none⟩) 32 rnd ∧ Below w.heap.size w wx) := Lib.hid fun wx hb => HBX.out wx (HQ1.out wx hb)
    clear HBX HQ1 HB1 CM G0 HGI HB0 HW
    go_loopw [4, 6] (fun v i wr => ∃ (k : Nat) (A : Option Addr) (c : Nat), k ≤ su.length ∧ i = .int .i64 k ∧ v = .slice A (2 * k) c ∧ Hid (RowG wr w1.heap.size A c (encS (su.take k)) ∧ Below w1.heap.size w1 wr)) (fun _ i _ => su.length - (intOf i).toNat)
    case atStart => exact ⟨0, none, 0, Nat.zero_le _, rfl, rfl, Lib.hid ⟨RowG.nil _ _, Below.refl _ _⟩⟩
    case round =>
      obtain ⟨k, A, c, hk, rfl, rfl, hst⟩ := hrel
      obtain ⟨hbx, hgr, _, _⟩ := HBY.out wr hst.out.2
      have p34 := hbx.c34
      dsimp only at p34
      by_cases hlt : k < su.length
      · obtain ⟨b, off, ea, hbl, hc⟩ := hgr.sui k hlt
        dsimp only at ea
        subst ea
        obtain ⟨z0, z1⟩ := HSU.out k hlt
        have HES := Lib.hid (encS_step hlt)
        have HEL := Lib.hid (encS_tlen su k hk)
        dsimp only at hc
        generalize su[k] = z at *
        obtain ⟨x, rfl⟩ : ∃ x : Nat, z = (x : Int) := ⟨z.toNat, by omega⟩
        have CR : Hid (Calls Tryz.prog 42 #[.int .i64 x, .int .i64 (2 : Nat)] wr fun e w' => ∃ (A : Option Addr) (c : Nat), e = .returned (.slice A 2 c) ∧ RowG w' wr.heap.size A c (rowB x 2) ∧ Below wr.heap.size wr w') := Lib.hid ((row_ref7 x 2 wr (by decide)).mono fun e w' hh => madeN (rowB_len x 2) hh)
        rw [Int.toNat_natCast] at HES
        have q0 : (0 : Int) ≤ k := by omega
        have q1 : (k : Int) < su.length := by omega
        have HST := Lib.hid hst.out
        clear hbx hgr hst z0 z1
        go_wp2_with (first
          | (go_at_call 42; refine CR.out.mono ?_; rintro e w2 ⟨A2, c2, rfl, hr2, hb2⟩; have R2 := Lib.hid hr2; have R1 := Lib.hid (HST.out.1.below hb2); have B2 := Lib.hid (HST.out.2.trans (hb2.mono HST.out.2.size)); clear hr2 hb2)
          | (at_builtin; refine wpList_pushG rfl (.tmp 20) (.tmp 26) 22 rfl w2 w1.heap.size A c (2 * k) 2 (encS (su.take k)) (rowB x 2) (.slice A2 2 c2) HEL.out (rowB_len x 2) rfl rfl R1.out (src_len R2.out.rb (rowB_len x 2)) B2.out.size (by omega) ?_; intro A3 c3 w3 hr3 hb3 _; have HE := Lib.hid (And.intro hr3 (B2.out.trans hb3)); clear hr3 hb3))
        go_roundw
        case rel => exact ⟨k + 1, A3, c3, by omega, by go_num, rfl, by rw [HES.out]; exact HE⟩
        case measure => simp [intOf]; omega
      · obtain rfl : k = su.length := by omega
        have q1 : ¬ (su.length : Int) < su.length := by omega
        have R1 : Hid (RowG wr w1.heap.size A c (encS su)) := Lib.hid (by have := hst.out.1; rwa [List.take_length] at this)
        have B1 := Lib.hid hst.out.2
        have p36 := hbx.c36
        have hho : ho.length ≤ 1000 := HS.out.h
        have hb0 := below_new wr (.cells #[.int .u8 0] 5)
        have r36 := (HBY.out _ (B1.out.trans (hb0.mono B1.out.size))).1.c36
        dsimp only at p36 r36
        have R0 := Lib.hid (rowG_one wr wr.heap.size 0 0 rfl (Nat.le_refl _))
        have hz0 : (wr.alloc (.cells #[.int .u8 0] 5)).heap.size = wr.heap.size + 1 := by simp
        have hr1 := conv_rowG (wr.alloc (.cells #[.int .u8 0] 5)) ho (by omega)
        have hb1 := bytesWorld_below (wr.alloc (.cells #[.int .u8 0] 5)) ⟨ho.toArray⟩
        have hcv := bytes_conv (wr.alloc (.cells #[.int .u8 0] 5)) ⟨ho.toArray⟩
        rw [mk_size ho] at hcv
        have R2 := Lib.hid (R0.out.below hb1)
        have B2 := Lib.hid ((B1.out.trans (hb0.mono B1.out.size)).trans (hb1.mono (Nat.le_trans B1.out.size hb0.size)))
        have BZ := Lib.hid (Below.and hb0 hb1)
        generalize grownCap (wr.alloc (.cells #[.int .u8 0] 5)) ho.length 0 5 = gc at *
        generalize hw2 : Lib.bytesWorld (wr.alloc (.cells #[.int .u8 0] 5)) 5 ⟨ho.toArray⟩ = w2 at *
        rw [hz0] at hcv hr1
        have CF1 : Hid (Calls Tryz.prog 43 #[.slice (some ⟨wr.heap.size + 1, 0, none⟩) ho.length gc, .int .i64 (2 : Nat)] w2 fun e w' => ∃ (A : Option Addr) (c : Nat), e = .returned (.slice A (2 + ho.length) c) ∧ RowG w' w2.heap.size A c (fillB ho 2) ∧ Below w2.heap.size w2 w') := Lib.hid ((filled_ref7 hr1.rb rfl (by omega) 2 (by decide)).mono fun e w' hh => madeN (fillB_len ho 2) hh)
        have CF2 : Hid (∀ (w4 : World) (A4 : Option Addr) (c4 : Nat), RowG w4 wr.heap.size A4 c4 ([0] ++ fillB ho 2) → Calls Tryz.prog 43 #[.slice A4 (1 + (2 + ho.length)) c4, .int .i64 (2 : Nat)] w4 fun e w' => ∃ (A : Option Addr) (c : Nat), e = .returned (.slice A (ho.length + 5) c) ∧ RowG w' w4.heap.size A c (encN ho) ∧ Below w4.heap.size w4 w') := Lib.hid fun w4 A4 c4 hr => (filled_ref7 (z := [0] ++ fillB ho 2) hr.rb (by rw [List.length_append, fillB_len]; rfl) (by rw [List.length_append, fillB_len, List.length_singleton]; omega) 2 (by decide)).mono fun e w' hh => madeN (encN_len ho) hh
        have HFL := Lib.hid (fillB_len ho 2)
        clear hst hbx hgr hlt hk hb0 hb1 hr1 hz0 R0 hw2
        go_wp2_with (first
          | (go_at_call 43; refine CF1.out.mono ?_; rintro e w3 ⟨A3, c3, rfl, hr3, hb3⟩; have R3 := Lib.hid hr3; have R2b := Lib.hid (R2.out.below hb3); have B3 := Lib.hid (B2.out.trans (hb3.mono B2.out.size)); have BZ3 := Lib.hid (BZ.out.trans (hb3.mono BZ.out.size)); clear hr3 hb3 CF1)
          | (at_builtin; refine wpList_pushG rfl (.tmp 28) (.tmp 32) 22 rfl w3 wr.heap.size (some ⟨wr.heap.size, 0, none⟩) 1 1 (2 + ho.length) [0] (fillB ho 2) (.slice A3 (2 + ho.length) c3) rfl HFL.out rfl rfl R2b.out (src_len R3.out.rb HFL.out) BZ3.out.size (by omega) ?_; intro A4 c4 w4 hr4 hb4 _; have R4 := Lib.hid hr4; have BZ4 := Lib.hid (BZ3.out.trans hb4); clear hr4 hb4 R3 R2b BZ3)
          | (go_at_call 43; refine (CF2.out _ _ _ R4.out).mono ?_; rintro e w5 ⟨A5, c5, rfl, hr5, hb5⟩; have R5 := Lib.hid hr5; have BZ5 := Lib.hid (BZ4.out.trans (hb5.mono BZ4.out.size)); clear hr5 hb5 CF2))
        have B5 := Lib.hid (B1.out.trans (BZ5.out.mono B1.out.size))
        have S5 := Lib.hid (R1.out.below BZ5.out)
        have N5 := Lib.hid (R5.out.up (base' := w1.heap.size) (by have := BZ4.out.size; have := B1.out.size; omega))
        clear p36 r36 hcv R1 B1 R2 B2 BZ B3 R4 BZ4 R5 BZ5 q1
        have hm1 : (0 : Nat) ≤ ex.length + 1 := Nat.zero_le _
        go_loopg [5, 8] (ex.length + 1) (fun f v i wy => ∃ (k : Nat) (Ay : Option Addr) (cy : Nat), k + f = ex.length + 1 ∧ i = .int .i64 k ∧ v = .slice Ay (allP ⟨mi, rnd, ses, su, me, ho, pos, ex⟩ k).length cy ∧ Hid (RowG wy w5.heap.size Ay cy (allP ⟨mi, rnd, ses, su, me, ho, pos, ex⟩ k) ∧ Below w5.heap.size w5 wy))
        case atStart => exact ⟨0, none, 0, by omega, rfl, by rw [allP_zero]; rfl, Lib.hid ⟨by rw [allP_zero]; exact RowG.nil _ _, Below.refl _ _⟩⟩
        case round =>
          obtain ⟨k, Ay, cy, hk, rfl, rfl, hst⟩ := hrel
          have HSW := Lib.hid hst.out
          have BW := Lib.hid (B5.out.trans (hst.out.2.mono B5.out.size))
          obtain ⟨hbx, hgr, _, _⟩ := HBY.out wr BW.out
          have p38 := hbx.c38
          have p37 := hbx.c37
          dsimp only at p38 p37
          have HNW := Lib.hid ((N5.out.below hst.out.2).rb)
          have q0 : (0 : Int) ≤ k := by omega
          by_cases hle : k ≤ ex.length
          · have q1 : (k : Int) ≤ ex.length := by omega
            have hkg : k ≤ 1000 := by omega
            clear hst hbx hgr
            go_upto_if 45 with fail
            go_cut [5] from 45 to 49 (fun v wx => ∃ (A6 : Option Addr) (c6 : Nat), v = .slice A6 (allM ⟨mi, rnd, ses, su, me, ho, pos, ex⟩ k).length c6 ∧ Hid (RowG wx w5.heap.size A6 c6 (allM ⟨mi, rnd, ses, su, me, ho, pos, ex⟩ k) ∧ Below w5.heap.size w5 wx))
            case first =>
              by_cases hp : (k : Int) = pos
              · have hq : ((k : Int) == pos) = true := by rw [hp]; simp
                have HAM : Hid (allM ⟨mi, rnd, ses, su, me, ho, pos, ex⟩ k = allP ⟨mi, rnd, ses, su, me, ho, pos, ex⟩ k ++ encE 0 (encN ho)) := Lib.hid (allM_eq (by show k = pos.toNat; omega))
                have CE : Hid (Calls Tryz.prog 44 #[.int .i64 (0 : Nat), .slice A5 (ho.length + 5) c5] wr fun e w' => ∃ (A : Option Addr) (c : Nat), e = .returned (.slice A (ho.length + 9) c) ∧ RowG w' wr.heap.size A c (encE 0 (encN ho)) ∧ Below wr.heap.size wr w') := Lib.hid ((extension_ref7 HNW.out (encN_len ho).symm (by rw [encN_len]; omega) 0).mono fun e w' hh => madeN (by rw [encE_len, encN_len]) hh)
                have hEL : (encE 0 (encN ho)).length = ho.length + 9 := by rw [encE_len, encN_len]
                have HEL := Lib.hid hEL
                have hpl := allP_len HS.out k
                have HAL : Hid ((allM ⟨mi, rnd, ses, su, me, ho, pos, ex⟩ k).length = (allP ⟨mi, rnd, ses, su, me, ho, pos, ex⟩ k).length + (ho.length + 9)) := Lib.hid (by rw [HAM.out, List.length_append, hEL])
                clear hEL hp
                generalize allM ⟨mi, rnd, ses, su, me, ho, pos, ex⟩ k = AM at *
                generalize allP ⟨mi, rnd, ses, su, me, ho, pos, ex⟩ k = AP at *
                generalize encE 0 (encN ho) = EE at *
                go_wp2_with (first
                  | (go_at_call 44; refine CE.out.mono ?_; rintro e w6 ⟨A6, c6, rfl, hr6, hb6⟩; have R6 := Lib.hid hr6; have R7 := Lib.hid (HSW.out.1.below hb6); have B6 := Lib.hid (HSW.out.2.trans (hb6.mono HSW.out.2.size)); clear hr6 hb6)
                  | (at_builtin; refine wpList_pushG rfl (.tmp 46) (.tmp 48) 22 rfl w6 w5.heap.size Ay cy AP.length (ho.length + 9) AP EE (.slice A6 (ho.length + 9) c6) rfl HEL.out rfl rfl R7.out (src_len R6.out.rb HEL.out) B6.out.size (by omega) ?_; intro A7 c7 w7 hr7 hb7 _; have HE := Lib.hid (And.intro hr7 (B6.out.trans hb7)); clear hr7 hb7))
                go_meet
                case rel => exact ⟨A7, c7, by rw [HAL.out], by rw [HAM.out]; exact HE⟩
              · have hq : ((k : Int) == pos) = false := by rw [beq_eq_false_iff_ne]; exact hp
                have hpx := HPX.out
                have HAM : Hid (allM ⟨mi, rnd, ses, su, me, ho, pos, ex⟩ k = allP ⟨mi, rnd, ses, su, me, ho, pos, ex⟩ k) := Lib.hid (allM_ne (by show ¬ k = pos.toNat; omega))
                go_wp2_with fail
                go_meet
                case rel => exact ⟨Ay, cy, by rw [HAM.out], by rw [HAM.out]; exact HSW⟩
            case rest =>
              obtain ⟨A6, c6, rfl, hst⟩ := hcut
              clear HSW BW p37 p38 HNW
              have HSW := Lib.hid hst.out
              have BW := Lib.hid (B5.out.trans (hst.out.2.mono B5.out.size))
              by_cases hlt : k < ex.length
              · have q2 : (k : Int) < ex.length := by omega
                obtain ⟨b, off, Ad, cd, ea, hbl, e0, e1, hd⟩ := (HBY.out w5 B5.out).2.1.ext k hlt
                dsimp only at ea
                subst ea
                obtain ⟨t1, t2⟩ := HTX.out k hlt
                have hdl : ex[k].2.length ≤ 500 := HS.out.d _ (List.getElem_mem hlt)
                have hst1 : allP ⟨mi, rnd, ses, su, me, ho, pos, ex⟩ (k + 1) = allM ⟨mi, rnd, ses, su, me, ho, pos, ex⟩ k ++ encE (ex[k]).1.toNat (ex[k]).2 := allM_step hlt
                have hal := allM_len HS.out k
                dsimp only at e0 e1 hd
                generalize ex[k].1 = z at *
                generalize hdd : ex[k].2 = d at *
                clear hdd
                obtain ⟨x, rfl⟩ : ∃ x : Nat, z = (x : Int) := ⟨z.toNat, by omega⟩
                rw [Int.toNat_natCast] at hst1
                have HSP : Hid (∀ wx, Below w5.heap.size w5 wx → wx.cell? ⟨w.heap.size, 38, none⟩ = some (.slice (some ⟨b, off, none⟩) ex.length k4) ∧ wx.cell? ⟨b, off + k * 2, none⟩ = some (.int .i64 x) ∧ wx.cell? ⟨b, off + k * 2 + 1, none⟩ = some (.slice Ad d.length cd)) := Lib.hid fun wx hb => ⟨(HBY.out wx (B5.out.trans (hb.mono B5.out.size))).1.c38, (hb.cell (p := ⟨b, off + k * 2, none⟩) hbl).trans e0, (hb.cell (p := ⟨b, off + k * 2 + 1, none⟩) hbl).trans e1⟩
                have HRD : Hid (∀ wx, Below w5.heap.size w5 wx → Rb wx.heap.size wx Ad cd d) := Lib.hid fun wx hb => (hd.keep fun k hk => hb.block k hk).mono hb.size
                have hbd : Below w5.heap.size w5 wc.drew := below_drewN HSW.out.2 1
                have CE : Hid (Calls Tryz.prog 44 #[.int .i64 x, .slice Ad d.length cd] wc.drew fun e w' => ∃ (A : Option Addr) (c : Nat), e = .returned (.slice A (d.length + 4) c) ∧ RowG w' wc.drew.heap.size A c (encE x d) ∧ Below wc.drew.heap.size wc.drew w') := Lib.hid ((extension_ref7 (HRD.out _ hbd) rfl (by omega) x).mono fun e w' hh => madeN (encE_len x d) hh)
                have HD0 := Lib.hid (HSP.out _ hbd)
                have p38 := (HSP.out _ HSW.out.2).1
                have HBD := Lib.hid hbd
                have HRW : Hid (RowG wc.drew w5.heap.size A6 c6 (allM ⟨mi, rnd, ses, su, me, ho, pos, ex⟩ k)) := Lib.hid (HSW.out.1.below (below_drewN (Below.refl _ _) 1))
                have HEL := Lib.hid (encE_len x d)
                have HST1 := Lib.hid hst1
                have HAL : Hid ((allP ⟨mi, rnd, ses, su, me, ho, pos, ex⟩ (k + 1)).length = (allM ⟨mi, rnd, ses, su, me, ho, pos, ex⟩ k).length + (d.length + 4)) := Lib.hid (by rw [hst1, List.length_append, encE_len])
                clear t1 t2 hst1 e0 e1 hd hbd hbl HSW BW hst
                generalize allM ⟨mi, rnd, ses, su, me, ho, pos, ex⟩ k = AM at *
                generalize encE x d = EE at *
                go_wp2_with fail
                clear p38
                go_region_held3 (fun w' => w'.cell? ⟨w.heap.size, 38, none⟩ = some (.slice (some ⟨b, off, none⟩) ex.length k4) ∧ w'.cell? ⟨b, off + k * 2, none⟩ = some (.int .i64 x) ∧ w'.cell? ⟨b, off + k * 2 + 1, none⟩ = some (.slice Ad d.length cd)) (first | exact HD0.out | exact HD1.out | exact HD2.out) ((first
                  | (go_at_call 44; refine CE.out.mono ?_; rintro e w6 ⟨A7, c7, rfl, hr6, hb6⟩; have R6 := Lib.hid hr6; have R7 := Lib.hid (HRW.out.below hb6); have B6 := Lib.hid (HBD.out.trans (hb6.mono HBD.out.size)); have HD1 := Lib.hid (HSP.out _ B6.out); clear hr6 hb6)
                  | (refine step_pushG7 rfl (.tmp 55) (.tmp 68) 22 rfl w6 w5.heap.size A6 c6 AM.length (d.length + 4) AM EE (.slice A7 (d.length + 4) c7) rfl HEL.out rfl rfl R7.out (src_len R6.out.rb HEL.out) B6.out.size (by omega) ?_; intro A8 c8 w8 hr8 hb8; have HE := Lib.hid (And.intro hr8 (B6.out.trans hb8)); have HD2 := Lib.hid (HSP.out _ HE.out.2); clear hr8 hb8)))
                go_wp2_with fail
                go_roundg (ex.length - k)
                case rel => exact ⟨k + 1, A8, c8, by omega, by go_num, by rw [HAL.out], by rw [HST1.out]; exact HE⟩
                case measure => omega
              · obtain rfl : k = ex.length := by omega
                have q2 : ¬ (ex.length : Int) < ex.length := by omega
                obtain ⟨hbx, hgr, _, _⟩ := HBY.out wc BW.out
                have p38 := hbx.c38
                dsimp only at p38
                have HLA : Hid (allP ⟨mi, rnd, ses, su, me, ho, pos, ex⟩ (ex.length + 1) = allM ⟨mi, rnd, ses, su, me, ho, pos, ex⟩ ex.length) := Lib.hid (allM_last (by have := HPX.out; show pos.toNat ≤ ex.length; omega))
                clear hbx hgr hst
                go_wp2_with fail
                go_roundg 0
                case rel => exact ⟨ex.length + 1, A6, c6, by omega, by go_num, by rw [HLA.out], by rw [HLA.out]; exact HSW⟩
                case measure => omega
          · obtain rfl : k = ex.length + 1 := by omega
            have q1 : ¬ ((ex.length + 1 : Nat) : Int) ≤ ex.length := by omega
            have HAX : Hid (allP ⟨mi, rnd, ses, su, me, ho, pos, ex⟩ (ex.length + 1) = allX ⟨mi, rnd, ses, su, me, ho, pos, ex⟩) := Lib.hid (allP_end (by have := HPX.out; show pos.toNat ≤ ex.length; omega))
            have hxlen := allP_len HS.out (ex.length + 1)
            rw [HAX.out] at hxlen
            have hsw := hst.out.1
            rw [HAX.out] at hsw
            rw [HAX.out]
            have BRR := Lib.hid BW.out
            have hse : ses.length ≤ 1000 := HS.out.s
            have hme : me.length ≤ 1000 := HS.out.m
            have HZ : Hid (∀ wx, Below wr.heap.size wr wx → BxG wx w.heap.size ⟨mi, rnd, ses, su, me, ho, pos, ex⟩ ⟨a1, k1, a2, k2, a3, k3, a4, k4⟩ ∧ GrV wx.heap.size wx ⟨mi, rnd, ses, su, me, ho, pos, ex⟩ ⟨a1, k1, a2, k2, a3, k3, a4, k4⟩ ∧ Rb wx.heap.size wx (some ⟨w.heap.size, 1, none⟩) 32 rnd ∧ Below w.heap.size w wx) := Lib.hid fun wx hb => HBY.out wx (BRR.out.trans (hb.mono BRR.out.size))
            have HSS : Hid (∀ wx, Below wr.heap.size wr wx → Rb wx.heap.size wx A c (encS su)) := Lib.hid fun wx hb => ((S5.out.below hst.out.2).below hb).rb
            have HAA : Hid (∀ wx, Below wr.heap.size wr wx → Rb wx.heap.size wx Ay cy (allX ⟨mi, rnd, ses, su, me, ho, pos, ex⟩)) := Lib.hid fun wx hb => (hsw.below hb).rb
            have HBODY : Hid (bodyG ⟨mi, rnd, ses, su, me, ho, pos, ex⟩ = [3, 3] ++ rnd ++ fillB ses 1 ++ fillB (encS su) 2 ++ fillB me 1 ++ fillB (allX ⟨mi, rnd, ses, su, me, ho, pos, ex⟩) 2) := Lib.hid rfl
            have HMSG : Hid (msgG ⟨mi, rnd, ses, su, me, ho, pos, ex⟩ = 1 :: fillB (bodyG ⟨mi, rnd, ses, su, me, ho, pos, ex⟩) 3) := Lib.hid rfl
            have HREC : Hid (recG ⟨mi, rnd, ses, su, me, ho, pos, ex⟩ = 22 :: 3 :: UInt8.ofNat mi.toNat :: fillB (msgG ⟨mi, rnd, ses, su, me, ho, pos, ex⟩) 2) := Lib.hid rfl
            have hel := encS_len su
            clear hst hsw hbx hgr hle p37 HNW BW B5 S5 N5 HSW HBY hk
            generalize hAXX : allX ⟨mi, rnd, ses, su, me, ho, pos, ex⟩ = AX at *
            clear hAXX
            generalize hESS : encS su = ES at *
            clear hESS
            have R6a := Lib.hid (rowG_lit wr wr.heap.size [3, 3] [.int .u8 3, .int .u8 3] rfl (Nat.le_refl _) (by decide))
            have B6a := Lib.hid (below_new wr (.cells #[.int .u8 3, .int .u8 3] 5))
            go_wp2_with (at_builtin; refine wpList_pushG rfl (.tmp 70) (.tmp 72) 22 rfl _ wr.heap.size (some ⟨wr.heap.size, 0, none⟩) 2 2 32 [3, 3] rnd (.slice (some ⟨w.heap.size, 1, none⟩) 32 32) rfl HRL.out rfl rfl R6a.out (src_len (HZ.out _ B6a.out).2.2.1 HRL.out) B6a.out.size (by omega) ?_; intro A6 c6 w6 hr6 hb6 _; have R6 := Lib.hid hr6; have B6 := Lib.hid (B6a.out.trans hb6); have c33 := (HZ.out _ B6.out).1.c33; dsimp only at c33; clear hr6 hb6 p38)
            have L6 : Hid (([3, 3] ++ rnd).length = 34) := Lib.hid (by rw [List.length_append, HRL.out]; rfl)
            have C7 : Hid (Calls Tryz.prog 43 #[.slice a1 ses.length k1, .int .i64 (1 : Nat)] w6 fun e w' => ∃ (A : Option Addr) (c : Nat), e = .returned (.slice A (1 + ses.length) c) ∧ RowG w' w6.heap.size A c (fillB ses 1) ∧ Below w6.heap.size w6 w') := Lib.hid ((filled_ref7 (z := ses) ((HZ.out _ B6.out).2.1.ses) rfl (by omega) 1 (by decide)).mono fun e w' hh => madeN (by rw [fillB_len]) hh)
            go_wp2_with fail
            clear c33
            refine C7.out.mono ?_
            rintro e w7 ⟨F7, f7, rfl, hr, hb⟩
            have RF7 := Lib.hid hr
            have RO7 := Lib.hid (R6.out.below hb)
            have BO7 := Lib.hid (B6.out.trans (hb.mono B6.out.size))
            have LF7 : Hid ((fillB ses 1).length = 1 + ses.length) := Lib.hid (by rw [fillB_len])
            clear hr hb C7 R6 B6
            go_wp2_with (at_builtin; refine wpList_pushG rfl (.tmp 74) (.tmp 77) 22 rfl _ wr.heap.size A6 c6 34 (1 + ses.length) ([3, 3] ++ rnd) (fillB ses 1) (.slice F7 (1 + ses.length) f7) L6.out LF7.out rfl rfl RO7.out (src_len RF7.out.rb LF7.out) BO7.out.size (by omega) ?_; intro A8 c8 w8 hr hb _; have R8 := Lib.hid hr; have B8 := Lib.hid (BO7.out.trans hb); clear hr hb)
            have L8 : Hid ((([3, 3] ++ rnd) ++ fillB ses 1).length = 34 + (1 + ses.length)) := Lib.hid (by rw [List.length_append, L6.out, LF7.out])
            generalize hX8 : ([3, 3] ++ rnd) ++ fillB ses 1 = X8 at *
            obtain ⟨n8, hn8⟩ : ∃ x, x = 34 + (1 + ses.length) := ⟨_, rfl⟩
            rw [← hn8] at L8 ⊢
            have hb8 : n8 ≤ 1100 := by omega
            clear RF7 RO7 BO7 LF7 L6 hX8 hn8
            have C9 : Hid (Calls Tryz.prog 43 #[.slice A (2 * su.length) c, .int .i64 (2 : Nat)] w8 fun e w' => ∃ (A : Option Addr) (c : Nat), e = .returned (.slice A (2 + (2 * su.length)) c) ∧ RowG w' w8.heap.size A c (fillB ES 2) ∧ Below w8.heap.size w8 w') := Lib.hid ((filled_ref7 (z := ES) (HSS.out _ B8.out) hel.symm (by omega) 2 (by decide)).mono fun e w' hh => madeN (by rw [fillB_len]; omega) hh)
            go_wp2_with fail
            refine C9.out.mono ?_
            rintro e w9 ⟨F9, f9, rfl, hr, hb⟩
            have RF9 := Lib.hid hr
            have RO9 := Lib.hid (R8.out.below hb)
            have BO9 := Lib.hid (B8.out.trans (hb.mono B8.out.size))
            have LF9 : Hid ((fillB ES 2).length = 2 + (2 * su.length)) := Lib.hid (by rw [fillB_len]; omega)
            clear hr hb C9 R8 B8
            go_wp2_with (at_builtin; refine wpList_pushG rfl (.tmp 79) (.tmp 81) 22 rfl _ wr.heap.size A8 c8 n8 (2 + (2 * su.length)) X8 (fillB ES 2) (.slice F9 (2 + (2 * su.length)) f9) L8.out LF9.out rfl rfl RO9.out (src_len RF9.out.rb LF9.out) BO9.out.size (by omega) ?_; intro A10 c10 w10 hr hb _; have R10 := Lib.hid hr; have B10 := Lib.hid (BO9.out.trans hb); have c35 := (HZ.out _ B10.out).1.c35; dsimp only at c35; clear hr hb)
            have L10 : Hid ((X8 ++ fillB ES 2).length = n8 + (2 + (2 * su.length))) := Lib.hid (by rw [List.length_append, L8.out, LF9.out])
            generalize hX10 : X8 ++ fillB ES 2 = X10 at *
            obtain ⟨n10, hn10⟩ : ∃ x, x = n8 + (2 + (2 * su.length)) := ⟨_, rfl⟩
            rw [← hn10] at L10 ⊢
            have hb10 : n10 ≤ 3200 := by omega
            clear RF9 RO9 BO9 LF9 L8 hX10 hn10
            have C11 : Hid (Calls Tryz.prog 43 #[.slice a3 me.length k3, .int .i64 (1 : Nat)] w10 fun e w' => ∃ (A : Option Addr) (c : Nat), e = .returned (.slice A (1 + me.length) c) ∧ RowG w' w10.heap.size A c (fillB me 1) ∧ Below w10.heap.size w10 w') := Lib.hid ((filled_ref7 (z := me) ((HZ.out _ B10.out).2.1.met) rfl (by omega) 1 (by decide)).mono fun e w' hh => madeN (by rw [fillB_len]) hh)
            go_wp2_with fail
            clear c35
            refine C11.out.mono ?_
            rintro e w11 ⟨F11, f11, rfl, hr, hb⟩
            have RF11 := Lib.hid hr
            have RO11 := Lib.hid (R10.out.below hb)
            have BO11 := Lib.hid (B10.out.trans (hb.mono B10.out.size))
            have LF11 : Hid ((fillB me 1).length = 1 + me.length) := Lib.hid (by rw [fillB_len])
            clear hr hb C11 R10 B10
            go_wp2_with (at_builtin; refine wpList_pushG rfl (.tmp 83) (.tmp 86) 22 rfl _ wr.heap.size A10 c10 n10 (1 + me.length) X10 (fillB me 1) (.slice F11 (1 + me.length) f11) L10.out LF11.out rfl rfl RO11.out (src_len RF11.out.rb LF11.out) BO11.out.size (by omega) ?_; intro A12 c12 w12 hr hb _; have R12 := Lib.hid hr; have B12 := Lib.hid (BO11.out.trans hb); clear hr hb)
            have L12 : Hid ((X10 ++ fillB me 1).length = n10 + (1 + me.length)) := Lib.hid (by rw [List.length_append, L10.out, LF11.out])
            generalize hX12 : X10 ++ fillB me 1 = X12 at *
            obtain ⟨n12, hn12⟩ : ∃ x, x = n10 + (1 + me.length) := ⟨_, rfl⟩
            rw [← hn12] at L12 ⊢
            have hb12 : n12 ≤ 4300 := by omega
            clear RF11 RO11 BO11 LF11 L10 hX12 hn12
            have C13 : Hid (Calls Tryz.prog 43 #[.slice Ay AX.length cy, .int .i64 (2 : Nat)] w12 fun e w' => ∃ (A : Option Addr) (c : Nat), e = .returned (.slice A (2 + AX.length) c) ∧ RowG w' w12.heap.size A c (fillB AX 2) ∧ Below w12.heap.size w12 w') := Lib.hid ((filled_ref7 (z := AX) (HAA.out _ B12.out) rfl (by omega) 2 (by decide)).mono fun e w' hh => madeN (by rw [fillB_len]) hh)
            go_wp2_with fail
            refine C13.out.mono ?_
            rintro e w13 ⟨F13, f13, rfl, hr, hb⟩
            have RF13 := Lib.hid hr
            have RO13 := Lib.hid (R12.out.below hb)
            have BO13 := Lib.hid (B12.out.trans (hb.mono B12.out.size))
            have LF13 : Hid ((fillB AX 2).length = 2 + AX.length) := Lib.hid (by rw [fillB_len])
            clear hr hb C13 R12 B12
            go_wp2_with (at_builtin; refine wpList_pushG rfl (.tmp 88) (.tmp 90) 22 rfl _ wr.heap.size A12 c12 n12 (2 + AX.length) X12 (fillB AX 2) (.slice F13 (2 + AX.length) f13) L12.out LF13.out rfl rfl RO13.out (src_len RF13.out.rb LF13.out) BO13.out.size (by omega) ?_; intro A14 c14 w14 hr hb _; have R14 := Lib.hid hr; have B14 := Lib.hid (BO13.out.trans hb); clear hr hb)
            have L14 : Hid ((X12 ++ fillB AX 2).length = n12 + (2 + AX.length)) := Lib.hid (by rw [List.length_append, L12.out, LF13.out])
            generalize hX14 : X12 ++ fillB AX 2 = X14 at *
            obtain ⟨n14, hn14⟩ : ∃ x, x = n12 + (2 + AX.length) := ⟨_, rfl⟩
            rw [← hn14] at L14 ⊢
            have hb14 : n14 ≤ 600000 := by omega
            clear RF13 RO13 BO13 LF13 L12 hX14 hn14
            have hmsl : (msgG ⟨mi, rnd, ses, su, me, ho, pos, ex⟩).length = 1 + (3 + n14) := by rw [HMSG.out, HBODY.out, List.length_cons, fillB_len, L14.out]; omega
            have HMSL := Lib.hid hmsl
            have HMS2 : Hid (msgG ⟨mi, rnd, ses, su, me, ho, pos, ex⟩ = [1] ++ fillB X14 3) := Lib.hid (by rw [HMSG.out, HBODY.out]; rfl)
            have R15a := Lib.hid (rowG_one w14 w14.heap.size 1 1 rfl (Nat.le_refl _))
            have B15a := Lib.hid (below_new w14 (.cells #[.int .u8 1] 5))
            have C15 : Hid (Calls Tryz.prog 43 #[.slice A14 n14 c14, .int .i64 (3 : Nat)] (w14.alloc (.cells #[.int .u8 1] 5)) fun e w' => ∃ (A : Option Addr) (c : Nat), e = .returned (.slice A (3 + n14) c) ∧ RowG w' (w14.alloc (.cells #[.int .u8 1] 5)).heap.size A c (fillB X14 3) ∧ Below (w14.alloc (.cells #[.int .u8 1] 5)).heap.size (w14.alloc (.cells #[.int .u8 1] 5)) w') := Lib.hid ((filled_ref7 (z := X14) (R14.out.below B15a.out).rb L14.out.symm (by rw [L14.out]; omega) 3 (by decide)).mono fun e w' hh => madeN (by rw [fillB_len, L14.out]) hh)
            have LF15 : Hid ((fillB X14 3).length = 3 + n14) := Lib.hid (by rw [fillB_len, L14.out])
            clear hmsl HMSG HBODY
            go_wp2_with fail
            refine C15.out.mono ?_
            rintro e w15 ⟨F15, f15, rfl, hr, hb⟩
            have RF15 := Lib.hid hr
            have RO15 := Lib.hid (R15a.out.below hb)
            have BO15 := Lib.hid (B15a.out.trans (hb.mono B15a.out.size))
            clear hr hb C15 R15a B15a L14 R14
            have LM : Hid (([1] ++ fillB X14 3).length = 1 + (3 + n14)) := Lib.hid (by rw [List.length_append, LF15.out]; rfl)
            generalize hM : msgG ⟨mi, rnd, ses, su, me, ho, pos, ex⟩ = M at *
            by_cases hbig : 1 + (3 + n14) ≤ 16384
            · have HOY : Hid (okG ⟨mi, rnd, ses, su, me, ho, pos, ex⟩ = true) := Lib.hid (by rw [HOK.out, HMSL.out]; exact decide_eq_true hbig)
              have q2 : ¬ (16384 : Int) < ((1 + (3 + n14) : Nat) : Int) := by omega
              clear HOK HMSL hM
              go_wp2_with (at_builtin; refine wpList_pushG rfl (.tmp 92) (.tmp 94) 22 rfl _ w14.heap.size (some ⟨w14.heap.size, 0, none⟩) 1 1 (3 + n14) [1] (fillB X14 3) (.slice F15 (3 + n14) f15) rfl LF15.out rfl rfl RO15.out (src_len RF15.out.rb LF15.out) BO15.out.size (by omega) ?_; intro A16 c16 w16 hr hb _; have R16 := Lib.hid hr; have B16 := Lib.hid (B14.out.trans ((BO15.out.trans hb).mono B14.out.size)); clear hr hb RF15 RO15 BO15)
              have HMN := HMI.out
              obtain ⟨x, rfl⟩ : ∃ x : Nat, mi = (x : Int) := ⟨mi.toNat, by omega⟩
              have hx4 : x ≤ 4 := by omega
              have wx : IntKind.u8.wrap (x : Int) = x := u8wrap x (by omega)
              have wx2 : (x : Int) % 256 = x := by omega
              have HSM : Hid (∀ wx, Below w16.heap.size w16 wx → wx.cell? ⟨w.heap.size, 0, none⟩ = some (.int .i64 x)) := Lib.hid fun wx hb => (HZ.out wx (B16.out.trans (hb.mono B16.out.size))).1.c0
              have HBL : Hid (∀ wx, Below w16.heap.size w16 wx → Below w.heap.size w wx) := Lib.hid fun wx hb => (HZ.out wx (B16.out.trans (hb.mono B16.out.size))).2.2.2
              have HBd : Hid (Below w16.heap.size w16 w16.drew) := Lib.hid (below_drewN (Below.refl _ _) 1)
              have HBa : Hid (Below w16.heap.size w16 (w16.drew.alloc (.cells #[.int .u8 22, .int .u8 3, .int .u8 x] 5))) := Lib.hid (HBd.out.trans (below_new w16.drew _))
              have RA0 : Hid (RowG (w16.drew.alloc (.cells #[.int .u8 22, .int .u8 3, .int .u8 x] 5)) w16.heap.size (some ⟨w16.heap.size, 0, none⟩) 3 [22, 3, UInt8.ofNat x]) := Lib.hid (rowG_three w16.drew w16.heap.size 22 3 x 22 3 (UInt8.ofNat x) rfl rfl (by rw [UInt8.toNat_ofNat']; omega) (Nat.le_refl _))
              have CF : Hid (∀ wx, Below w16.heap.size w16 wx → Calls Tryz.prog 43 #[.slice A16 (1 + (3 + n14)) c16, .int .i64 (2 : Nat)] wx fun e w' => ∃ (A : Option Addr) (c : Nat), e = .returned (.slice A (2 + (1 + (3 + n14))) c) ∧ RowG w' wx.heap.size A c (fillB M 2) ∧ Below wx.heap.size wx w') := Lib.hid fun wx hb => (filled_ref7 (z := [1] ++ fillB X14 3) (R16.out.below hb).rb LM.out.symm (by rw [LM.out]; omega) 2 (by decide)).mono fun e w' hh => by
                rw [← HMS2.out] at hh LM
                exact madeN (by rw [fillB_len, LM.out]) hh
              have LFM : Hid ((fillB M 2).length = 2 + (1 + (3 + n14))) := Lib.hid (by rw [fillB_len, HMS2.out, LM.out])
              have HRC : Hid (recG ⟨(x : Int), rnd, ses, su, me, ho, pos, ex⟩ = [22, 3, UInt8.ofNat x] ++ fillB M 2) := Lib.hid HREC.out
              have HRL2 : Hid ((recG ⟨(x : Int), rnd, ses, su, me, ho, pos, ex⟩).length = 3 + (2 + (1 + (3 + n14)))) := Lib.hid (by rw [HRC.out, List.length_append, LFM.out]; rfl)
              clear HMN R16 HMS2 LM HREC q2 hbig
              generalize fillB M 2 = FM at *
              generalize hn16 : 1 + (3 + n14) = n16 at *
              go_region_held3 (fun w' => w'.cell? ⟨w.heap.size, 0, none⟩ = some (.int .i64 x)) (first | exact HSM.out _ HBd.out | exact HSM.out _ HBa.out | exact HSM.out _ B17.out | exact HSM.out _ B17b.out | exact HSM.out _ B18.out) ((first
                | (go_at_call 43; first
                    | (refine (CF.out _ HBa.out).mono ?_; rintro e w17 ⟨F17, f17, rfl, hr, hb⟩; have RF17 := Lib.hid hr; have RA1 := Lib.hid (RA0.out.below hb); have B17 := Lib.hid (HBa.out.trans (hb.mono HBa.out.size)); clear hr hb)
                    | (refine (CF.out _ HBd.out).mono ?_; rintro e w17 ⟨F17, f17, rfl, hr, hb⟩; have B17 := Lib.hid (HBd.out.trans (hb.mono HBd.out.size)); have B17b : Hid (Below w16.heap.size w16 (w17.alloc (.cells #[.int .u8 22, .int .u8 3, .int .u8 x] 5))) := Lib.hid (B17.out.trans ((below_new w17 _).mono B17.out.size)); have RF17 := Lib.hid (hr.below (below_new w17 (.cells #[.int .u8 22, .int .u8 3, .int .u8 x] 5))); have RB1 : Hid (RowG (w17.alloc (.cells #[.int .u8 22, .int .u8 3, .int .u8 x] 5)) w16.heap.size (some ⟨w17.heap.size, 0, none⟩) 3 [22, 3, UInt8.ofNat x]) := Lib.hid (rowG_three w17 w16.heap.size 22 3 x 22 3 (UInt8.ofNat x) rfl rfl (by rw [UInt8.toNat_ofNat']; omega) B17.out.size); clear hr hb))
                | (refine step_pushG7 rfl (.tmp 102) (.tmp 104) 22 rfl w17 w16.heap.size (some ⟨w16.heap.size, 0, none⟩) 3 3 (2 + n16) [22, 3, UInt8.ofNat x] FM (.slice F17 (2 + n16) f17) rfl LFM.out rfl rfl RA1.out (src_len RF17.out.rb LFM.out) B17.out.size (by omega) ?_; intro A18 c18 w18 hr hb; have B18 := Lib.hid (B17.out.trans hb); have R18 := Lib.hid hr; clear hr hb)
                | (refine step_pushG7 rfl (.tmp 102) (.tmp 104) 22 rfl _ w16.heap.size (some ⟨w17.heap.size, 0, none⟩) 3 3 (2 + n16) [22, 3, UInt8.ofNat x] FM (.slice F17 (2 + n16) f17) rfl LFM.out rfl rfl RB1.out (src_len RF17.out.rb LFM.out) B17b.out.size (by omega) ?_; intro A18 c18 w18 hr hb; have B18 := Lib.hid (B17b.out.trans hb); have R18 := Lib.hid hr; clear hr hb)))
              all_goals
                go_wp2_with fail
                go_ret2
                exact ⟨fun _ => ⟨A18, c18, by rw [HRL2.out] <;> rfl, by rw [HRC.out]; exact R18.out.up (HBL.out _ (Below.refl _ _)).size, HBL.out _ B18.out⟩, fun e => by rw [HOY.out] at e; cases e⟩
            · have HON : Hid (okG ⟨mi, rnd, ses, su, me, ho, pos, ex⟩ = false) := Lib.hid (by rw [HOK.out, HMSL.out]; exact decide_eq_false hbig)
              have q2 : (16384 : Int) < ((1 + (3 + n14) : Nat) : Int) := by omega
              clear HOK HMSL hM
              go_wp2_with (at_builtin; refine wpList_pushG rfl (.tmp 92) (.tmp 94) 22 rfl _ w14.heap.size (some ⟨w14.heap.size, 0, none⟩) 1 1 (3 + n14) [1] (fillB X14 3) (.slice F15 (3 + n14) f15) rfl LF15.out rfl rfl RO15.out (src_len RF15.out.rb LF15.out) BO15.out.size (by omega) ?_; intro A16 c16 w16 hr hb _; have R16 := Lib.hid hr; have B16 := Lib.hid (B14.out.trans ((BO15.out.trans hb).mono B14.out.size)); clear hr hb RF15 RO15 BO15)
              go_ret2
              exact ⟨(fun e => by rw [HON.out] at e; cases e), fun _ => ⟨rfl, (HZ.out _ B16.out).2.2.2⟩⟩
end Go.Proofs.YtiakbmllpnabnaaGreatDoor
namespace Go.Proofs.YtiakbmllpnabnaaGreatDoor
open Go Go.RowKit

/-- a greeting that stands in memory, of whatever size -/
structure GrB (D : Nat) (w : World) (g : Grt) (a : Adr) : Prop where
  ses : Rb D w a.a1 a.c1 g.ses
  sui : NumsIn D w a.a2 g.suites
  su2 : g.suites.length ≤ a.c2
  met : Rb D w a.a3 a.c3 g.meth
  ext : ExtsIn D w a.a4 g.exts
  rl : g.rnd.length = 32
theorem GrB.keep {D D' : Nat} {w w' : World} {g : Grt} {a : Adr} (h : GrB D w g a) (hb : ∀ k, k < D → w'.heap[k]? = w.heap[k]?) (hD : D ≤ D') : GrB D' w' g a :=
  ⟨(h.ses.keep hb).mono hD, h.sui.keep hb hD, h.su2, (h.met.keep hb).mono hD, h.ext.keep hb hD, h.rl⟩
theorem GrB.below {w w' : World} {g : Grt} {a : Adr} (h : GrB w.heap.size w g a) (hb : Below w.heap.size w w') : GrB w'.heap.size w' g a := h.keep (fun k hk => hb.block k hk) hb.size
theorem GrB.grV {D : Nat} {w : World} {g : Grt} {a : Adr} (h : GrB D w g a) (hs : SmG g) : GrV D w g a :=
  ⟨h.ses, h.sui, h.met, h.ext, by have := hs.s; omega, by have := hs.u; omega, by have := hs.m; omega, by have := hs.h; omega, by have := hs.x; omega, h.rl⟩
theorem RbS.take {S : Nat → Prop} {w : World} {A : Option Addr} {c : Nat} {x : List UInt8} (h : RbS S w A c x) (k : Nat) : RbS S w A c (x.take k) :=
  ⟨Nat.le_trans (by rw [List.length_take]; omega) h.cap, h.nil, fun i hi => by
    have hi' : i < x.length := by rw [List.length_take] at hi; omega
    obtain ⟨b, off, e, hl, hc⟩ := h.rd i hi'
    exact ⟨b, off, e, hl, hc.trans (by simp)⟩⟩
theorem NumsS.take {S : Nat → Prop} {w : World} {A : Option Addr} {l : List Int} (h : NumsS S w A l) (k : Nat) : NumsS S w A (l.take k) := fun i hi => by
  have hi' : i < l.length := by rw [List.length_take] at hi; omega
  obtain ⟨b, off, e, hl, hc⟩ := h i hi'
  exact ⟨b, off, e, hl, hc.trans (by simp)⟩
/-- a greeting of whatever size in blocks of a set -/
structure GrC (S : Nat → Prop) (w : World) (g : Grt) (a : Adr) : Prop where
  ses : RbS S w a.a1 a.c1 g.ses
  sui : NumsS S w a.a2 g.suites
  su2 : g.suites.length ≤ a.c2
  met : RbS S w a.a3 a.c3 g.meth
  ext : ExtsS S w a.a4 g.exts
  rl : g.rnd.length = 32
theorem GrC.keep {S S' : Nat → Prop} {w w' : World} {g : Grt} {a : Adr} (h : GrC S w g a) (hb : ∀ k, S k → w'.heap[k]? = w.heap[k]? ∧ S' k) : GrC S' w' g a :=
  ⟨h.ses.keep hb, h.sui.keep hb, h.su2, h.met.keep hb, h.ext.keep hb, h.rl⟩
theorem GrC.grB {S : Nat → Prop} {D : Nat} {w : World} {g : Grt} {a : Adr} (h : GrC S w g a) (hb : ∀ k, S k → k < D) : GrB D w g a :=
  ⟨h.ses.rb hb, fun i hi => by
    obtain ⟨b, off, e, hl, hc⟩ := h.sui i hi
    exact ⟨b, off, e, hb b hl, hc⟩, h.su2, h.met.rb hb, fun i hi => by
    obtain ⟨b, off, Ad, cd, e, hl, h1, h2, h3⟩ := h.ext i hi
    exact ⟨b, off, Ad, cd, e, hb b hl, h1, h2, h3.rb hb⟩, h.rl⟩
theorem GrC.grS {S : Nat → Prop} {w : World} {g : Grt} {a : Adr} (h : GrC S w g a) (hs : SmG g) : GrS S w g a :=
  ⟨h.ses, h.sui, h.met, h.ext, by have := hs.s; omega, by have := hs.u; omega, by have := hs.m; omega, by have := hs.h; omega, by have := hs.x; omega, h.rl⟩
def cutE (x : Int × List UInt8) : Int × List UInt8 := (x.1, x.2.take 200)
def cutG (g : Grt) : Grt := ⟨g.minor, g.rnd, g.ses.take 40, g.suites.take 40, g.meth.take 300, g.host.take 100, g.pos, (g.exts.take 12).map cutE⟩
theorem cutG_sm (g : Grt) : SmG (cutG g) := by
  refine ⟨?_, ?_, ?_, ?_, ?_, fun y hy => ?_⟩
  · show (g.ses.take 40).length ≤ 1000; rw [List.length_take]; omega
  · show (g.suites.take 40).length ≤ 1000; rw [List.length_take]; omega
  · show (g.meth.take 300).length ≤ 1000; rw [List.length_take]; omega
  · show (g.host.take 100).length ≤ 1000; rw [List.length_take]; omega
  · show ((g.exts.take 12).map cutE).length ≤ 1000; rw [List.length_map, List.length_take]; omega
  · obtain ⟨x, _, rfl⟩ := List.mem_map.1 (show y ∈ (g.exts.take 12).map cutE from hy)
    show (x.2.take 200).length ≤ 500
    rw [List.length_take]; omega
theorem cutG_twice (g : Grt) : cutG (cutG g) = cutG g := by
  unfold cutG
  dsimp only
  rw [List.take_take, List.take_take, List.take_take, List.take_take, ← List.map_take, List.take_take, List.map_map]
  have e : cutE ∘ cutE = cutE := by
    funext x
    show (x.1, (x.2.take 200).take 200) = (x.1, x.2.take 200)
    rw [List.take_take]; rfl
  rw [e]
  rfl
theorem NumsIn.take {D : Nat} {w : World} {A : Option Addr} {l : List Int} (h : NumsIn D w A l) (k : Nat) : NumsIn D w A (l.take k) := fun i hi => by
  have hi' : i < l.length := by rw [List.length_take] at hi; omega
  obtain ⟨b, off, e, hl, hc⟩ := h i hi'
  exact ⟨b, off, e, hl, hc.trans (by simp)⟩
/-- the boxes of cut -/
structure Cst (w wr : World) (l : List Value) : Prop where
  bel : Below w.heap.size w wr
  ret : wr.heap[w.heap.size + 1]? = some (.cells (gArr 0) 28 (0, 0))
  shp : Shp wr w.heap.size
  cs : Cs wr w.heap.size l
  gt : w.heap.size + 1 < wr.heap.size
theorem Cst.set {w wr : World} {l : List Value} (h : Cst w wr l) (j : Nat) (hj : j < l.length) (v : Value) : Cst w (wr.setCell ⟨w.heap.size, j, none⟩ v) (l.set j v) :=
  ⟨h.bel.setCell (p := ⟨w.heap.size, j, none⟩) (Nat.le_refl _) v, (Below.heap_setCell _ _ _ _ (by show w.heap.size + 1 ≠ w.heap.size; omega)).trans h.ret, h.shp.set j v, h.cs.set j hj v, by simpa [World.setCell] using h.gt⟩
theorem Cst.low {w wr wx : World} {l : List Value} {base : Nat} (h : Cst w wr l) (hb : Below base wr wx) (hlo : w.heap.size + 2 ≤ base) : Cst w wx l :=
  ⟨h.bel.trans (hb.mono (by omega)), (hb.block _ (by omega)).trans h.ret, h.shp.keep (hb.block _ (by omega)), h.cs.keep hb.size (hb.block _ (by omega)), Nat.lt_of_lt_of_le h.gt hb.size⟩
theorem Cst.drew {w wr : World} {l : List Value} (h : Cst w wr l) : Cst w wr.drew l := h.low (below_drewN (Below.refl _ _) 1) h.gt
theorem cst_new (w : World) (g : Grt) (a : Adr) (hr : g.rnd.length = 32) : Cst w ((w.alloc (.cells (grtA g a) 28)).alloc (.cells (gArr 0) 28)) (gCells g.minor g.rnd (.slice a.a1 g.ses.length a.c1) (.slice a.a2 g.suites.length a.c2) (.slice a.a3 g.meth.length a.c3) (.string ⟨g.host.toArray⟩) (.int .i64 g.pos) (.slice a.a4 g.exts.length a.c4)) := by
  have s1 : (w.alloc (.cells (grtA g a) 28)).heap.size = w.heap.size + 1 := by simp
  have b1 := below_new w (.cells (grtA g a) 28)
  have b2 := below_new (w.alloc (.cells (grtA g a) 28)) (.cells (gArr 0) 28)
  have h0 := (b2.block w.heap.size (by omega)).trans (heap_alloc_new w (.cells (grtA g a) 28))
  refine ⟨b1.trans (b2.mono (by omega)), by rw [← s1]; exact heap_alloc_new _ _, ⟨grtA g a, h0, rfl⟩, ?_, by rw [← s1]; simp⟩
  rw [gCells_grt g a hr]
  exact cs_row (arr := (grtA g a).toList) h0
/-- what cut hands back -/
def CutQ (S : Nat → Prop) (g : Grt) (w : World) (e : Ending) (w' : World) : Prop := ∃ a : Adr, e = .returned (.agg (grtA (cutG g) a)) ∧ Below w.heap.size w w' ∧ GrC (fun k => S k ∨ (w.heap.size ≤ k ∧ k < w'.heap.size)) w' (cutG g) a
theorem step_pushV7 {sz : Nat} {ops : Array Oper} {o : Oper} {a : Act} {K : Act → World → Prop} {Q : Exit → Act → World → Prop} {E0 : Prop} (hgd : o.guard = none) (s x : Operand) (S E tx : TypeId)
    (ho : o.op = .call { callee := .builtin .append, args := #[s, x], argTypes := #[S, tx] }) (i0 : TypeInfo) (z0 : Value) (bz : Nat) (hS : Tryz.prog.underlying S = some (.slice E)) (hi : Tryz.prog.info? E = some i0) (hz0 : i0.zero = some z0) (hz1 : i0.size = sz) (hz2 : i0.bytes = bz) (hzc : z0.cells.size = sz) (hbz : bz ≤ 40)
    (w : World) (base : Nat) (A : Option Addr) (c n m : Nat) (vs news : List Value) (xv : Value) (hm : news.length = m * sz)
    (hs : a.eval s = .slice A n c) (hx : a.eval x = xv) (h : RowV sz w base A n c vs) (hsrc : Src Tryz.prog sz tx xv m news w) (hbase : base ≤ w.heap.size) (hlen : n + m ≤ 1000000000000)
    (hk : ∀ (A' : Option Addr) (c' : Nat) w', RowV sz w' base A' (n + m) c' (vs ++ news) → Gw base A A' w w' → K (a.put o.dst (.slice A' (n + m) c')) w') :
    if Region.wanted o (yielded ops a.tmps) = true then Oper.wp Tryz.prog o a w K Q else E0 := by
  have hw : Region.wanted o (yielded ops a.tmps) = true := by simp [Region.wanted, hgd]
  rw [if_pos hw]
  obtain ⟨A', c', w', hr, h2, h3, h4, h5⟩ := run_pushV w base S E tx o.type i0 z0 bz hS hi hz0 hz1 hz2 hzc hbz A n c m vs news xv h hsrc hm hbase hlen
  unfold Oper.wp execOp
  simp only [ho, resolve, invoke, builtin, Sem.run_bind, Sem.run_pure, Result.andThen_ok, List.map_toArray, List.map_cons, List.map_nil, hs, hx, hr]
  exact hk A' c' w' h2 ⟨h3, h4, h5⟩
/-- how far cut's extensions are -/
structure Cl (w w2 wr : World) (l : List Value) (ex : List (Int × List UInt8)) (k : Nat) (L : List Xc) (Ax : Option Addr) (cx : Nat) : Prop where
  c : Cst w wr l
  b : Below w2.heap.size w2 wr
  x : RowV 2 wr w2.heap.size Ax L.length cx (xcV L)
  rb : ∀ y ∈ L, RbS (Own w2.heap.size wr Ax) wr y.a y.c y.d
  xe : L.map xcE = (ex.take k).map cutE
theorem Cl.low {w w2 wr wx : World} {l : List Value} {ex : List (Int × List UInt8)} {k cx : Nat} {L : List Xc} {Ax : Option Addr} (h : Cl w w2 wr l ex k L Ax cx) (hb : Below wr.heap.size wr wx) : Cl w w2 wx l ex k L Ax cx :=
  ⟨h.c.low hb h.c.gt, h.b.trans (hb.mono h.b.size), h.x.below hb, fun y hy => (h.rb y hy).keep fun q hq => ⟨hb.block q hq.2.1, hq.1, Nat.lt_of_lt_of_le hq.2.1 hb.size, hq.2.2⟩, h.xe⟩
theorem cl_push {w w2 wd w5 : World} {l : List Value} {ex : List (Int × List UInt8)} {k cx c5 : Nat} {L : List Xc} {Ax A5 : Option Addr} {y : Xc} {ob : Obj} (h : Cl w w2 wd l ex k L Ax cx) (hk : k < ex.length) (hlo : w.heap.size + 2 ≤ w2.heap.size)
    (hy : RbS (Own w2.heap.size wd Ax) wd y.a y.c y.d) (hyE : xcE y = cutE ex[k]) (hb : Gw w2.heap.size Ax A5 (wd.alloc ob) w5) (hr : RowV 2 w5 w2.heap.size A5 (L.length + 1) c5 (xcV L ++ [.int .i64 y.k, .slice y.a y.d.length y.c])) :
    Cl w w2 w5 l ex (k + 1) (L ++ [y]) A5 c5 := by
  have hsz := h.b.size
  have hn := below_new wd ob
  have hns := hn.size
  have hbb : Below w2.heap.size wd w5 := (hn.mono hsz).trans hb.below
  refine ⟨h.c.low hbb hlo, h.b.trans hbb, ?_, fun z hz => ?_, ?_⟩
  · rw [List.length_append, List.length_singleton, xcV_app, xcV_one]; exact hr
  · have hz' : RbS (Own w2.heap.size wd Ax) wd z.a z.c z.d := by
      rcases List.mem_append.1 hz with hz | hz
      · exact h.rb z hz
      · rw [List.mem_singleton.1 hz]; exact hy
    refine hz'.keep fun q hq => ⟨(hb.old q (by have := hq.2.1; omega) hq.2.2).trans (hn.block q hq.2.1), hq.1, Nat.lt_of_lt_of_le hq.2.1 hbb.size, fun e => ?_⟩
    rcases hb.at_ with rfl | ⟨g, hg, rfl⟩
    · exact hq.2.2 e
    · cases e
      have := hq.2.1
      omega
  · rw [List.map_append, h.xe, List.take_succ_eq_append_getElem hk, List.map_append]
    simp only [List.map_cons, List.map_nil, hyE]
/-- what stands at cut's end -/
theorem cl_fin {S : Nat → Prop} {w w2 wr : World} {g : Grt} {a : Adr} {k cx : Nat} {L : List Xc} {Ax : Option Addr} (h0 : GrC S w g a) (hS : ∀ k, S k → k < w.heap.size) (hlo : w.heap.size + 2 ≤ w2.heap.size) (hk : k = min g.exts.length 12)
    (h : Cl w w2 wr (gCells g.minor g.rnd (.slice a.a1 (g.ses.take 40).length a.c1) (.slice a.a2 (g.suites.take 40).length a.c2) (.slice a.a3 (g.meth.take 300).length a.c3) (.string ⟨(g.host.take 100).toArray⟩) (.int .i64 g.pos) (.slice a.a4 g.exts.length a.c4)) g.exts k L Ax cx) :
    (wr.setCell ⟨w.heap.size, 38, none⟩ (.slice Ax L.length cx)).heap[w.heap.size]? = some (.cells (grtA (cutG g) ⟨a.a1, a.c1, a.a2, a.c2, a.a3, a.c3, Ax, cx⟩) 28 (0, 0)) ∧
    (wr.setCell ⟨w.heap.size, 38, none⟩ (.slice Ax L.length cx)).heap[w.heap.size + 1]? = some (.cells (gArr 0) 28 (0, 0)) ∧
    ((wr.setCell ⟨w.heap.size, 38, none⟩ (.slice Ax L.length cx)).setRow (w.heap.size + 1) (grtA (cutG g) ⟨a.a1, a.c1, a.a2, a.c2, a.a3, a.c3, Ax, cx⟩)).heap[w.heap.size + 1]? = some (.cells (grtA (cutG g) ⟨a.a1, a.c1, a.a2, a.c2, a.a3, a.c3, Ax, cx⟩) 28 (0, 0)) ∧
    Below w.heap.size w ((wr.setCell ⟨w.heap.size, 38, none⟩ (.slice Ax L.length cx)).setRow (w.heap.size + 1) (grtA (cutG g) ⟨a.a1, a.c1, a.a2, a.c2, a.a3, a.c3, Ax, cx⟩)) ∧
    GrC (fun k => S k ∨ (w.heap.size ≤ k ∧ k < ((wr.setCell ⟨w.heap.size, 38, none⟩ (.slice Ax L.length cx)).setRow (w.heap.size + 1) (grtA (cutG g) ⟨a.a1, a.c1, a.a2, a.c2, a.a3, a.c3, Ax, cx⟩)).heap.size)) ((wr.setCell ⟨w.heap.size, 38, none⟩ (.slice Ax L.length cx)).setRow (w.heap.size + 1) (grtA (cutG g) ⟨a.a1, a.c1, a.a2, a.c2, a.a3, a.c3, Ax, cx⟩)) (cutG g) ⟨a.a1, a.c1, a.a2, a.c2, a.a3, a.c3, Ax, cx⟩ := by
  have hrl := h0.rl
  have hxe : L.map xcE = (g.exts.take 12).map cutE := by
    rw [h.xe, hk]
    congr 1
    rw [Nat.min_comm]
    exact List.take_eq_take_min.symm.trans rfl |>.trans (by first | rfl | simp)
  have hll : ((g.exts.take 12).map cutE).length = L.length := by rw [← hxe, List.length_map]
  have hset := h.c.set 38 (by rw [gCells_len _ _ _ _ _ _ _ _ hrl]; decide) (.slice Ax L.length cx)
  rw [(gCells_set g.minor g.rnd _ _ _ _ _ _ (.slice Ax L.length cx) hrl).2.2.2.2.2] at hset
  have hg : gCells g.minor g.rnd (.slice a.a1 (g.ses.take 40).length a.c1) (.slice a.a2 (g.suites.take 40).length a.c2) (.slice a.a3 (g.meth.take 300).length a.c3) (.string ⟨(g.host.take 100).toArray⟩) (.int .i64 g.pos) (.slice Ax L.length cx) = (grtA (cutG g) ⟨a.a1, a.c1, a.a2, a.c2, a.a3, a.c3, Ax, cx⟩).toList := by
    have := gCells_grt (cutG g) ⟨a.a1, a.c1, a.a2, a.c2, a.a3, a.c3, Ax, cx⟩ hrl
    rw [← this]
    unfold cutG
    dsimp only
    rw [hll]
  have hcs := hset.cs
  rw [hg] at hcs
  have hrow := hset.shp.row hcs rfl
  have hrx : RowV 2 (wr.setCell ⟨w.heap.size, 38, none⟩ (.slice Ax L.length cx)) w2.heap.size Ax L.length cx (xcV L) := h.x.set (by omega)
  have hq8 : ∀ k, k ≠ w.heap.size → (wr.setCell ⟨w.heap.size, 38, none⟩ (.slice Ax L.length cx)).heap[k]? = wr.heap[k]? := fun k hk => Below.heap_setCell _ _ _ _ hk
  have s8 : (wr.setCell ⟨w.heap.size, 38, none⟩ (.slice Ax L.length cx)).heap.size = wr.heap.size := by simp [World.setCell]
  generalize hA : grtA (cutG g) ⟨a.a1, a.c1, a.a2, a.c2, a.a3, a.c3, Ax, cx⟩ = arr at *
  generalize wr.setCell ⟨w.heap.size, 38, none⟩ (.slice Ax L.length cx) = w8 at *
  have hret := setRow_heap w8 (w.heap.size + 1) _ arr _ _ hset.ret
  have h9 : ∀ k, k ≠ w.heap.size + 1 → (w8.setRow (w.heap.size + 1) arr).heap[k]? = w8.heap[k]? := fun k hk => setRow_other _ _ _ _ hk
  have s9 : (w8.setRow (w.heap.size + 1) arr).heap.size = wr.heap.size := by rw [size_setRow, s8]
  have hbl : Below w.heap.size w (w8.setRow (w.heap.size + 1) arr) := below_setRow7 hset.bel (Nat.le_succ _) _
  generalize w8.setRow (w.heap.size + 1) arr = w9 at *
  have h98 : ∀ k, w2.heap.size ≤ k → w9.heap[k]? = wr.heap[k]? := fun k hk => (h9 k (by omega)).trans (hq8 k (by omega))
  refine ⟨hrow, hset.ret, hret, hbl, ⟨?_, ?_, ?_, ?_, ?_, hrl⟩⟩
  · exact (h0.ses.take 40).keep fun k hk => ⟨hbl.block k (hS k hk), .inl hk⟩
  · exact (h0.sui.take 40).keep fun k hk => ⟨hbl.block k (hS k hk), .inl hk⟩
  · have := h0.su2
    show (g.suites.take 40).length ≤ a.c2
    rw [List.length_take]
    omega
  · exact (h0.met.take 300).keep fun k hk => ⟨hbl.block k (hS k hk), .inl hk⟩
  · have hrx9 : RowV 2 w9 w2.heap.size Ax L.length cx (xcV L) := h.x.keep (by omega) fun q e => h98 q (h.x.lt e).1
    have := hrx9.extsS fun x hx => (h.rb x hx).keep fun q hq => ⟨h98 q hq.1, hq.1, by have := hq.2.1; omega⟩
    rw [hxe] at this
    exact this.keep fun q hq => ⟨rfl, .inr ⟨by have := hq.1; omega, hq.2⟩⟩
set_option maxRecDepth 100000 in
set_option maxHeartbeats 2000000 in
theorem cut7_any {S : Nat → Prop} {w : World} {g : Grt} {a : Adr} (hc : GrC S w g a) (hS : ∀ k, S k → k < w.heap.size) : Calls Tryz.prog 18 #[.agg (grtA g a)] w (CutQ S g w) := by
  have h := hc.grB hS
  have HCC := Lib.hid hc
  have HSS := Lib.hid hS
  clear hc hS
  have C0 := Lib.hid (cst_new w g a h.rl)
  have H0 := Lib.hid h
  obtain ⟨I1, hj0, hj1, hj2, hj3⟩ := info_parts infoE
  have hrl := h.rl
  have l1 := h.ses.cap
  have l2 := h.su2
  have l3 := h.met.cap
  obtain ⟨m1, hm1⟩ : ∃ x, x = min g.ses.length 40 := ⟨_, rfl⟩
  obtain ⟨m2, hm2⟩ : ∃ x, x = min g.suites.length 40 := ⟨_, rfl⟩
  obtain ⟨m3, hm3⟩ : ∃ x, x = min g.meth.length 300 := ⟨_, rfl⟩
  obtain ⟨m5, hm5⟩ : ∃ x, x = min g.host.length 100 := ⟨_, rfl⟩
  have e1 : min (g.ses.length : Int) 40 = m1 := by omega
  have e2 : min (g.suites.length : Int) 40 = m2 := by omega
  have e3 : min (g.meth.length : Int) 300 = m3 := by omega
  have e5 : min (g.host.length : Int) 100 = m5 := by omega
  have k1 : (m1 : Int) ≤ a.c1 := by omega
  have k2 : (m2 : Int) ≤ a.c2 := by omega
  have k3 : (m3 : Int) ≤ a.c3 := by omega
  have k5 : (m5 : Int) ≤ g.host.length := by omega
  have HM1 := Lib.hid hm1
  have HM2 := Lib.hid hm2
  have HM3 := Lib.hid hm3
  have HM5 := Lib.hid hm5
  clear hm1 hm2 hm3 hm5 l1 l2 l3 h
  obtain ⟨mi, rnd, ses, su, me, ho, pos, ex⟩ := g
  obtain ⟨a1, k1', a2, k2', a3, k3', a4, k4'⟩ := a
  dsimp only at *
  generalize hsl : ses.length = sl at *
  generalize hul : su.length = ul at *
  generalize hml : me.length = ml at *
  go_enter Tryz.func18, Tryz.ntmps18
  go_wp2_with (refine wpList_alloc7 rfl rfl (w.heap.size + 1) (by simp) ?_)
  generalize (w.alloc (.cells (grtA ⟨mi, rnd, ses, su, me, ho, pos, ex⟩ ⟨a1, k1', a2, k2', a3, k3', a4, k4'⟩) 28)).alloc (.cells (gArr 0) 28) = w0 at *
  have HRLL : Hid (∀ (s u m h p x : Value), (gCells mi rnd s u m h p x).length = 39) := Lib.hid fun s u m h p x => gCells_len mi rnd s u m h p x hrl
  have d33 : w0.cell? ⟨w.heap.size, 33, none⟩ = some (.slice a1 sl k1') := (C0.out.cs.cell 33 (by rw [HRLL.out]; decide)).trans (gCells_at mi rnd _ _ _ _ _ _ hrl).1
  have d35 : w0.cell? ⟨w.heap.size, 35, none⟩ = some (.slice a3 ml k3') := (C0.out.cs.cell 35 (by rw [HRLL.out]; decide)).trans (gCells_at mi rnd _ _ _ _ _ _ hrl).2.2.1
  have f33 : w0.frozen? ⟨w.heap.size, 33, none⟩ = false := C0.out.cs.free 33 (by rw [HRLL.out]; decide)
  have f35 : w0.frozen? ⟨w.heap.size, 35, none⟩ = false := C0.out.cs.free 35 (by rw [HRLL.out]; decide)
  refine wp_region_C [15, 17] (fun w' => w'.cell? ⟨w.heap.size, 33, none⟩ = some (.slice a1 sl k1') ∧ w'.cell? ⟨w.heap.size, 35, none⟩ = some (.slice a3 ml k3')) (by kernel_rfl) ?_
  have z1 : (0 : Int) ≤ m1 := by omega
  have z3 : (0 : Int) ≤ m3 := by omega
  have hC : w0.drew.cell? ⟨w.heap.size, 33, none⟩ = some (.slice a1 sl k1') ∧ w0.drew.cell? ⟨w.heap.size, 35, none⟩ = some (.slice a3 ml k3') := ⟨d33, d35⟩
  refine wpAnyC_pure (i := 0) (v := .pointer (some ⟨w.heap.size, 33, none⟩)) rfl (by kernel_rfl) (by kernel_rfl) (by kernel_rfl) (by kernel_rfl) (fun _ _ _ h => h) (Or.inl ⟨by rfl, fun w' hw => by go_simp⟩) (fun _ => hC) ?_
  refine wpAnyC_load (i := 1) (v := .slice a1 sl k1') rfl (by kernel_rfl) (by kernel_rfl) (by kernel_rfl) (by kernel_rfl) (fun _ _ _ h => h) (Or.inl ⟨by rfl, fun w' hw => by have hc := hw.1; go_simp⟩) hC ?_
  refine wpAnyC_pure (i := 2) (v := .pointer (some ⟨w.heap.size, 33, none⟩)) rfl (by kernel_rfl) (by kernel_rfl) (by kernel_rfl) (by kernel_rfl) (fun _ _ _ h => h) (Or.inl ⟨by rfl, fun w' hw => by go_simp⟩) (fun _ => hC) ?_
  refine wpAnyC_load (i := 3) (v := .slice a1 sl k1') rfl (by kernel_rfl) (by kernel_rfl) (by kernel_rfl) (by kernel_rfl) (fun _ _ _ h => h) (Or.inl ⟨by rfl, fun w' hw => by have hc := hw.1; go_simp⟩) hC ?_
  refine wpAnyC_pure (i := 4) (v := .int .i64 sl) rfl (by kernel_rfl) (by kernel_rfl) (by kernel_rfl) (by kernel_rfl) (fun _ _ _ h => h) (Or.inl ⟨by rfl, fun w' hw => by go_simp⟩) (fun _ => hC) ?_
  refine wpAnyC_pure (i := 5) (v := .int .i64 m1) rfl (by kernel_rfl) (by kernel_rfl) (by kernel_rfl) (by kernel_rfl) (fun _ _ _ h => h) (Or.inl ⟨by rfl, fun w' hw => by go_simp⟩) (fun _ => hC) ?_
  refine wpAnyC_pure (i := 6) (v := .slice a1 m1 k1') rfl (by kernel_rfl) (by kernel_rfl) (by kernel_rfl) (by kernel_rfl) (fun _ _ _ h => h) (Or.inl ⟨by rfl, fun w' hw => by go_simp⟩) (fun _ => hC) ?_
  refine wpAnyC_pure (i := 7) (v := .pointer (some ⟨w.heap.size, 35, none⟩)) rfl (by kernel_rfl) (by kernel_rfl) (by kernel_rfl) (by kernel_rfl) (fun _ _ _ h => h) (Or.inl ⟨by rfl, fun w' hw => by go_simp⟩) (fun _ => hC) ?_
  refine wpAnyC_load (i := 8) (v := .slice a3 ml k3') rfl (by kernel_rfl) (by kernel_rfl) (by kernel_rfl) (by kernel_rfl) (fun _ _ _ h => h) (Or.inl ⟨by rfl, fun w' hw => by have hc := hw.2; go_simp⟩) hC ?_
  refine wpAnyC_pure (i := 9) (v := .pointer (some ⟨w.heap.size, 35, none⟩)) rfl (by kernel_rfl) (by kernel_rfl) (by kernel_rfl) (by kernel_rfl) (fun _ _ _ h => h) (Or.inl ⟨by rfl, fun w' hw => by go_simp⟩) (fun _ => hC) ?_
  refine wpAnyC_load (i := 10) (v := .slice a3 ml k3') rfl (by kernel_rfl) (by kernel_rfl) (by kernel_rfl) (by kernel_rfl) (fun _ _ _ h => h) (Or.inl ⟨by rfl, fun w' hw => by have hc := hw.2; go_simp⟩) hC ?_
  refine wpAnyC_pure (i := 11) (v := .int .i64 ml) rfl (by kernel_rfl) (by kernel_rfl) (by kernel_rfl) (by kernel_rfl) (fun _ _ _ h => h) (Or.inl ⟨by rfl, fun w' hw => by go_simp⟩) (fun _ => hC) ?_
  refine wpAnyC_pure (i := 12) (v := .int .i64 m3) rfl (by kernel_rfl) (by kernel_rfl) (by kernel_rfl) (by kernel_rfl) (fun _ _ _ h => h) (Or.inl ⟨by rfl, fun w' hw => by go_simp⟩) (fun _ => hC) ?_
  refine wpAnyC_pure (i := 13) (v := .slice a3 m3 k3') rfl (by kernel_rfl) (by kernel_rfl) (by kernel_rfl) (by kernel_rfl) (fun _ _ _ h => h) (Or.inl ⟨by rfl, fun w' hw => by go_simp⟩) (fun _ => hC) ?_
  refine wpAnyC_pure (i := 14) (v := .pointer (some ⟨w.heap.size, 33, none⟩)) rfl (by kernel_rfl) (by kernel_rfl) (by kernel_rfl) (by kernel_rfl) (fun _ _ _ h => h) (Or.inl ⟨by rfl, fun w' hw => by go_simp⟩) (fun _ => hC) ?_
  refine wpAnyC_store (i := 15) (by kernel_rfl) rfl (by kernel_rfl) (fun K hK => ?_)
  go_simp
  refine hK.out _ _ ?_
  clear hK K
  refine wpAnyC_pure (i := 16) (v := .pointer (some ⟨w.heap.size, 35, none⟩)) rfl (by kernel_rfl) (by kernel_rfl) (by kernel_rfl) (by kernel_rfl) (fun _ _ _ h => h) (Or.inl ⟨by rfl, fun w' hw => by go_simp⟩) (fun hN => absurd (hN 15 (by decide)) (by decide)) ?_
  refine wpAnyC_store (i := 17) (by kernel_rfl) rfl (by kernel_rfl) (fun K hK => ?_)
  go_simp
  refine hK.out _ _ ?_
  clear hK K
  refine wpAnyC_done (by kernel_rfl) ?_ _
  have C1 : Hid (Cst w ((w0.setCell ⟨w.heap.size, 33, none⟩ (.slice a1 m1 k1')).setCell ⟨w.heap.size, 35, none⟩ (.slice a3 m3 k3')).drew (gCells mi rnd (.slice a1 m1 k1') (.slice a2 ul k2') (.slice a3 m3 k3') (.string ⟨ho.toArray⟩) (.int .i64 pos) (.slice a4 ex.length k4'))) := Lib.hid (by
    have h1 := C0.out.set 33 (by rw [HRLL.out]; decide) (.slice a1 m1 k1')
    rw [(gCells_set mi rnd _ _ _ _ _ _ (.slice a1 m1 k1') hrl).1] at h1
    have h2 := h1.set 35 (by rw [HRLL.out]; decide) (.slice a3 m3 k3')
    rw [(gCells_set mi rnd _ _ _ _ _ _ (.slice a3 m3 k3') hrl).2.2.1] at h2
    exact h2.drew)
  clear C0 d33 d35 f33 f35 hC
  generalize ((w0.setCell ⟨w.heap.size, 33, none⟩ (.slice a1 m1 k1')).setCell ⟨w.heap.size, 35, none⟩ (.slice a3 m3 k3')).drew = w1 at *
  go_wp2_with fail
  have d34 : w1.cell? ⟨w.heap.size, 34, none⟩ = some (.slice a2 ul k2') := (C1.out.cs.cell 34 (by rw [HRLL.out]; decide)).trans (gCells_at mi rnd _ _ _ _ _ _ hrl).2.1
  have d36 : w1.cell? ⟨w.heap.size, 36, none⟩ = some (.string ⟨ho.toArray⟩) := (C1.out.cs.cell 36 (by rw [HRLL.out]; decide)).trans (gCells_at mi rnd _ _ _ _ _ _ hrl).2.2.2.1
  have f34 : w1.frozen? ⟨w.heap.size, 34, none⟩ = false := C1.out.cs.free 34 (by rw [HRLL.out]; decide)
  have f36 : w1.frozen? ⟨w.heap.size, 36, none⟩ = false := C1.out.cs.free 36 (by rw [HRLL.out]; decide)
  have hEX : (⟨ho.toArray⟩ : ByteArray).extract 0 m5 = ⟨(ho.take m5).toArray⟩ := by rw [ByteArray.extract_mk]; rfl
  have hSZ : (⟨ho.toArray⟩ : ByteArray).size = ho.length := mk_size ho
  have z2 : (0 : Int) ≤ m2 := by omega
  have z5 : (0 : Int) ≤ m5 := by omega
  refine wp_region_C [15, 17] (fun w' => w'.cell? ⟨w.heap.size, 34, none⟩ = some (.slice a2 ul k2') ∧ w'.cell? ⟨w.heap.size, 36, none⟩ = some (.string ⟨ho.toArray⟩)) (by kernel_rfl) ?_
  have hC : w1.drew.cell? ⟨w.heap.size, 34, none⟩ = some (.slice a2 ul k2') ∧ w1.drew.cell? ⟨w.heap.size, 36, none⟩ = some (.string ⟨ho.toArray⟩) := ⟨d34, d36⟩
  refine wpAnyC_pure (i := 0) (v := .pointer (some ⟨w.heap.size, 34, none⟩)) rfl (by kernel_rfl) (by kernel_rfl) (by kernel_rfl) (by kernel_rfl) (fun _ _ _ h => h) (Or.inl ⟨by rfl, fun w' hw => by go_simp⟩) (fun _ => hC) ?_
  refine wpAnyC_load (i := 1) (v := .slice a2 ul k2') rfl (by kernel_rfl) (by kernel_rfl) (by kernel_rfl) (by kernel_rfl) (fun _ _ _ h => h) (Or.inl ⟨by rfl, fun w' hw => by have hc := hw.1; go_simp⟩) hC ?_
  refine wpAnyC_pure (i := 2) (v := .pointer (some ⟨w.heap.size, 34, none⟩)) rfl (by kernel_rfl) (by kernel_rfl) (by kernel_rfl) (by kernel_rfl) (fun _ _ _ h => h) (Or.inl ⟨by rfl, fun w' hw => by go_simp⟩) (fun _ => hC) ?_
  refine wpAnyC_load (i := 3) (v := .slice a2 ul k2') rfl (by kernel_rfl) (by kernel_rfl) (by kernel_rfl) (by kernel_rfl) (fun _ _ _ h => h) (Or.inl ⟨by rfl, fun w' hw => by have hc := hw.1; go_simp⟩) hC ?_
  refine wpAnyC_pure (i := 4) (v := .int .i64 ul) rfl (by kernel_rfl) (by kernel_rfl) (by kernel_rfl) (by kernel_rfl) (fun _ _ _ h => h) (Or.inl ⟨by rfl, fun w' hw => by go_simp⟩) (fun _ => hC) ?_
  refine wpAnyC_pure (i := 5) (v := .int .i64 m2) rfl (by kernel_rfl) (by kernel_rfl) (by kernel_rfl) (by kernel_rfl) (fun _ _ _ h => h) (Or.inl ⟨by rfl, fun w' hw => by go_simp⟩) (fun _ => hC) ?_
  refine wpAnyC_pure (i := 6) (v := .slice a2 m2 k2') rfl (by kernel_rfl) (by kernel_rfl) (by kernel_rfl) (by kernel_rfl) (fun _ _ _ h => h) (Or.inl ⟨by rfl, fun w' hw => by go_simp⟩) (fun _ => hC) ?_
  refine wpAnyC_pure (i := 7) (v := .pointer (some ⟨w.heap.size, 36, none⟩)) rfl (by kernel_rfl) (by kernel_rfl) (by kernel_rfl) (by kernel_rfl) (fun _ _ _ h => h) (Or.inl ⟨by rfl, fun w' hw => by go_simp⟩) (fun _ => hC) ?_
  refine wpAnyC_load (i := 8) (v := .string ⟨ho.toArray⟩) rfl (by kernel_rfl) (by kernel_rfl) (by kernel_rfl) (by kernel_rfl) (fun _ _ _ h => h) (Or.inl ⟨by rfl, fun w' hw => by have hc := hw.2; go_simp⟩) hC ?_
  refine wpAnyC_pure (i := 9) (v := .pointer (some ⟨w.heap.size, 36, none⟩)) rfl (by kernel_rfl) (by kernel_rfl) (by kernel_rfl) (by kernel_rfl) (fun _ _ _ h => h) (Or.inl ⟨by rfl, fun w' hw => by go_simp⟩) (fun _ => hC) ?_
  refine wpAnyC_load (i := 10) (v := .string ⟨ho.toArray⟩) rfl (by kernel_rfl) (by kernel_rfl) (by kernel_rfl) (by kernel_rfl) (fun _ _ _ h => h) (Or.inl ⟨by rfl, fun w' hw => by have hc := hw.2; go_simp⟩) hC ?_
  refine wpAnyC_pure (i := 11) (v := .int .i64 ho.length) rfl (by kernel_rfl) (by kernel_rfl) (by kernel_rfl) (by kernel_rfl) (fun _ _ _ h => h) (Or.inl ⟨by rfl, fun w' hw => by go_simp⟩) (fun _ => hC) ?_
  refine wpAnyC_pure (i := 12) (v := .int .i64 m5) rfl (by kernel_rfl) (by kernel_rfl) (by kernel_rfl) (by kernel_rfl) (fun _ _ _ h => h) (Or.inl ⟨by rfl, fun w' hw => by go_simp⟩) (fun _ => hC) ?_
  refine wpAnyC_pure (i := 13) (v := .string ⟨(ho.take m5).toArray⟩) rfl (by kernel_rfl) (by kernel_rfl) (by kernel_rfl) (by kernel_rfl) (fun _ _ _ h => h) (Or.inl ⟨by rfl, fun w' hw => by go_simp⟩) (fun _ => hC) ?_
  refine wpAnyC_pure (i := 14) (v := .pointer (some ⟨w.heap.size, 34, none⟩)) rfl (by kernel_rfl) (by kernel_rfl) (by kernel_rfl) (by kernel_rfl) (fun _ _ _ h => h) (Or.inl ⟨by rfl, fun w' hw => by go_simp⟩) (fun _ => hC) ?_
  refine wpAnyC_store (i := 15) (by kernel_rfl) rfl (by kernel_rfl) (fun K hK => ?_)
  go_simp
  refine hK.out _ _ ?_
  clear hK K
  refine wpAnyC_pure (i := 16) (v := .pointer (some ⟨w.heap.size, 36, none⟩)) rfl (by kernel_rfl) (by kernel_rfl) (by kernel_rfl) (by kernel_rfl) (fun _ _ _ h => h) (Or.inl ⟨by rfl, fun w' hw => by go_simp⟩) (fun hN => absurd (hN 15 (by decide)) (by decide)) ?_
  refine wpAnyC_store (i := 17) (by kernel_rfl) rfl (by kernel_rfl) (fun K hK => ?_)
  go_simp
  refine hK.out _ _ ?_
  clear hK K
  refine wpAnyC_done (by kernel_rfl) ?_ _
  have C2 : Hid (Cst w ((w1.setCell ⟨w.heap.size, 34, none⟩ (.slice a2 m2 k2')).setCell ⟨w.heap.size, 36, none⟩ (.string ⟨(ho.take m5).toArray⟩)).drew (gCells mi rnd (.slice a1 m1 k1') (.slice a2 m2 k2') (.slice a3 m3 k3') (.string ⟨(ho.take m5).toArray⟩) (.int .i64 pos) (.slice a4 ex.length k4'))) := Lib.hid (by
    have h1 := C1.out.set 34 (by rw [HRLL.out]; decide) (.slice a2 m2 k2')
    rw [(gCells_set mi rnd _ _ _ _ _ _ (.slice a2 m2 k2') hrl).2.1] at h1
    have h2 := h1.set 36 (by rw [HRLL.out]; decide) (.string ⟨(ho.take m5).toArray⟩)
    rw [(gCells_set mi rnd _ _ _ _ _ _ (.string ⟨(ho.take m5).toArray⟩) hrl).2.2.2.1] at h2
    exact h2.drew)
  clear C1 d34 d36 f34 f36 hC hEX hSZ
  generalize ((w1.setCell ⟨w.heap.size, 34, none⟩ (.slice a2 m2 k2')).setCell ⟨w.heap.size, 36, none⟩ (.string ⟨(ho.take m5).toArray⟩)).drew = w2 at *
  go_wp2_with fail
  obtain ⟨N, hN⟩ : ∃ x, x = min ex.length 12 := ⟨_, rfl⟩
  have HN := Lib.hid hN
  have HLO := Lib.hid C2.out.gt
  have HL1 : Hid ((ses.take 40).length = m1 ∧ (su.take 40).length = m2 ∧ (me.take 300).length = m3 ∧ ho.take m5 = ho.take 100) := Lib.hid ⟨by rw [List.length_take, HM1.out, hsl]; omega, by rw [List.length_take, HM2.out, hul]; omega, by rw [List.length_take, HM3.out, hml]; omega, by
    rw [HM5.out, Nat.min_comm]; exact List.take_eq_take_min.symm⟩
  have Q0 : Hid (Cl w w2 w2 (gCells mi rnd (.slice a1 m1 k1') (.slice a2 m2 k2') (.slice a3 m3 k3') (.string ⟨(ho.take m5).toArray⟩) (.int .i64 pos) (.slice a4 ex.length k4')) ex 0 [] none 0) := Lib.hid ⟨C2.out, Below.refl _ _, RowV.nil 2 _ _, (fun y hy => by cases hy), rfl⟩
  clear C2 HM1 HM2 HM3 HM5 e1 e2 e3 e5 k1 k2 k3 k5 z1 z2 z3 z5 hsl hul hml
  go_loopg [3, 4] N (fun f v i wr => ∃ (k : Nat) (L : List Xc) (Ax : Option Addr) (cx : Nat), k + f = N ∧ i = .int .i64 k ∧ v = .slice Ax L.length cx ∧ Hid (Cl w w2 wr (gCells mi rnd (.slice a1 m1 k1') (.slice a2 m2 k2') (.slice a3 m3 k3') (.string ⟨(ho.take m5).toArray⟩) (.int .i64 pos) (.slice a4 ex.length k4')) ex k L Ax cx))
  case atStart => exact ⟨0, [], none, 0, by omega, rfl, rfl, Q0⟩
  case round =>
    obtain ⟨k, L, Ax, cx, hk, rfl, rfl, hst⟩ := hrel
    clear Q0
    have HX := Lib.hid hst.out
    have d38 : wr.cell? ⟨w.heap.size, 38, none⟩ = some (.slice a4 ex.length k4') := (hst.out.c.cs.cell 38 (by rw [HRLL.out]; decide)).trans (gCells_at mi rnd _ _ _ _ _ _ hrl).2.2.2.2.2
    have f38 : wr.frozen? ⟨w.heap.size, 38, none⟩ = false := hst.out.c.cs.free 38 (by rw [HRLL.out]; decide)
    clear hst
    by_cases hlt : k < N
    · have hke : k < ex.length := by omega
      obtain ⟨b, off, Ad, cd, ea, hbl, e0, e1, hd⟩ := H0.out.ext k hke
      dsimp only at ea
      subst ea
      have q1 : (k : Int) < ex.length := by omega
      have q2 : (k : Int) < 12 := by omega
      have q0 : (0 : Int) ≤ k := by omega
      dsimp only at e0 e1 hd
      have HCE : Hid (cutE ex[k] = ((ex[k]).1, (ex[k]).2.take 200)) := Lib.hid rfl
      generalize ex[k].1 = z at *
      generalize hdd : ex[k].2 = d at *
      clear hdd
      obtain ⟨md, hmd⟩ : ∃ x, x = min d.length 200 := ⟨_, rfl⟩
      have HMD : Hid ((d.take 200).length = md ∧ d.take 200 = d.take md) := Lib.hid ⟨by rw [List.length_take]; omega, by rw [hmd, Nat.min_comm]; exact List.take_eq_take_min⟩
      have em : min (d.length : Int) 200 = md := by omega
      have hcap := hd.cap
      have hmc : (md : Int) ≤ cd := by omega
      have hm0 : (0 : Int) ≤ md := by omega
      have hm2 : md ≤ 200 := by omega
      have HSP : Hid (∀ wx, Below w.heap.size w wx → wx.cell? ⟨b, off + k * 2, none⟩ = some (.int .i64 z) ∧ wx.cell? ⟨b, off + k * 2 + 1, none⟩ = some (.slice Ad d.length cd)) := Lib.hid fun wx hb => ⟨(hb.cell (p := ⟨b, off + k * 2, none⟩) hbl).trans e0, (hb.cell (p := ⟨b, off + k * 2 + 1, none⟩) hbl).trans e1⟩
      have HXD := Lib.hid (HX.out.low (below_drewN (Below.refl wr.heap.size wr) 1))
      have CC : Hid (Calls Tryz.prog 10 #[.slice Ad md cd] wr.drew fun e w' => ∃ (A : Option Addr) (c : Nat), e = .returned (.slice A md c) ∧ RowG w' wr.drew.heap.size A c (d.take md) ∧ Below wr.drew.heap.size wr.drew w') := Lib.hid ((copyB_any (n := md) (((hd.keep fun k hk => HXD.out.c.bel.block k hk).mono HXD.out.c.bel.size).take md) (by rw [List.length_take]; omega) (by rw [List.length_take]; omega)).mono fun e w' hh => madeN (by rw [List.length_take]; omega) hh)
      have HDT : Hid ((d.take md).length = md) := Lib.hid (by rw [List.length_take]; omega)
      have HD0 := Lib.hid (And.intro (show wr.drew.cell? ⟨w.heap.size, 38, none⟩ = some (.slice (some ⟨b, off, none⟩) ex.length k4') from d38) (HSP.out _ HXD.out.c.bel))
      have HKX := Lib.hid hke
      have hll : L.length ≤ 12 := by
        have := congrArg List.length HX.out.xe
        rw [List.length_map, List.length_map, List.length_take] at this
        omega
      clear hd e0 e1 hbl hmd hcap
      generalize hdl : d.length = dl at *
      clear hdl
      go_wp2_with fail
      clear d38 f38
      go_region_held3 (fun w' => w'.cell? ⟨w.heap.size, 38, none⟩ = some (.slice (some ⟨b, off, none⟩) ex.length k4') ∧ w'.cell? ⟨b, off + k * 2, none⟩ = some (.int .i64 z) ∧ w'.cell? ⟨b, off + k * 2 + 1, none⟩ = some (.slice Ad dl cd)) (first | exact HD0.out | exact HD1.out | exact HD2.out | exact HD3.out) ((first
        | (go_at_call 10; refine CC.out.mono ?_; rintro e w7 ⟨A7, c7, rfl, hr, hb⟩; have R7 := Lib.hid hr; have X7 := Lib.hid (HXD.out.low hb); have HD1 := Lib.hid (And.intro ((X7.out.c.cs.cell 38 (by rw [HRLL.out]; decide)).trans (gCells_at mi rnd _ _ _ _ _ _ hrl).2.2.2.2.2) (HSP.out _ X7.out.c.bel)); have X7a := Lib.hid (X7.out.low (below_new w7 (.cells #[.int .i64 z, .slice A7 md c7] 62))); have HD2 := Lib.hid (And.intro ((X7a.out.c.cs.cell 38 (by rw [HRLL.out]; decide)).trans (gCells_at mi rnd _ _ _ _ _ _ hrl).2.2.2.2.2) (HSP.out _ X7a.out.c.bel)); clear hr hb)
        | (refine step_pushV7 rfl (.tmp 48) (.tmp 72) 26 62 26 rfl I1 _ 32 Tryz.underlying26 hj0 hj1 hj2 hj3 rfl (by decide) _ w2.heap.size Ax cx L.length 1 (xcV L) [.int .i64 z, .slice A7 md c7] (.slice (some ⟨w7.heap.size, 0, none⟩) 1 1) rfl rfl rfl X7a.out.x (src_ext w7 z A7 md c7) X7a.out.b.size (by omega) ?_; intro A8 c8 w8 hr8 hb8; have HE := Lib.hid (cl_push (y := ⟨z, A7, c7, d.take md⟩) X7.out HKX.out HLO.out (rbs_own (w := w) R7.out HXD.out.b.size (fun g e => (HXD.out.x.lt e).2) rfl) (by rw [HCE.out, HMD.out.2]; rfl) hb8 (by rw [show (⟨z, A7, c7, d.take md⟩ : Xc).d.length = md from HDT.out]; exact hr8)); have HD3 := Lib.hid (And.intro ((HE.out.c.cs.cell 38 (by rw [HRLL.out]; decide)).trans (gCells_at mi rnd _ _ _ _ _ _ hrl).2.2.2.2.2) (HSP.out _ HE.out.c.bel)); clear hr8 hb8)))
      go_wp2_with fail
      go_roundg (N - (k + 1))
      case rel => exact ⟨k + 1, _, A8, c8, by omega, by go_num, by rw [List.length_append]; rfl, HE⟩
      case measure => omega
    · obtain rfl : k = N := by omega
      have hnn : k = min ex.length 12 := HN.out
      have FIN := Lib.hid (cl_fin (g := ⟨mi, rnd, ses, su, me, ho, pos, ex⟩) (a := ⟨a1, k1', a2, k2', a3, k3', a4, k4'⟩) HCC.out HSS.out HLO.out hnn (by
        have hx := HX.out
        dsimp only
        rw [HL1.out.1, HL1.out.2.1, HL1.out.2.2.1, ← HL1.out.2.2.2]
        exact hx))
      have HGI := Lib.hid (infoGA (cutG ⟨mi, rnd, ses, su, me, ho, pos, ex⟩) ⟨a1, k1', a2, k2', a3, k3', Ax, cx⟩)
      have HGO := Lib.hid (grtA_one (cutG ⟨mi, rnd, ses, su, me, ho, pos, ex⟩) ⟨a1, k1', a2, k2', a3, k3', Ax, cx⟩)
      dsimp only at FIN
      generalize hG : cutG ⟨mi, rnd, ses, su, me, ho, pos, ex⟩ = G at *
      generalize hA : (⟨a1, k1', a2, k2', a3, k3', Ax, cx⟩ : Adr) = ad at *
      have HGE := Lib.hid hG
      have hcs : (¬ (k : Int) < ex.length) ∨ ((k : Int) < ex.length ∧ ¬ (k : Int) < 12) := by omega
      clear HX H0 hlt hk hnn hG hA HCC
      rcases hcs with hlt | ⟨hlt, hlt2⟩
      all_goals
        go_wp2_with (first
          | (refine wpList_load_row rfl 28 (.tmp 1) rfl w.heap.size rfl 28 _ (0, 0) _ FIN.out.1 Tryz.underlying28 rfl HGI.out ?_)
          | (refine wpList_store_row rfl 28 (.tmp 2) (.tmp 76) rfl (w.heap.size + 1) (grtA G ad) rfl rfl 28 _ FIN.out.2.1 HGI.out rfl HGO.out ?_))
        refine bodyPost_ret (results_cell_row rfl _ _ (w.heap.size + 1) 28 (grtA G ad) (0, 0) _ rfl FIN.out.2.2.1 Tryz.underlying28 rfl HGI.out) rfl ?_
        exact ⟨ad, by rw [HGE.out], FIN.out.2.2.2.1, by rw [HGE.out]; exact FIN.out.2.2.2.2⟩
end Go.Proofs.YtiakbmllpnabnaaGreatDoor
namespace Go.Proofs.YtiakbmllpnabnaaGreatDoor
open Go Go.RowKit

set_option maxRecDepth 100000 in
set_option maxHeartbeats 2000000 in
theorem helloWrites_any {w : World} (hG : Gl w) {g : Grt} {a : Adr} (h : GrC (fun k => k < w.heap.size) w g a) (at_ : Int) (y : UInt8) :
    Calls Tryz.prog 4 #[.agg (grtA g a), .int .i64 at_, .int .u8 (y.toNat : Int)] w (BoolP true w) := by
  have x0 := below_new w (.cells (grtA g a) 28)
  have xs : (w.alloc (.cells (grtA g a) 28)).heap.size = w.heap.size + 1 := by simp
  have HQ := Lib.hid (heap_alloc_new w (.cells (grtA g a) 28))
  have C1 := Lib.hid (cut7_any (h.keep (S' := fun k => k < w.heap.size) fun k hk => ⟨x0.block k hk, hk⟩) (fun k hk => by rw [xs]; exact Nat.lt_succ_of_lt hk))
  have B0 := Lib.hid x0
  have XS := Lib.hid xs
  have HG := Lib.hid hG
  have HI0 := Lib.hid (infoGA g a)
  clear h x0 xs hG
  have HI := Lib.hid (infoGA (cutG g))
  have HO := Lib.hid (grtA_one (cutG g))
  have HSM := Lib.hid (cutG_sm g)
  have H2 := Lib.hid (cutG_twice g)
  unfold CutQ at C1
  generalize hcg : cutG g = G at *
  clear hcg
  obtain ⟨mi, rnd, ses, su, me, ho, pos, ex⟩ := g
  obtain ⟨a1, k1, a2, k2, a3, k3, a4, k4⟩ := a
  go_enter Tryz.func4, Tryz.ntmps4
  go_wp2_with (refine wpList_load_row rfl 28 (.tmp 3) rfl w.heap.size rfl 28 _ (0, 0) _ HQ.out Tryz.underlying28 rfl HI0.out ?_)
  refine C1.out.mono ?_
  generalize w.alloc (.cells (grtA ⟨mi, rnd, ses, su, me, ho, pos, ex⟩ ⟨a1, k1, a2, k2, a3, k3, a4, k4⟩) 28) = w0 at *
  rintro e w1 ⟨b1, rfl, hb1, hg1⟩
  have HB1 := Lib.hid hb1
  have Q1 := Lib.hid ((hb1.block w.heap.size (by rw [XS.out]; exact Nat.lt_succ_self _)).trans HQ.out)
  have ST1 := Lib.hid (setRow_heap w1 w.heap.size _ (grtA G b1) _ _ Q1.out)
  have HW1 : Hid (Below w.heap.size w (w1.setRow w.heap.size (grtA G b1))) := Lib.hid (below_setRow7 (B0.out.trans (hb1.mono (by rw [XS.out]; omega))) (Nat.le_refl _) _)
  have G1 : Hid (GrC (fun k => k ≠ w.heap.size ∧ k < (w1.setRow w.heap.size (grtA G b1)).heap.size) (w1.setRow w.heap.size (grtA G b1)) G b1) := Lib.hid (hg1.keep fun k hk => by
    have hne : k ≠ w.heap.size := by
      have := XS.out
      rcases hk with hk | hk <;> omega
    have hlt : k < w1.heap.size := by
      have := XS.out
      have := hb1.size
      rcases hk with hk | hk <;> omega
    exact ⟨setRow_other _ _ _ _ hne, hne, by rw [size_setRow]; exact hlt⟩)
  have C2 := Lib.hid (cut7_any G1.out fun k hk => hk.2)
  unfold CutQ at C2
  rw [H2.out] at C2
  have LQ1 : Hid (w.heap.size < (w1.setRow w.heap.size (grtA G b1)).heap.size) := Lib.hid (by rw [size_setRow]; have := XS.out; have := hb1.size; omega)
  clear hb1 hg1 C1 HQ
  go_wp2_with (first
    | (refine wpList_store_row rfl 28 (.tmp 3) (.tmp 15) rfl w.heap.size (grtA G b1) rfl rfl 28 _ Q1.out (HI.out b1) rfl (HO.out b1) ?_)
    | (refine wpList_load_row rfl 28 (.tmp 3) rfl w.heap.size rfl 28 _ (0, 0) _ ST1.out Tryz.underlying28 rfl (HI.out b1) ?_))
  refine C2.out.mono ?_
  clear Q1 HB1
  generalize w1.setRow w.heap.size (grtA G b1) = w1b at *
  rintro e w2 ⟨b2, rfl, hb2, hg2⟩
  have hn := below_new w2 (.cells (grtA G b2) 28)
  have W2 : Hid (Below w.heap.size w (w2.alloc (.cells (grtA G b2) 28))) := Lib.hid (HW1.out.trans ((hb2.mono HW1.out.size).trans (hn.mono (Nat.le_trans HW1.out.size hb2.size))))
  have QQ : Hid ((w2.alloc (.cells (grtA G b2) 28)).heap[w.heap.size]? = some (.cells (grtA G b1) 28 (0, 0)) ∧ (w2.alloc (.cells (grtA G b2) 28)).heap[w2.heap.size]? = some (.cells (grtA G b2) 28 (0, 0)) ∧ w.heap.size < w2.heap.size) :=
    Lib.hid ⟨(hn.block _ (Nat.lt_of_lt_of_le LQ1.out hb2.size)).trans ((hb2.block _ LQ1.out).trans ST1.out), heap_alloc_new w2 _, Nat.lt_of_lt_of_le LQ1.out hb2.size⟩
  have GA : Hid (GrS (fun k => k < w2.heap.size) (w2.alloc (.cells (grtA G b2) 28)) G b1 ∧ GrS (fun k => k < w2.heap.size) (w2.alloc (.cells (grtA G b2) 28)) G b2) := Lib.hid ⟨(G1.out.grS HSM.out).keep fun k hk => ⟨(hn.block k (Nat.lt_of_lt_of_le hk.2 hb2.size)).trans (hb2.block k hk.2), Nat.lt_of_lt_of_le hk.2 hb2.size⟩, (hg2.grS HSM.out).keep fun k hk => by
    have hlt : k < w2.heap.size := by
      have := hb2.size
      rcases hk with hk | hk
      · have := hk.2; omega
      · exact hk.2
    exact ⟨hn.block k hlt, hlt⟩⟩
  clear hb2 hg2 hn C2 G1 ST1 HW1 LQ1
  go_wp2_with (first
    | (refine wpList_alloc7 rfl rfl w2.heap.size rfl ?_)
    | (refine wpList_store_row rfl 28 (.tmp 7) (.tmp 17) rfl w2.heap.size (grtA G b2) rfl rfl 28 _ (heap_alloc_new w2 _) (HI.out b2) rfl (HO.out b2) ?_; rw [World.setRow_alloc_new]; generalize w2.alloc (.cells (grtA G b2) 28) = w3 at *; generalize w2.heap.size = n7 at *)
    | (refine wpList_load_row rfl 28 (.tmp 7) rfl n7 rfl 28 _ (0, 0) _ QQ.out.2.1 Tryz.underlying28 rfl (HI.out b2) ?_))
  have LT7 := Lib.hid (lt_of_block QQ.out.2.1)
  have HD : ∀ x ∈ G.exts, x.2.length ≤ 1000000 := fun x hx => by have := HSM.out.d x hx; omega
  have CW1 := Lib.hid (write_prog7 (w := w3) (GA.out.2.grV fun k hk => by have := LT7.out; omega) (HG.out.below W2.out) HD)
  clear HD H2 HI0 B0 XS
  refine CW1.out.mono ?_
  intro e w4 hh
  clear CW1
  have HSame : Hid (∀ wx, Below w3.heap.size w3 wx → Calls Tryz.prog 16 #[.agg (grtA G b2), .agg (grtA G b1)] wx (BoolP true wx)) := Lib.hid fun wx hb => rsame_any ((GA.out.2.keep (S' := fun k => k < wx.heap.size) fun k hk => ⟨hb.block k (by have := LT7.out; omega), by have := LT7.out; have := hb.size; omega⟩).grV fun k hk => hk) ((GA.out.1.keep (S' := fun k => k < wx.heap.size) fun k hk => ⟨hb.block k (by have := LT7.out; omega), by have := LT7.out; have := hb.size; omega⟩).grV fun k hk => hk)
  have HLQ : Hid (∀ wx, Below w3.heap.size w3 wx → wx.heap[w.heap.size]? = some (.cells (grtA G b1) 28 (0, 0)) ∧ wx.heap[n7]? = some (.cells (grtA G b2) 28 (0, 0)) ∧ Below w.heap.size w wx) := Lib.hid fun wx hb => ⟨(hb.block _ (by have := LT7.out; have := QQ.out.2.2; omega)).trans QQ.out.1, (hb.block _ LT7.out).trans QQ.out.2.1, W2.out.trans (hb.mono W2.out.size)⟩
  have HWR : Hid (∀ wx, Below w3.heap.size w3 wx → Calls Tryz.prog 20 #[.agg (grtA G b1)] wx (WrP G wx)) := Lib.hid fun wx hb => write_ref7 ((GA.out.1.keep (S' := fun k => k < wx.heap.size) fun k hk => ⟨hb.block k (by have := LT7.out; omega), by have := LT7.out; have := hb.size; omega⟩).grV fun k hk => hk) HSM.out
  unfold BoolP at HSame
  cases hok : okG G with
  | false =>
    obtain ⟨rfl, hb4⟩ := hh.2 hok
    have HK := Lib.hid hok
    have B4 := Lib.hid hb4
    have L4 := Lib.hid (HLQ.out _ hb4)
    have CR := Lib.hid (HWR.out _ hb4)
    clear hh hok hb4
    go_wp2_with (refine wpList_load_row rfl 28 (.tmp 3) rfl w.heap.size rfl 28 _ (0, 0) _ L4.out.1 Tryz.underlying28 rfl (HI.out b1) ?_)
    refine CR.out.mono ?_
    intro e w5 hh
    obtain ⟨rfl, hb5⟩ := hh.2 HK.out
    have B5 := Lib.hid (B4.out.trans (hb5.mono B4.out.size))
    have L5 := Lib.hid (HLQ.out _ B5.out)
    have CE := Lib.hid (eqBytes_rb (w := w5) (RowG.nil w5 0).rb (RowG.nil w5 0).rb)
    have CS := Lib.hid (HSame.out _ B5.out)
    clear hh hb5 CR L4 B4
    go_wp2_with (first
      | (go_at_call 15; refine (CE.out).mono ?_; rintro e w' ⟨rfl, rfl⟩)
      | (refine wpList_load_rowG (by first | rfl | kernel_rfl) 28 (.tmp 7) rfl n7 rfl 28 _ (0, 0) _ L5.out.2.1 Tryz.underlying28 rfl (HI.out b2) ?_)
      | (refine wpList_load_rowG (by first | rfl | kernel_rfl) 28 (.tmp 3) rfl w.heap.size rfl 28 _ (0, 0) _ L5.out.1 Tryz.underlying28 rfl (HI.out b1) ?_)
      | (go_at_call 16; refine (CS.out).mono ?_; rintro e w6 ⟨rfl, hb⟩; have B6 := Lib.hid (B5.out.trans (hb.mono B5.out.size)); clear hb))
    have L6 := Lib.hid (HLQ.out _ B6.out)
    have CS2 := Lib.hid (HSame.out _ B6.out)
    clear L5 CS CE B5 W2
    go_loopw [12] (fun v wr => v = .int .i64 0 ∧ wr = w6) (fun _ _ => 0)
    case atStart => exact ⟨rfl, rfl⟩
    case round =>
      obtain ⟨rfl, rfl⟩ := hrel
      go_wp2_with (first
        | (refine wpList_load_rowG (by first | rfl | kernel_rfl) 28 (.tmp 7) rfl n7 rfl 28 _ (0, 0) _ L6.out.2.1 Tryz.underlying28 rfl (HI.out b2) ?_)
        | (refine wpList_load_rowG (by first | rfl | kernel_rfl) 28 (.tmp 3) rfl w.heap.size rfl 28 _ (0, 0) _ L6.out.1 Tryz.underlying28 rfl (HI.out b1) ?_)
        | (go_at_call 16; refine (CS2.out).mono ?_; rintro e w7 ⟨rfl, hb⟩; have B7 := Lib.hid (B6.out.trans (hb.mono B6.out.size)); have L7 := Lib.hid (HLQ.out _ B7.out); clear hb)
        | (go_at_call 17; refine (works_any _ (HG.out.below L7.out.2.2)).mono ?_; rintro e w8 ⟨rfl, hb⟩; have B8 := Lib.hid (L7.out.2.2.trans (hb.mono L7.out.2.2.size)); clear hb))
      go_ret
      exact ⟨rfl, B8.out⟩
  | true =>
    obtain ⟨A4, c4, rfl, hr4, hb4⟩ := hh.1 hok
    have HK := Lib.hid hok
    have R4 := Lib.hid hr4
    have B4 := Lib.hid hb4
    have L4 := Lib.hid (HLQ.out _ hb4)
    have CR := Lib.hid (HWR.out _ hb4)
    have HRL := Lib.hid (rec_len hok)
    clear hh hok hb4 hr4
    go_wp2_with (refine wpList_load_row rfl 28 (.tmp 3) rfl w.heap.size rfl 28 _ (0, 0) _ L4.out.1 Tryz.underlying28 rfl (HI.out b1) ?_)
    refine CR.out.mono ?_
    intro e w5 hh
    obtain ⟨A5, c5, rfl, hr5, hb5⟩ := hh.1 HK.out
    have R5 := Lib.hid hr5
    have R4b := Lib.hid (R4.out.below hb5)
    have B5 := Lib.hid (B4.out.trans (hb5.mono B4.out.size))
    have L5 := Lib.hid (HLQ.out _ B5.out)
    have ce := eqBytes_rb (w := w5) R4b.out.rb R5.out.rb
    rw [beq_self_eq_true] at ce
    have CE := Lib.hid ce
    have CS := Lib.hid (HSame.out _ B5.out)
    have Z04 : Hid (w.heap.size ≤ w4.heap.size) := Lib.hid (Nat.le_trans W2.out.size B4.out.size)
    have A4L : Hid (∀ q, A4 = some ⟨q, 0, none⟩ → w3.heap.size ≤ q ∧ q < w4.heap.size) := Lib.hid fun q e => R4.out.lt e
    clear hh hb5 hr5 CR L4 B4 ce R4
    obtain ⟨n, hn⟩ : ∃ n, n = (recG G).length := ⟨_, rfl⟩
    have HN : Hid ((recG G).length = n) := Lib.hid hn.symm
    rw [← hn] at CE ⊢
    have hn9 : 9 ≤ n := by rw [hn]; exact HRL.out.2.1
    have hn1 : n ≤ 16389 := by rw [hn]; exact HRL.out.2.2
    clear hn HRL
    generalize recG G = RC at *
    go_wp2_with (first
      | (go_at_call 15; refine (CE.out).mono ?_; rintro e w' ⟨rfl, rfl⟩)
      | (refine wpList_load_rowG (by first | rfl | kernel_rfl) 28 (.tmp 7) rfl n7 rfl 28 _ (0, 0) _ L5.out.2.1 Tryz.underlying28 rfl (HI.out b2) ?_)
      | (refine wpList_load_rowG (by first | rfl | kernel_rfl) 28 (.tmp 3) rfl w.heap.size rfl 28 _ (0, 0) _ L5.out.1 Tryz.underlying28 rfl (HI.out b1) ?_)
      | (go_at_call 16; refine (CS.out).mono ?_; rintro e w6 ⟨rfl, hb⟩; have B6 := Lib.hid (B5.out.trans (hb.mono B5.out.size)); have R46 := Lib.hid (R4b.out.below hb); have R56 := Lib.hid (R5.out.below hb); clear hb))
    have P6 : Hid (Hps w w6 n A4 c4 n7 w.heap.size G b2 b1 ∧ RowG w6 w4.heap.size A5 c5 RC) := Lib.hid (by
      have hl := HLQ.out w6 B6.out
      have h7 := LT7.out
      have hq := QQ.out.2.2
      have hs := B6.out.size
      have hno : ∀ q, q < w3.heap.size → A4 ≠ some ⟨q, 0, none⟩ := fun q hq e => by have := (A4L.out q e).1; omega
      refine ⟨⟨hl.2.2, ⟨RC, HN.out, R46.out.up (by have := W2.out.size; omega)⟩, hl.2.1, hl.1, GA.out.2.keep fun k hk => ⟨B6.out.block k (by omega), by omega, hno k (by omega)⟩, GA.out.1.keep fun k hk => ⟨B6.out.block k (by omega), by omega, hno k (by omega)⟩, hno _ h7, hno _ (by omega)⟩, R56.out⟩)
    clear L5 CS CE B5 W2 B6 R46 R56 R4b R5 GA QQ HSM HWR HSame HLQ
    go_loopw [12] (fun v wr => ∃ j : Nat, j ≤ n ∧ v = .int .i64 j ∧ Hid (Hps w wr n A4 c4 n7 w.heap.size G b2 b1 ∧ RowG wr w4.heap.size A5 c5 RC)) (fun v _ => n - (intOf v).toNat)
    case atStart => exact ⟨0, Nat.zero_le _, rfl, P6⟩
    case round =>
      obtain ⟨j, hj, rfl, hst⟩ := hrel
      clear P6
      by_cases hlt : j < n
      · obtain ⟨l, hl, hr⟩ := hst.out.1.row
        obtain ⟨g, rfl⟩ := hr.some' (by omega)
        have q0 : (0 : Int) ≤ j := by omega
        have q1 : (j : Int) < n := by omega
        obtain ⟨_, p2, p3⟩ := hr.put j (by omega) 0 0 rfl
        have HE : Hid (Hps w (wr.setCell ⟨g, j, none⟩ (.int .u8 0)) n (some ⟨g, 0, none⟩) c4 n7 w.heap.size G b2 b1 ∧ RowG (wr.setCell ⟨g, j, none⟩ (.int .u8 0)) w4.heap.size A5 c5 RC) := Lib.hid ⟨hst.out.1.put j 0 0 rfl hlt, hst.out.2.set (A4L.out g rfl).2⟩
        generalize hxx : ((l[j]'(by omega)).toNat : Int) = xx at *
        clear hr hl hxx hst
        go_wp2_with fail
        go_roundw
        case rel => exact ⟨j + 1, by omega, by go_num, HE⟩
        case measure => simp [intOf]; omega
      · obtain rfl : j = n := by omega
        have q1 : ¬ (j : Int) < j := by omega
        have b4 := Lib.hid hst.out.1.b4
        have b6 := Lib.hid hst.out.1.b6
        have CS := Lib.hid (rsame_any (hst.out.1.g4.grV fun k hk => hk.1) (hst.out.1.g6.grV fun k hk => hk.1))
        have HB := Lib.hid hst.out.1.bel
        have R7 := Lib.hid hst.out.2
        unfold BoolP at CS
        have hk0 := Int.emod_nonneg at_ (show (j : Int) ≠ 0 by omega)
        have hk1 := Int.emod_lt_of_pos at_ (show (0 : Int) < j by omega)
        have BR := Lib.hid fun w => bring_any at_ j w (by omega) (by omega)
        obtain ⟨kk, hkk⟩ : ∃ x : Nat, at_ % (j : Int) = (x : Int) := ⟨(at_ % (j : Int)).toNat, by omega⟩
        rw [hkk] at BR
        have hkl : kk < RC.length := by rw [HN.out]; omega
        obtain ⟨g5, rfl⟩ := R7.out.some' (by rw [HN.out]; omega)
        obtain ⟨yy, hyy⟩ := xor_byte (RC[kk]'hkl).toNat (y.toNat : Int)
        have HYY := Lib.hid hyy
        have c0 : (0 : Int) ≤ kk := by omega
        have c1 : (kk : Int) < j := by omega
        have HKL := Lib.hid hkl
        generalize hyv : (y.toNat : Int) = yv at *
        clear hst hj hlt hk0 hk1 hkk hyy hyv
        go_wp2_with (first
          | (refine wpList_load_row rfl 28 (.tmp 7) rfl n7 rfl 28 _ (0, 0) _ b4.out Tryz.underlying28 rfl (HI.out b2) ?_)
          | (refine wpList_load_row rfl 28 (.tmp 3) rfl w.heap.size rfl 28 _ (0, 0) _ b6.out Tryz.underlying28 rfl (HI.out b1) ?_)
          | (go_at_call 16; refine (CS.out).mono ?_; rintro e w7 ⟨rfl, hb⟩; have HB7 := Lib.hid (HB.out.trans (hb.mono HB.out.size)); have R8 := Lib.hid (R7.out.below hb); obtain ⟨_, p2, p3⟩ := R8.out.put kk HKL.out yy _ HYY.out; have HPUT := Lib.hid (R8.out.put kk HKL.out yy _ HYY.out).1; clear hb CS R7 b4 b6)
          | (go_at_call 21; refine (BR.out _).mono ?_; rintro e w' ⟨rfl, rfl⟩))
        rename World => w7
        have HBP := Lib.hid (HB7.out.setCell (p := ⟨g5, kk, none⟩) (by have := (R8.out.lt rfl).1; have := Z04.out; show w.heap.size ≤ g5; omega) (.int .u8 (Go.bits .xor .u8 ((RC[kk]'HKL.out).toNat : Int) yv)))
        have CP := Lib.hid (helloParses_any (n := j) (c := c5) HPUT.out.rb (by rw [List.length_set, HN.out]) (HG.out.below HBP.out))
        refine CP.out.mono ?_
        rintro e w8 ⟨rfl, hb⟩
        have B8 := Lib.hid (HBP.out.trans (hb.mono HBP.out.size))
        clear hb CP
        go_wp2_with fail
        go_ret
        exact ⟨rfl, B8.out⟩
end Go.Proofs.YtiakbmllpnabnaaGreatDoor
