/- The program's Parse. -/
import Derived.Test.YtajkbkllgbalkaaUm
import Derived.Laws.ResultCell
import Derived.Deep.RegionHeld
namespace Go.Proofs.Ytajkbkllgbalkaa
open Go Go.RowKit

section
variable {P : Program} {ops : Array Oper} {Q : Exit → Act → World → Prop} {md : Region.Mode} {T : List Nat} {C : World → Prop}

/-- no store has come up -/
def NoneOf (T : List Nat) (listed : Array Bool) : Prop := ∀ t ∈ T, listed.getD t true = false
theorem NoneOf.back {listed : Array Bool} {i : Nat} (hi : i ∉ T) (h : NoneOf T listed) : NoneOf T (listed.setIfInBounds i true) := fun t ht => by
  rw [getD_set_ne true (fun e => hi (by rw [e]; exact ht))]
  exact h t ht
/-- in whatever order, with C as long as no store has come up -/
def wpAnyC (P : Program) (md : Region.Mode) (ops : Array Oper) (Q : Exit → Act → World → Prop) (T : List Nat) (C : World → Prop) : Nat → Array Bool → Act → World → Prop
  | 0, listed, a, w => Region.ready md ops listed = [] ∧ Q .normal a w
  | fuel + 1, listed, a, w =>
    (Region.ready md ops listed = [] → Q .normal a w) ∧
    ∀ i ∈ Region.ready md ops listed, wpOp P ops Q i (fun a' w' => (NoneOf T (listed.setIfInBounds i true) → C w') ∧ wpAnyC P md ops Q T C fuel (listed.setIfInBounds i true) a' w') a w
theorem wpAny_of_C : ∀ (fuel : Nat) (listed : Array Bool) (a : Act) (w : World), wpAnyC P md ops Q T C fuel listed a w → wpAny P md ops Q fuel listed a w
  | 0, _, _, _, h => h
  | fuel + 1, _, _, _, h => ⟨h.1, fun i hi => wpOp_mono (fun _ _ h' => wpAny_of_C fuel _ _ _ h'.2) (h.2 i hi)⟩
/-- each store waits for number i -/
def Waits (md : Region.Mode) (ops : Array Oper) (T : List Nat) (i : Nat) : Bool := T.all fun t => match ops[t]? with
  | none => false
  | some o => o.after.any fun e => Region.binds md e && e.on == i
theorem Waits.not_ready {i j : Nat} {listed : Array Bool} (h : Waits md ops T i = true) (hi : i ∈ Region.ready md ops listed) (hj : j ∈ Region.ready md ops listed) : j ∉ T := fun ht => by
  have h1 := List.all_eq_true.1 h j ht
  obtain ⟨_, o, ho, hall⟩ := mem_ready.1 hj
  rw [ho] at h1
  obtain ⟨e, he, hb⟩ := Array.any_eq_true'.1 h1
  rw [Bool.and_eq_true, beq_iff_eq] at hb
  have h2 := hall e he hb.1
  rw [hb.2] at h2
  have h0 := (mem_ready.1 hi).1
  rcases Nat.lt_or_ge i listed.size with h' | h'
  · simp [h'] at h0 h2; rw [h0] at h2; cases h2
  · simp [Array.getElem?_eq_none h'] at h0
theorem wpAnyC_first {i : Nat} {oi : Oper} {v : Value} (hi : ops[i]? = some oi) (hsel : ∀ (j : Nat) (o : Oper) cs b, ops[j]? = some o → o.op ≠ .select cs b)
    (hQ : ∀ c a w, Q (.panic c) (a.put oi.dst v) w → Q (.panic c) a w) (hW : Waits md ops T i = true) (hiT : i ∉ T) :
    ∀ (fuel : Nat) (listed : Array Bool) (a : Act) (w : World),
      (∀ j oj, ops[j]? = some oj → j ≠ i → listed.getD j true = false → (∀ e ∈ oj.after, Region.binds md e = true → e.on ≠ i) → oi.apart ops oj = true) →
      i ∈ Region.ready md ops listed → YieldsIf P ops C oi v a → C w → NoneOf T listed →
      wpAnyC P md ops Q T C fuel (listed.setIfInBounds i true) (a.put oi.dst v) w → wpAnyC P md ops Q T C (fuel + 1) listed a w := by
  intro fuel
  induction fuel with
  | zero =>
    intro listed a w _ hr hy hS _ H
    refine ⟨fun h => (by rw [h] at hr; cases hr), fun j hj => ?_⟩
    by_cases hji : j = i
    · subst hji; exact hy.wpOp hi hS ⟨fun _ => hS, H⟩
    · have := ready_mono hj hji
      rw [H.1] at this
      cases this
  | succ fuel ih =>
    intro listed a w hfree hr hy hS hN H
    refine ⟨fun h => (by rw [h] at hr; cases hr), fun j hj => ?_⟩
    by_cases hji : j = i
    · subst hji; exact hy.wpOp hi hS ⟨fun _ => hS, H⟩
    · have h1 := H.2 j (ready_mono hj hji)
      have hjT := Waits.not_ready hW hr hj
      obtain ⟨hjun, oj, hoj, hall⟩ := mem_ready.1 hj
      have hnot : ∀ e ∈ oj.after, Region.binds md e = true → e.on ≠ i := fun e he hb heq => by
        have h1 := hall e he hb
        have h0 := (mem_ready.1 hr).1
        rw [heq] at h1
        rcases Nat.lt_or_ge i listed.size with h' | h'
        · simp [h'] at h0 h1; rw [h0] at h1; cases h1
        · simp [Array.getElem?_eq_none h'] at h1
      have h2 := wpOp_putIf hoj (hfree j oj hoj hji hjun hnot) (fun cs b => hsel i oi cs b hi) (fun cs b => hsel j oj cs b hoj) hQ hy h1
      have hfree' : ∀ k ok, ops[k]? = some ok → k ≠ i → (listed.setIfInBounds j true).getD k true = false →
          (∀ e ∈ ok.after, Region.binds md e = true → e.on ≠ i) → oi.apart ops ok = true := fun k ok hk hki hun hno => by
        refine hfree k ok hk hki ?_ hno
        by_cases hjk : j = k
        · subst hjk; exact hjun
        · rw [getD_set_ne true hjk] at hun; exact hun
      have hN' : NoneOf T (listed.setIfInBounds j true) := hN.back hjT
      refine wpOp_mono (fun a' w' h3 => ?_) h2
      have hC : C w' := h3.2.1 (by rw [Array.setIfInBounds_comm _ _ (Ne.symm hji)]; exact hN'.back hiT)
      refine ⟨fun _ => hC, ih (listed.setIfInBounds j true) a' w' hfree' (ready_mono hr (Ne.symm hji)) h3.1 hC hN' ?_⟩
      rw [Array.setIfInBounds_comm _ _ hji]
      exact h3.2.2
/-- what yields in whatever world may be taken first, too, whoever waits for it -/
theorem wpAnyC_firstP {i : Nat} {oi : Oper} {v : Value} (hi : ops[i]? = some oi) (hsel : ∀ (j : Nat) (o : Oper) cs b, ops[j]? = some o → o.op ≠ .select cs b)
    (hQ : ∀ c a w, Q (.panic c) (a.put oi.dst v) w → Q (.panic c) a w) (hiT : i ∉ T) :
    ∀ (fuel : Nat) (listed : Array Bool) (a : Act) (w : World),
      (∀ j oj, ops[j]? = some oj → j ≠ i → listed.getD j true = false → (∀ e ∈ oj.after, Region.binds md e = true → e.on ≠ i) → oi.apart ops oj = true) →
      i ∈ Region.ready md ops listed → YieldsIf P ops (fun _ => True) oi v a → (NoneOf T listed → C w) →
      wpAnyC P md ops Q T C fuel (listed.setIfInBounds i true) (a.put oi.dst v) w → wpAnyC P md ops Q T C (fuel + 1) listed a w := by
  intro fuel
  induction fuel with
  | zero =>
    intro listed a w _ hr hy hS H
    refine ⟨fun h => (by rw [h] at hr; cases hr), fun j hj => ?_⟩
    by_cases hji : j = i
    · subst hji
      refine hy.wpOp hi trivial ⟨fun hN => hS fun t ht => ?_, H⟩
      have := hN t ht
      rwa [getD_set_ne true (fun e => hiT (by rw [e]; exact ht))] at this
    · have := ready_mono hj hji
      rw [H.1] at this
      cases this
  | succ fuel ih =>
    intro listed a w hfree hr hy hS H
    refine ⟨fun h => (by rw [h] at hr; cases hr), fun j hj => ?_⟩
    by_cases hji : j = i
    · subst hji
      refine hy.wpOp hi trivial ⟨fun hN => hS fun t ht => ?_, H⟩
      have := hN t ht
      rwa [getD_set_ne true (fun e => hiT (by rw [e]; exact ht))] at this
    · have h1 := H.2 j (ready_mono hj hji)
      obtain ⟨hjun, oj, hoj, hall⟩ := mem_ready.1 hj
      have hnot : ∀ e ∈ oj.after, Region.binds md e = true → e.on ≠ i := fun e he hb heq => by
        have h1 := hall e he hb
        have h0 := (mem_ready.1 hr).1
        rw [heq] at h1
        rcases Nat.lt_or_ge i listed.size with h' | h'
        · simp [h'] at h0 h1; rw [h0] at h1; cases h1
        · simp [Array.getElem?_eq_none h'] at h1
      have h2 := wpOp_putIf hoj (hfree j oj hoj hji hjun hnot) (fun cs b => hsel i oi cs b hi) (fun cs b => hsel j oj cs b hoj) hQ hy h1
      have hfree' : ∀ k ok, ops[k]? = some ok → k ≠ i → (listed.setIfInBounds j true).getD k true = false →
          (∀ e ∈ ok.after, Region.binds md e = true → e.on ≠ i) → oi.apart ops ok = true := fun k ok hk hki hun hno => by
        refine hfree k ok hk hki ?_ hno
        by_cases hjk : j = k
        · subst hjk; exact hjun
        · rw [getD_set_ne true hjk] at hun; exact hun
      refine wpOp_mono (fun a' w' h3 => ?_) h2
      have hC : NoneOf T (listed.setIfInBounds j true) → C w' := fun hN => h3.2.1 (by rw [Array.setIfInBounds_comm _ _ (Ne.symm hji)]; exact hN.back hiT)
      refine ⟨hC, ih (listed.setIfInBounds j true) a' w' hfree' (ready_mono hr (Ne.symm hji)) h3.1 hC ?_⟩
      rw [Array.setIfInBounds_comm _ _ hji]
      exact h3.2.2
/-- no store has come up, as a Bool -/
def noneB (T : List Nat) (listed : Array Bool) : Bool := T.all fun t => !listed.getD t true
theorem noneB_spec {listed : Array Bool} (h : noneB T listed = true) : NoneOf T listed := fun t ht => by
  have := List.all_eq_true.1 h t ht
  simpa using this
/-- a load that each store waits for -/
theorem wpAnyC_load {i : Nat} {oi : Oper} {v : Value} {fuel : Nat} {listed : Array Bool} {a : Act} {w : World} (hi : ops[i]? = some oi)
    (hs : Region.noSelect ops = true) (hf : Region.free md ops listed i = true) (hr : (Region.ready md ops listed).contains i = true) (hW : (Waits md ops T i && !T.contains i && noneB T listed) = true)
    (hQ : ∀ c a w, Q (.panic c) (a.put oi.dst v) w → Q (.panic c) a w) (hy : YieldsIf P ops C oi v a) (hS : C w)
    (h : wpAnyC P md ops Q T C fuel (listed.setIfInBounds i true) (a.put oi.dst v) w) : wpAnyC P md ops Q T C (fuel + 1) listed a w := by
  rw [Bool.and_eq_true, Bool.and_eq_true] at hW
  exact wpAnyC_first hi (Region.noSelect_spec hs) hQ hW.1.1 (by simpa using hW.1.2) fuel listed a w (Region.free_spec hi hf) (by simpa using hr) hy hS (noneB_spec hW.2) h
/-- a copy, an address, arithmetic -/
theorem wpAnyC_pure {i : Nat} {oi : Oper} {v : Value} {fuel : Nat} {listed : Array Bool} {a : Act} {w : World} (hi : ops[i]? = some oi)
    (hs : Region.noSelect ops = true) (hf : Region.free md ops listed i = true) (hr : (Region.ready md ops listed).contains i = true) (hT : T.contains i = false)
    (hQ : ∀ c a w, Q (.panic c) (a.put oi.dst v) w → Q (.panic c) a w) (hy : YieldsIf P ops (fun _ => True) oi v a) (hS : NoneOf T listed → C w)
    (h : wpAnyC P md ops Q T C fuel (listed.setIfInBounds i true) (a.put oi.dst v) w) : wpAnyC P md ops Q T C (fuel + 1) listed a w :=
  wpAnyC_firstP hi (Region.noSelect_spec hs) hQ (by simpa using hT) fuel listed a w (Region.free_spec hi hf) (by simpa using hr) hy hS h
/-- a store comes up, alone -/
theorem wpAnyC_store {i : Nat} {o : Oper} {fuel : Nat} {listed : Array Bool} {a : Act} {w : World} (hr : Region.ready md ops listed = [i]) (ho : ops[i]? = some o) (hT : (T.contains i && decide (i < listed.size)) = true)
    (h : ∀ K' : Act → World → Prop, Shut (∀ a w, wpAnyC P md ops Q T C fuel (listed.setIfInBounds i true) a w → K' a w) → if Region.wanted o (yielded ops a.tmps) = true then Oper.wp P o a w K' Q else K' (a.put o.dst undef) w) :
    wpAnyC P md ops Q T C (fuel + 1) listed a w := by
  rw [Bool.and_eq_true, decide_eq_true_iff] at hT
  refine ⟨fun h0 => absurd (hr ▸ h0) (by simp), fun j hj => ?_⟩
  rw [hr, List.mem_singleton] at hj
  subst hj
  refine wpOp_step ho fun K' hK => h K' fun a w hW => hK a w ⟨fun hN => ?_, hW⟩
  have := hN j (by simpa using hT.1)
  simp [hT.2] at this
/-- one operation alone comes up: it is carried out, and C is shown anew -/
theorem wpAnyC_step {i : Nat} {o : Oper} {fuel : Nat} {listed : Array Bool} {a : Act} {w : World} (hr : Region.ready md ops listed = [i]) (ho : ops[i]? = some o)
    (h : ∀ K' : Act → World → Prop, Shut (∀ a w, C w → wpAnyC P md ops Q T C fuel (listed.setIfInBounds i true) a w → K' a w) → if Region.wanted o (yielded ops a.tmps) = true then Oper.wp P o a w K' Q else K' (a.put o.dst undef) w) :
    wpAnyC P md ops Q T C (fuel + 1) listed a w := by
  refine ⟨fun h0 => absurd (hr ▸ h0) (by simp), fun j hj => ?_⟩
  rw [hr, List.mem_singleton] at hj
  subst hj
  exact wpOp_step ho fun K' hK => h K' fun a w hC hW => hK a w ⟨fun _ => hC, hW⟩
theorem wpAnyC_done {listed : Array Bool} {a : Act} {w : World} (hr : Region.ready md ops listed = []) (h : Q .normal a w) : ∀ fuel, wpAnyC P md ops Q T C fuel listed a w
  | 0 => ⟨hr, h⟩
  | _ + 1 => ⟨fun _ => h, by rw [hr]; simp⟩
theorem wp_region_C (T : List Nat) (C : World → Prop) {id : Nat} {a : Act} {w : World} (hm : P.follows .mixedOrders = true) (h : wpAnyC P .any ops Q T C ops.size (Array.replicate ops.size false) a w.drew) : (Code.region id ops true).wp P Q a w :=
  wp_region_any hm (wpAny_of_C _ _ _ _ h)
end
/-- a whole row may be taken first -/
theorem yieldsIf_row {ops : Array Oper} {S : World → Prop} {o : Oper} {a : Act} (hw : Region.wanted o (yielded ops a.tmps) = true) (x : Operand) (ho : o.op = .load 24 x) (g : Nat) (hx : a.eval x = .pointer (some ⟨g, 0, none⟩)) (p : Psh) (A : Option Addr) (n c : Nat) (hS : ∀ w, S w → Box w g 24 (pshA p A n c)) : YieldsIf Try.prog ops S o (.agg (pshA p A n c)) a :=
  .inl ⟨hw, fun w hw' => by
    unfold execOp
    simp only [ho, hx, Instr.loadAt, Instr.sureAddr, Sem.run_bind, Sem.run_pure, Result.andThen_ok, run_loadVar_row w g 24 24 (pshA p A n c) (0, 0) _ (hS w hw') Try.underlying24 rfl pshInfo]⟩
theorem results_row_tmp {fn : Func} {p q : Tmp} (h : fn.results = #[.cell p 24, .tmp q]) (tmps : Array Value) (w : World) (g : Nat) (cs : Array Value) (v : Value)
    (hp : tmps.getD p undef = .pointer (some ⟨g, 0, none⟩)) (hq : tmps.getD q undef = v) (hg : w.heap[g]? = some (.cells cs 24 (0, 0))) (hi : (Try.prog.info? 24).map (·.size) = some cs.size) :
    (results fn tmps).run Try.prog w = .ok (.tuple #[.agg cs, v]) w := by
  have hp' : tmps[p]?.getD undef = .pointer (some ⟨g, 0, none⟩) := by simpa using hp
  have hq' : tmps[q]?.getD undef = v := by simpa using hq
  simp [results, h, hp', hq', asAddr, run_loadVar_row w g 24 24 cs (0, 0) _ hg Try.underlying24 rfl hi]
/-- what Parse hands back -/
def ParP (x : Psh × Int) (w : World) (E : Ending) (w' : World) : Prop :=
  ∃ A n c, E = .returned (.tuple #[.agg (pshA x.1 A n c), .int .i64 x.2]) ∧ Own w' w.heap.size (.slice A n c) x.1.lines ∧ Below w.heap.size w w'
/-- a box may be laid anew, if no text lies in it -/
theorem Own.setRow {w : World} {base g : Nat} {v : Value} {l : List Bs} {cs : Array Value} (h : Own w base v l) (hg : g < base) : Own (w.setRow g cs) base v l :=
  World.ownsRow.kept (row := some g) h ⟨rfl, rfl, rfl, by rw [size_setRow]; exact Nat.le_refl _, fun k _ hne => setRow_other _ _ _ _ fun e => hne (by rw [e])⟩ (by
    cases hv : v.ownBlock with
    | none => simp
    | some j => have := (World.ownsRow.lt h j hv).1; simp; omega)
theorem readP_eq (b : Bs) : readP b = (fldL (nmV (.ok b) 1 : Nat)).foldl rdF ({ zeroP with kind := (nmV (.ok b) 1 : Nat) }, tkC (.ok b) 1) := rfl
/-- the packet and the reader, behind the fields -/
structure Pend (w : World) (q : Psh × St) (w6 : World) (A : Option Addr) (n c : Nat) : Prop where
  box : Box w6 w.heap.size 24 (pshA q.1 A n c)
  own : Own w6 (w.heap.size + 2) (.slice A n c) q.1.lines
  rd : ∃ A' n' c' e', Rdm 75 w6 (w.heap.size + 1) w.heap.size q.2 A' n' c' e'
  bl : Below w.heap.size w w6
  sz : w.heap.size + 2 ≤ w6.heap.size
theorem builtZ : Try.prog.built 24 [] = some (pshA zeroP none 0 0) := by kernel_rfl
theorem yieldsIf_buildV {ops : Array Oper} {S : World → Prop} {o : Oper} {a : Act} (hw : Region.wanted o (yielded ops a.tmps) = true) (t : TypeId) (parts : Array (Nat × Operand)) (ho : o.op = .build t parts)
    (l : List (Nat × Value)) (hl : (parts.map fun (i, x) => (i, a.eval x)).toList = l) (row : Array Value) (hb : Try.prog.built t l = some row) : YieldsIf Try.prog ops S o (.agg row) a :=
  .inl ⟨hw, fun w _ => by
    have hb' : Try.prog.built t (parts.map fun (i, x) => (i, a.eval x)).toList = some row := by rw [hl]; exact hb
    unfold execOp
    simp only [ho, Sem.run_bind, run_build w t _ row hb', Result.andThen_ok, Sem.run_pure]⟩
/-- what is read is short -/
def Small (p : Psh) : Prop := p.lines.length ≤ 1000 ∧ (∀ s ∈ p.lines, s.length ≤ 65536) ∧ p.text.length ≤ 65536
theorem small_set {p : Psh} (h : Small p) (st : St) (k : Nat) : Small (setF p st k) := by
  unfold setF
  split
  · exact h
  · exact h
  · exact h
  · exact h
  · exact h
  · exact h
  · exact ⟨h.1, h.2.1, txV_len st⟩
  · exact ⟨by show (lnV _ _).length ≤ _; rw [lnV_len]; exact cnV_le _ _ _, fun s hs => lnV_short _ _ s hs, h.2.2⟩
theorem small_fold (L : List Nat) : ∀ x : Psh × St, Small x.1 → Small (L.foldl rdF x).1 := by
  induction L with
  | nil => intro x h; exact h
  | cons k L ih => intro x h; rw [List.foldl_cons]; exact ih _ (small_set h _ _)
theorem small_read (b : Bs) : Small (readP b).1 := small_fold _ _ ⟨Nat.zero_le _, (fun s h => by cases h), Nat.zero_le _⟩
theorem pIn {w : World} {base n c : Nat} {A : Option Addr} {p : Psh} (ho : Own w base (.slice A n c) p.lines) (hs : Small p) : PsIn w.heap.size w p A n c := by
  obtain ⟨A', c', e, ht⟩ := ho.ts
  cases e
  exact ⟨rfl, ht, Nat.le_trans hs.1 (by decide), fun s h => Nat.le_trans (hs.2.1 s h) (by decide), Nat.le_trans hs.2.2 (by decide)⟩
/-- what is left, and whether something was wrong, behind the last test -/
def stE (q : Psh × St) : St := match q.2 with
  | .error e => .error e
  | .ok B => if B = [] ∧ checkP q.1 = true then .ok B else .error 4
theorem end_stE (q : Psh × St) : endP q = match stE q with
    | .error e => (zeroP, e)
    | .ok _ => (q.1, 0) := by
  unfold endP stE
  split
  · rename_i e h; rw [h]
  · rename_i B h
    rw [h]
    dsimp only
    split <;> rfl
theorem pend_to {w w6 w7 : World} {q : Psh × St} {st : St} {A : Option Addr} {n c : Nat} (h : Pend w q w6 A n c) (hk : Kp (w.heap.size + 1) w6.heap.size w6 w7) (hr : ∃ A' n' c' e', Rdm 75 w7 (w.heap.size + 1) w.heap.size st A' n' c' e') : Pend w (q.1, st) w7 A n c := by
  have hs := h.sz
  exact ⟨h.box.kp hk (by omega) (by omega), h.own.kp hk (Nat.le_refl _) (by omega), hr, h.bl.trans (hk.to (by omega) (by omega)), Nat.le_trans hs hk.size⟩
set_option maxRecDepth 100000 in
set_option maxHeartbeats 1000000 in
theorem parse_prog {w : World} {A : Option Addr} {c n : Nat} {b : Bs} (hb : Rb w.heap.size w A c b) (hn : n = b.length) (hl : b.length ≤ 1000000000) :
    Calls Try.prog 23 #[.slice A n c] w (ParP (parseP b) w) := by
  subst hn
  have hb2 : Below w.heap.size w ((w.alloc (.cells #[.int .i64 0, .int .i64 0, .int .i64 0, .int .i64 0, .int .i64 0, .int .i64 0, .int .i64 0, .string { data := #[] }, .slice none 0 0] 24)).alloc (.cells #[.slice A b.length c, .int .i64 0] 75)) := (below_new w _).alloc (by simp) _
  have hsz : ((w.alloc (.cells #[.int .i64 0, .int .i64 0, .int .i64 0, .int .i64 0, .int .i64 0, .int .i64 0, .int .i64 0, .string { data := #[] }, .slice none 0 0] 24)).alloc (.cells #[.slice A b.length c, .int .i64 0] 75)).heap.size = w.heap.size + 2 := by simp
  have HX : Hid (Box ((w.alloc (.cells #[.int .i64 0, .int .i64 0, .int .i64 0, .int .i64 0, .int .i64 0, .int .i64 0, .int .i64 0, .string { data := #[] }, .slice none 0 0] 24)).alloc (.cells #[.slice A b.length c, .int .i64 0] 75)) w.heap.size 24 #[.int .i64 0, .int .i64 0, .int .i64 0, .int .i64 0, .int .i64 0, .int .i64 0, .int .i64 0, .string { data := #[] }, .slice none 0 0]) := Lib.hid ((box_new w _ _).below (below_new _ _))
  have hR : Rdm 75 ((w.alloc (.cells #[.int .i64 0, .int .i64 0, .int .i64 0, .int .i64 0, .int .i64 0, .int .i64 0, .int .i64 0, .string { data := #[] }, .slice none 0 0] 24)).alloc (.cells #[.slice A b.length c, .int .i64 0] 75)) (w.heap.size + 1) w.heap.size (.ok b) A b.length c 0 := by
    refine ⟨by have := box_new (w.alloc (.cells #[.int .i64 0, .int .i64 0, .int .i64 0, .int .i64 0, .int .i64 0, .int .i64 0, .int .i64 0, .string { data := #[] }, .slice none 0 0] 24)) 75 #[.slice A b.length c, .int .i64 0]; simpa [rdV] using this, Nat.le_succ _, fun B e => ?_, (fun x e => by cases e)⟩
    obtain rfl : b = B := by injection e
    exact ⟨rfl, rfl, hb.keep fun k hk => hb2.block k hk, hl⟩
  have CN := Lib.hid (rnumber_prog hR 1 (by decide))
  have HB := Lib.hid hb2
  have HQ := Lib.hid (readP_eq b)
  have HE : Hid (parseP b = endP (readP b)) := Lib.hid rfl
  clear hb hR hb2
  unfold ParP
  unfold NumP RdP at CN
  rw [HE.out]
  generalize nmV (.ok b) 1 = N at *
  generalize tkC (.ok b) 1 = S1 at *
  go_enter Try.func23, Try.ntmps23
  go_upto_region 2 with fail
  generalize ((w.alloc (.cells #[.int .i64 0, .int .i64 0, .int .i64 0, .int .i64 0, .int .i64 0, .int .i64 0, .int .i64 0, .string { data := #[] }, .slice none 0 0] 24)).alloc (.cells #[.slice A b.length c, .int .i64 0] 75)) = w2 at *
  go_upto_region 3 with (go_at_call 54; refine CN.out.mono ?_; rintro E w3 ⟨rfl, hk3, A3, n3, c3, e3, hr3⟩; have K3 := Lib.hid hk3; have R3 := Lib.hid hr3; have hs3 := hk3.size; have X3 := Lib.hid (HX.out.kp hk3 (by omega) (by omega)); have d3 := X3.out.cell 0; have f3 := X3.out.frozen 0; clear hk3 hr3)
  have hbs : Below w.heap.size w3 (w3.setCell ⟨w.heap.size, 0, none⟩ (.int .i64 (N : Nat))) := (Below.refl _ _).setCell (p := ⟨w.heap.size, 0, none⟩) (Nat.le_refl _) _
  have XY : Hid (Box (w3.setCell ⟨w.heap.size, 0, none⟩ (.int .i64 (N : Nat))) w.heap.size 24 (pshA { zeroP with kind := (N : Nat) } none 0 0)) := Lib.hid (X3.out.set 0 _)
  have RY : Hid (Rdm 75 (w3.setCell ⟨w.heap.size, 0, none⟩ (.int .i64 (N : Nat))) (w.heap.size + 1) w.heap.size S1 A3 n3 c3 e3) := Lib.hid ⟨(Below.heap_setCell _ _ _ _ (show w.heap.size + 1 ≠ w.heap.size by omega)).trans R3.out.box, R3.out.dg, fun B e => by
    obtain ⟨h1, h2, h3, h4⟩ := R3.out.ok B e
    exact ⟨h1, h2, h3.keep fun k hk => hbs.block k hk, h4⟩, R3.out.err⟩
  have BY : Hid (Below w.heap.size w (w3.setCell ⟨w.heap.size, 0, none⟩ (.int .i64 (N : Nat)))) := Lib.hid (HB.out.trans ((K3.out.to (D := w.heap.size) (by omega) (by omega)).trans hbs))
  have hsy : w.heap.size + 2 ≤ (w3.setCell ⟨w.heap.size, 0, none⟩ (.int .i64 (N : Nat))).heap.size := by rw [show (w3.setCell ⟨w.heap.size, 0, none⟩ (.int .i64 (N : Nat))).heap.size = w3.heap.size by simp [World.setCell]]; omega
  clear hbs CN K3 R3 X3 d3 f3 HX
  generalize w3.setCell ⟨w.heap.size, 0, none⟩ (.int .i64 (N : Nat)) = wy at *
  have RD : Hid (Rdm 75 wy.drew (w.heap.size + 1) w.heap.size S1 A3 n3 c3 e3) := Lib.hid (RY.out.low (below_drewN (Below.refl (w.heap.size + 2) wy) 1) (by omega))
  have CT := Lib.hid (trav_push (p := { zeroP with kind := (N : Nat) }) RD.out rfl)
  rw [← HQ.out] at CT
  have HSM := Lib.hid (small_read b)
  generalize hrq : readP b = q at *
  have HRQ := Lib.hid hrq
  clear hrq
  unfold TrvP at CT
  have hC : Box wy.drew w.heap.size 24 (pshA { zeroP with kind := (N : Nat) } none 0 0) := XY.out
  refine wp_region_C [7] (fun w' => Box w' w.heap.size 24 (pshA { zeroP with kind := (N : Nat) } none 0 0)) (by kernel_rfl) ?_
  refine wpAnyC_pure (i := 0) (v := .pointer (some ⟨w.heap.size, 0, none⟩)) rfl (by kernel_rfl) (by kernel_rfl) (by kernel_rfl) (by kernel_rfl) (fun _ _ _ h => h) (Or.inl ⟨by rfl, fun w' hw => by go_simp⟩) (fun _ => hC) ?_
  refine wpAnyC_load (i := 1) (v := .int .i64 (N : Nat)) rfl (by kernel_rfl) (by kernel_rfl) (by kernel_rfl) (by kernel_rfl) (fun _ _ _ h => h) (Or.inl ⟨by rfl, fun w' hw => by have hc : w'.cell? ⟨w.heap.size, 0, none⟩ = some (.int .i64 (N : Nat)) := Box.cell hw 0; go_simp⟩) hC ?_
  refine wpAnyC_load (i := 3) (v := .agg (pshA { zeroP with kind := (N : Nat) } none 0 0)) rfl (by kernel_rfl) (by kernel_rfl) (by kernel_rfl) (by kernel_rfl) (fun _ _ _ h => h) (yieldsIf_row (by rfl) _ rfl w.heap.size rfl _ none 0 0 (fun _ h => h)) hC ?_
  refine wpAnyC_pure (i := 4) (v := .pointer (some ⟨w.heap.size + 1, 0, none⟩)) rfl (by kernel_rfl) (by kernel_rfl) (by kernel_rfl) (by kernel_rfl) (fun _ _ _ h => h) (Or.inl ⟨by rfl, fun w' hw => by go_simp⟩) (fun _ => hC) ?_
  refine wpAnyC_pure (i := 5) (v := .func (.func 56) #[.pointer (some ⟨w.heap.size + 1, 0, none⟩)] #[]) rfl (by kernel_rfl) (by kernel_rfl) (by kernel_rfl) (by kernel_rfl) (fun _ _ _ h => h) (Or.inl ⟨by rfl, fun w' hw => by go_simp⟩) (fun _ => hC) ?_
  refine wpAnyC_step (i := 2) (by kernel_rfl) rfl (fun K hK => ?_)
  go_simp
  refine (fieldsOf_any _ _).mono ?_
  rintro e wx ⟨rfl, rfl⟩
  refine hK.out _ _ hC ?_
  clear hK K
  refine wpAnyC_step (i := 6) (by kernel_rfl) rfl (fun K hK => ?_)
  go_simp
  refine CT.out.mono ?_
  rintro e w5 ⟨A5, n5, c5, rfl, ho5, hr5⟩
  have hds : wy.drew.heap.size = wy.heap.size := rfl
  have hbx5 : Box w5 w.heap.size 24 (pshA { zeroP with kind := (N : Nat) } none 0 0) := Box.kp hC hr5.1 (by omega) (by omega)
  refine hK.out _ _ hbx5 ?_
  clear hK K
  refine wpAnyC_store (i := 7) (by kernel_rfl) rfl (by kernel_rfl) (fun K hK => ?_)
  rw [if_pos (by rfl)]
  refine wp_store_row 24 (.tmp 2) (.tmp 17) rfl w.heap.size (pshA q.1 A5 n5 c5) rfl rfl 24 _ hbx5 pshInfo rfl (pshA_one _ _ _ _) ?_
  refine hK.out _ _ ?_
  clear hK K
  refine wpAnyC_done (by kernel_rfl) ?_ _
  have PE : Hid (Pend w q (w5.setRow w.heap.size (pshA q.1 A5 n5 c5)) A5 n5 c5) := Lib.hid (by
    obtain ⟨hk5, A9, n9, c9, e9, hr9⟩ := hr5
    have hs5 := hk5.size
    have hbl : Below w.heap.size w5 (w5.setRow w.heap.size (pshA q.1 A5 n5 c5)) := below_setRow11 (Below.refl _ _) (Nat.le_refl _) _
    refine ⟨setRow_heap w5 _ _ _ _ _ hbx5, (ho5.up (by omega)).setRow (by omega), ⟨A9, n9, c9, e9, ?_⟩, BY.out.trans (Below.trans (below_drewN (Below.refl _ wy) 1) ((hk5.to (D := w.heap.size) (by omega) (by omega)).trans hbl)), by rw [size_setRow]; omega⟩
    refine ⟨(setRow_other _ _ _ _ (by omega)).trans hr9.box, hr9.dg, fun B e => ?_, hr9.err⟩
    obtain ⟨h1, h2, h3, h4⟩ := hr9.ok B e
    exact ⟨h1, h2, h3.keep fun k hk => hbl.block k hk, h4⟩)
  clear CT RD RY XY BY hC hds hbx5 ho5 hr5 hsy HE
  generalize w5.setRow w.heap.size (pshA q.1 A5 n5 c5) = w6 at *
  obtain ⟨A9, n9, c9, e9, hr9⟩ := PE.out.rd
  have hsz6 := PE.out.sz
  have PI := Lib.hid (pIn PE.out.own HSM.out)
  have CC := Lib.hid (check_any PI.out (Nat.le_refl _))
  have c0 := hr9.c0
  have HR9 := Lib.hid hr9
  have HX6 := Lib.hid PE.out.box
  clear hr9
  by_cases hn : n9 = 0
  · subst hn
    cases hc : checkP q.1 with
    | true =>
      rw [hc, show errI true = 0 from rfl] at CC
      have HST : Hid (q.2 = stE q) := Lib.hid (by
        unfold stE
        cases h : q.2 with
        | error e => rfl
        | ok B =>
          have hB : B = [] := List.eq_nil_of_length_eq_zero (HR9.out.ok B h).2.1.symm
          dsimp only
          rw [if_pos ⟨hB, hc⟩])
      go_upto_region 6 with (first
        | (refine wpList_load_rowG rfl 24 (.tmp 2) rfl w.heap.size rfl 24 _ (0, 0) _ HX6.out Try.underlying24 rfl pshInfo ?_)
        | (go_at_call 15; refine CC.out.mono ?_; rintro E w7 ⟨rfl, hb7⟩; have PF := Lib.hid (pend_to (st := stE q) PE.out (kp_below hb7) ⟨A9, 0, c9, e9, by rw [← HST.out]; exact HR9.out.below hb7⟩); clear hb7))
      have HEN := Lib.hid (end_stE q)
      obtain ⟨A7, n7, c7, e7, hr7⟩ := PF.out.rd
      have d1 := hr7.c1
      have P7 := Lib.hid PF.out
      have HR7 := Lib.hid hr7
      clear hr7 PF
      have HPS := Lib.hid P7.out.sz
      cases hst : stE q with
      | error x =>
        obtain ⟨rfl, hx⟩ := HR7.out.err x hst
        have hq : (e7 == 0) = false := by rw [beq_eq_false_iff_ne]; exact hx
        have HEN : Hid (endP q = (zeroP, e7)) := Lib.hid (by rw [HEN.out, hst])
        clear hx hst
        go_upto_region 7 with fail
        refine wp_region_held_drew (S := fun w' => w'.cell? ⟨w.heap.size + 1, 1, none⟩ = some (.int .i64 e7)) (by kernel_rfl) d1 (fun hH => ?_)
        refine wpAnyH_take (i := 0) (v := .agg (pshA zeroP none 0 0)) rfl (by kernel_rfl) (by kernel_rfl) (by kernel_rfl) (fun _ _ _ h => h) (yieldsIf_buildV (by rfl) 24 _ rfl [] (by simp) _ builtZ) hH ?_
        refine wpAnyH_take (i := 1) (v := .pointer (some ⟨w.heap.size + 1, 0, none⟩)) rfl (by kernel_rfl) (by kernel_rfl) (by kernel_rfl) (fun _ _ _ h => h) (Or.inl ⟨by rfl, fun w hw => by go_simp⟩) hH ?_
        refine wpAnyH_take (i := 2) (v := .pointer (some ⟨w.heap.size + 1, 0, none⟩)) rfl (by kernel_rfl) (by kernel_rfl) (by kernel_rfl) (fun _ _ _ h => h) (Or.inl ⟨by rfl, fun w hw => by go_simp⟩) hH ?_
        refine wpAnyH_take (i := 3) (v := .pointer (some ⟨w.heap.size + 1, 1, none⟩)) rfl (by kernel_rfl) (by kernel_rfl) (by kernel_rfl) (fun _ _ _ h => h) (Or.inl ⟨by rfl, fun w hw => by go_simp⟩) hH ?_
        refine wpAnyH_take (i := 4) (v := .int .i64 e7) rfl (by kernel_rfl) (by kernel_rfl) (by kernel_rfl) (fun _ _ _ h => h) (Or.inl ⟨by rfl, fun w' hw => by go_simp⟩) hH ?_
        simp only [Act.put, List.setIfInBounds_toArray, List.set_cons_zero, List.set_cons_succ, List.getElem_toArray, List.getElem_cons_zero, List.getElem_cons_succ]
        refine wpAnyH_ready (rs := [5]) (by kernel_rfl) (by simp) (AllReadyH.cons rfl (fun K hK => ?_) AllReadyH.nil)
        rw [if_pos (by kernel_rfl)]
        refine wp_store_row 24 (.tmp 2) (.tmp 36) rfl w.heap.size (pshA zeroP none 0 0) rfl rfl 24 _ P7.out.box pshInfo rfl (pshA_one _ _ _ _) ?_
        have hH2 : (w7.drew.setRow w.heap.size (pshA zeroP none 0 0)).cell? ⟨w.heap.size + 1, 1, none⟩ = some (.int .i64 e7) := (cell_setRow_other _ _ _ _ (show w.heap.size + 1 ≠ w.heap.size by omega)).trans hH
        refine hK.out _ _ hH2 (fun hH => ?_)
        clear hK K
        refine wpAnyH_take (i := 6) (v := .int .i64 e7) rfl (by kernel_rfl) (by kernel_rfl) (by kernel_rfl) (fun _ _ _ h => h) (Or.inl ⟨by rfl, fun w hw => by go_simp⟩) hH ?_
        refine wpAnyH_done (by kernel_rfl) ?_ _
        have FB : Hid (Box (w7.drew.setRow w.heap.size (pshA zeroP none 0 0)) w.heap.size 24 (pshA zeroP none 0 0)) := Lib.hid (setRow_heap w7.drew _ _ _ _ _ P7.out.box)
        have FBL : Hid (Below w.heap.size w (w7.drew.setRow w.heap.size (pshA zeroP none 0 0))) := Lib.hid (below_setRow11 (below_drewN P7.out.bl 1) (Nat.le_refl _) _)
        generalize w7.drew.setRow w.heap.size (pshA zeroP none 0 0) = w9 at *
        go_wp2_with fail
        refine bodyPost_ret (results_row_tmp rfl _ _ w.heap.size (pshA zeroP none 0 0) (.int .i64 e7) rfl rfl FB.out pshInfo) rfl ?_
        rw [HRQ.out, HEN.out]
        exact ⟨none, 0, 0, rfl, Own.nil _ _, FBL.out⟩
      | ok B =>
        obtain ⟨rfl, _⟩ := HR7.out.ok B hst
        have HEN : Hid (endP q = (q.1, 0)) := Lib.hid (by rw [HEN.out, hst])
        clear hst
        have FB : Hid (Box (w7.setRow w.heap.size (pshA q.1 A5 n5 c5)) w.heap.size 24 (pshA q.1 A5 n5 c5)) := Lib.hid (setRow_heap w7 _ _ _ _ _ P7.out.box)
        have FBL : Hid (Below w.heap.size w (w7.setRow w.heap.size (pshA q.1 A5 n5 c5))) := Lib.hid (below_setRow11 P7.out.bl (Nat.le_refl _) _)
        have FO : Hid (Own (w7.setRow w.heap.size (pshA q.1 A5 n5 c5)) w.heap.size (.slice A5 n5 c5) q.1.lines) := Lib.hid ((P7.out.own.setRow (by omega)).up (by omega))
        have P7B := Lib.hid P7.out.box
        go_wp2_with (first
          | (refine wpList_load_row rfl 24 (.tmp 2) rfl w.heap.size rfl 24 _ (0, 0) _ P7B.out Try.underlying24 rfl pshInfo ?_)
          | (refine wpList_store_row rfl 24 (.tmp 2) (.tmp 41) rfl w.heap.size _ rfl rfl 24 _ P7B.out pshInfo rfl (pshA_one _ _ _ _) ?_))
        refine bodyPost_ret (results_row_tmp rfl _ _ w.heap.size (pshA q.1 A5 n5 c5) (.int .i64 0) rfl rfl FB.out pshInfo) rfl ?_
        rw [HRQ.out, HEN.out]
        exact ⟨A5, n5, c5, rfl, FO.out, FBL.out⟩
    | false =>
      rw [hc, show errI false = 2 from rfl] at CC
      have HST : Hid (flC q.2 4 = stE q) := Lib.hid (by
        unfold stE
        cases h : q.2 with
        | error e => rfl
        | ok B => dsimp only; rw [if_neg (by rw [hc]; simp)]; rfl)
      go_upto_region 6 with (first
        | (refine wpList_load_rowG rfl 24 (.tmp 2) rfl w.heap.size rfl 24 _ (0, 0) _ HX6.out Try.underlying24 rfl pshInfo ?_)
        | (go_at_call 15; refine CC.out.mono ?_; rintro E w8 ⟨rfl, hb8⟩; have B8 := Lib.hid hb8; clear hb8)
        | (go_at_call 57; refine (fail_prog (HR9.out.below B8.out) (x := 4) (by decide)).mono ?_; rintro E w7 ⟨rfl, hk7, hr7⟩; have PF := Lib.hid (pend_to (st := stE q) PE.out ((kp_below B8.out).then hk7) (by rw [← HST.out]; exact hr7)); clear hk7 hr7))
      have HEN := Lib.hid (end_stE q)
      obtain ⟨A7, n7, c7, e7, hr7⟩ := PF.out.rd
      have d1 := hr7.c1
      have P7 := Lib.hid PF.out
      have HR7 := Lib.hid hr7
      clear hr7 PF
      have HPS := Lib.hid P7.out.sz
      cases hst : stE q with
      | error x =>
        obtain ⟨rfl, hx⟩ := HR7.out.err x hst
        have hq : (e7 == 0) = false := by rw [beq_eq_false_iff_ne]; exact hx
        have HEN : Hid (endP q = (zeroP, e7)) := Lib.hid (by rw [HEN.out, hst])
        clear hx hst
        go_upto_region 7 with fail
        refine wp_region_held_drew (S := fun w' => w'.cell? ⟨w.heap.size + 1, 1, none⟩ = some (.int .i64 e7)) (by kernel_rfl) d1 (fun hH => ?_)
        refine wpAnyH_take (i := 0) (v := .agg (pshA zeroP none 0 0)) rfl (by kernel_rfl) (by kernel_rfl) (by kernel_rfl) (fun _ _ _ h => h) (yieldsIf_buildV (by rfl) 24 _ rfl [] (by simp) _ builtZ) hH ?_
        refine wpAnyH_take (i := 1) (v := .pointer (some ⟨w.heap.size + 1, 0, none⟩)) rfl (by kernel_rfl) (by kernel_rfl) (by kernel_rfl) (fun _ _ _ h => h) (Or.inl ⟨by rfl, fun w hw => by go_simp⟩) hH ?_
        refine wpAnyH_take (i := 2) (v := .pointer (some ⟨w.heap.size + 1, 0, none⟩)) rfl (by kernel_rfl) (by kernel_rfl) (by kernel_rfl) (fun _ _ _ h => h) (Or.inl ⟨by rfl, fun w hw => by go_simp⟩) hH ?_
        refine wpAnyH_take (i := 3) (v := .pointer (some ⟨w.heap.size + 1, 1, none⟩)) rfl (by kernel_rfl) (by kernel_rfl) (by kernel_rfl) (fun _ _ _ h => h) (Or.inl ⟨by rfl, fun w hw => by go_simp⟩) hH ?_
        refine wpAnyH_take (i := 4) (v := .int .i64 e7) rfl (by kernel_rfl) (by kernel_rfl) (by kernel_rfl) (fun _ _ _ h => h) (Or.inl ⟨by rfl, fun w' hw => by go_simp⟩) hH ?_
        simp only [Act.put, List.setIfInBounds_toArray, List.set_cons_zero, List.set_cons_succ, List.getElem_toArray, List.getElem_cons_zero, List.getElem_cons_succ]
        refine wpAnyH_ready (rs := [5]) (by kernel_rfl) (by simp) (AllReadyH.cons rfl (fun K hK => ?_) AllReadyH.nil)
        rw [if_pos (by kernel_rfl)]
        refine wp_store_row 24 (.tmp 2) (.tmp 36) rfl w.heap.size (pshA zeroP none 0 0) rfl rfl 24 _ P7.out.box pshInfo rfl (pshA_one _ _ _ _) ?_
        have hH2 : (w7.drew.setRow w.heap.size (pshA zeroP none 0 0)).cell? ⟨w.heap.size + 1, 1, none⟩ = some (.int .i64 e7) := (cell_setRow_other _ _ _ _ (show w.heap.size + 1 ≠ w.heap.size by omega)).trans hH
        refine hK.out _ _ hH2 (fun hH => ?_)
        clear hK K
        refine wpAnyH_take (i := 6) (v := .int .i64 e7) rfl (by kernel_rfl) (by kernel_rfl) (by kernel_rfl) (fun _ _ _ h => h) (Or.inl ⟨by rfl, fun w hw => by go_simp⟩) hH ?_
        refine wpAnyH_done (by kernel_rfl) ?_ _
        have FB : Hid (Box (w7.drew.setRow w.heap.size (pshA zeroP none 0 0)) w.heap.size 24 (pshA zeroP none 0 0)) := Lib.hid (setRow_heap w7.drew _ _ _ _ _ P7.out.box)
        have FBL : Hid (Below w.heap.size w (w7.drew.setRow w.heap.size (pshA zeroP none 0 0))) := Lib.hid (below_setRow11 (below_drewN P7.out.bl 1) (Nat.le_refl _) _)
        generalize w7.drew.setRow w.heap.size (pshA zeroP none 0 0) = w9 at *
        go_wp2_with fail
        refine bodyPost_ret (results_row_tmp rfl _ _ w.heap.size (pshA zeroP none 0 0) (.int .i64 e7) rfl rfl FB.out pshInfo) rfl ?_
        rw [HRQ.out, HEN.out]
        exact ⟨none, 0, 0, rfl, Own.nil _ _, FBL.out⟩
      | ok B =>
        obtain ⟨rfl, _⟩ := HR7.out.ok B hst
        have HEN : Hid (endP q = (q.1, 0)) := Lib.hid (by rw [HEN.out, hst])
        clear hst
        have FB : Hid (Box (w7.setRow w.heap.size (pshA q.1 A5 n5 c5)) w.heap.size 24 (pshA q.1 A5 n5 c5)) := Lib.hid (setRow_heap w7 _ _ _ _ _ P7.out.box)
        have FBL : Hid (Below w.heap.size w (w7.setRow w.heap.size (pshA q.1 A5 n5 c5))) := Lib.hid (below_setRow11 P7.out.bl (Nat.le_refl _) _)
        have FO : Hid (Own (w7.setRow w.heap.size (pshA q.1 A5 n5 c5)) w.heap.size (.slice A5 n5 c5) q.1.lines) := Lib.hid ((P7.out.own.setRow (by omega)).up (by omega))
        have P7B := Lib.hid P7.out.box
        go_wp2_with (first
          | (refine wpList_load_row rfl 24 (.tmp 2) rfl w.heap.size rfl 24 _ (0, 0) _ P7B.out Try.underlying24 rfl pshInfo ?_)
          | (refine wpList_store_row rfl 24 (.tmp 2) (.tmp 41) rfl w.heap.size _ rfl rfl 24 _ P7B.out pshInfo rfl (pshA_one _ _ _ _) ?_))
        refine bodyPost_ret (results_row_tmp rfl _ _ w.heap.size (pshA q.1 A5 n5 c5) (.int .i64 0) rfl rfl FB.out pshInfo) rfl ?_
        rw [HRQ.out, HEN.out]
        exact ⟨A5, n5, c5, rfl, FO.out, FBL.out⟩
  · have q1 : (0 : Int) < n9 := by omega
    have HST : Hid (flC q.2 4 = stE q) := Lib.hid (by
        unfold stE
        cases h : q.2 with
        | error e => rfl
        | ok B => dsimp only; rw [if_neg (fun hb => hn (by rw [(HR9.out.ok B h).2.1, hb.1]; rfl))]; rfl)
    go_upto_region 6 with (go_at_call 57; refine (fail_prog HR9.out (x := 4) (by decide)).mono ?_; rintro E w7 ⟨rfl, hk7, hr7⟩; have PF := Lib.hid (pend_to (st := stE q) PE.out hk7 (by rw [← HST.out]; exact hr7)); clear hk7 hr7)
    have HEN := Lib.hid (end_stE q)
    obtain ⟨A7, n7, c7, e7, hr7⟩ := PF.out.rd
    have d1 := hr7.c1
    have P7 := Lib.hid PF.out
    have HR7 := Lib.hid hr7
    clear hr7 PF
    have HPS := Lib.hid P7.out.sz
    cases hst : stE q with
    | error x =>
      obtain ⟨rfl, hx⟩ := HR7.out.err x hst
      have hq : (e7 == 0) = false := by rw [beq_eq_false_iff_ne]; exact hx
      have HEN : Hid (endP q = (zeroP, e7)) := Lib.hid (by rw [HEN.out, hst])
      clear hx hst
      go_upto_region 7 with fail
      refine wp_region_held_drew (S := fun w' => w'.cell? ⟨w.heap.size + 1, 1, none⟩ = some (.int .i64 e7)) (by kernel_rfl) d1 (fun hH => ?_)
      refine wpAnyH_take (i := 0) (v := .agg (pshA zeroP none 0 0)) rfl (by kernel_rfl) (by kernel_rfl) (by kernel_rfl) (fun _ _ _ h => h) (yieldsIf_buildV (by rfl) 24 _ rfl [] (by simp) _ builtZ) hH ?_
      refine wpAnyH_take (i := 1) (v := .pointer (some ⟨w.heap.size + 1, 0, none⟩)) rfl (by kernel_rfl) (by kernel_rfl) (by kernel_rfl) (fun _ _ _ h => h) (Or.inl ⟨by rfl, fun w hw => by go_simp⟩) hH ?_
      refine wpAnyH_take (i := 2) (v := .pointer (some ⟨w.heap.size + 1, 0, none⟩)) rfl (by kernel_rfl) (by kernel_rfl) (by kernel_rfl) (fun _ _ _ h => h) (Or.inl ⟨by rfl, fun w hw => by go_simp⟩) hH ?_
      refine wpAnyH_take (i := 3) (v := .pointer (some ⟨w.heap.size + 1, 1, none⟩)) rfl (by kernel_rfl) (by kernel_rfl) (by kernel_rfl) (fun _ _ _ h => h) (Or.inl ⟨by rfl, fun w hw => by go_simp⟩) hH ?_
      refine wpAnyH_take (i := 4) (v := .int .i64 e7) rfl (by kernel_rfl) (by kernel_rfl) (by kernel_rfl) (fun _ _ _ h => h) (Or.inl ⟨by rfl, fun w' hw => by go_simp⟩) hH ?_
      simp only [Act.put, List.setIfInBounds_toArray, List.set_cons_zero, List.set_cons_succ, List.getElem_toArray, List.getElem_cons_zero, List.getElem_cons_succ]
      refine wpAnyH_ready (rs := [5]) (by kernel_rfl) (by simp) (AllReadyH.cons rfl (fun K hK => ?_) AllReadyH.nil)
      rw [if_pos (by kernel_rfl)]
      refine wp_store_row 24 (.tmp 2) (.tmp 36) rfl w.heap.size (pshA zeroP none 0 0) rfl rfl 24 _ P7.out.box pshInfo rfl (pshA_one _ _ _ _) ?_
      have hH2 : (w7.drew.setRow w.heap.size (pshA zeroP none 0 0)).cell? ⟨w.heap.size + 1, 1, none⟩ = some (.int .i64 e7) := (cell_setRow_other _ _ _ _ (show w.heap.size + 1 ≠ w.heap.size by omega)).trans hH
      refine hK.out _ _ hH2 (fun hH => ?_)
      clear hK K
      refine wpAnyH_take (i := 6) (v := .int .i64 e7) rfl (by kernel_rfl) (by kernel_rfl) (by kernel_rfl) (fun _ _ _ h => h) (Or.inl ⟨by rfl, fun w hw => by go_simp⟩) hH ?_
      refine wpAnyH_done (by kernel_rfl) ?_ _
      have FB : Hid (Box (w7.drew.setRow w.heap.size (pshA zeroP none 0 0)) w.heap.size 24 (pshA zeroP none 0 0)) := Lib.hid (setRow_heap w7.drew _ _ _ _ _ P7.out.box)
      have FBL : Hid (Below w.heap.size w (w7.drew.setRow w.heap.size (pshA zeroP none 0 0))) := Lib.hid (below_setRow11 (below_drewN P7.out.bl 1) (Nat.le_refl _) _)
      generalize w7.drew.setRow w.heap.size (pshA zeroP none 0 0) = w9 at *
      go_wp2_with fail
      refine bodyPost_ret (results_row_tmp rfl _ _ w.heap.size (pshA zeroP none 0 0) (.int .i64 e7) rfl rfl FB.out pshInfo) rfl ?_
      rw [HRQ.out, HEN.out]
      exact ⟨none, 0, 0, rfl, Own.nil _ _, FBL.out⟩
    | ok B =>
      obtain ⟨rfl, _⟩ := HR7.out.ok B hst
      have HEN : Hid (endP q = (q.1, 0)) := Lib.hid (by rw [HEN.out, hst])
      clear hst
      have FB : Hid (Box (w7.setRow w.heap.size (pshA q.1 A5 n5 c5)) w.heap.size 24 (pshA q.1 A5 n5 c5)) := Lib.hid (setRow_heap w7 _ _ _ _ _ P7.out.box)
      have FBL : Hid (Below w.heap.size w (w7.setRow w.heap.size (pshA q.1 A5 n5 c5))) := Lib.hid (below_setRow11 P7.out.bl (Nat.le_refl _) _)
      have FO : Hid (Own (w7.setRow w.heap.size (pshA q.1 A5 n5 c5)) w.heap.size (.slice A5 n5 c5) q.1.lines) := Lib.hid ((P7.out.own.setRow (by omega)).up (by omega))
      have P7B := Lib.hid P7.out.box
      go_wp2_with (first
        | (refine wpList_load_row rfl 24 (.tmp 2) rfl w.heap.size rfl 24 _ (0, 0) _ P7B.out Try.underlying24 rfl pshInfo ?_)
        | (refine wpList_store_row rfl 24 (.tmp 2) (.tmp 41) rfl w.heap.size _ rfl rfl 24 _ P7B.out pshInfo rfl (pshA_one _ _ _ _) ?_))
      refine bodyPost_ret (results_row_tmp rfl _ _ w.heap.size (pshA q.1 A5 n5 c5) (.int .i64 0) rfl rfl FB.out pshInfo) rfl ?_
      rw [HRQ.out, HEN.out]
      exact ⟨A5, n5, c5, rfl, FO.out, FBL.out⟩
end Go.Proofs.Ytajkbkllgbalkaa
