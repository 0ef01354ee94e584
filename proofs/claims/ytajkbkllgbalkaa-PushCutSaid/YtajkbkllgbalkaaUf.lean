/- The program's isZero and fits, of each field; the step of Check. -/
import Derived.Test.YtajkbkllgbalkaaUe
import Derived.Laws.Rows
namespace Go.Proofs.Ytajkbkllgbalkaa
open Go Go.RowKit

theorem equal_any {w : World} {p q : Psh} {A B : Option Addr} {n c m d D D' : Nat} (hp : PsIn D w p A n c) (hq : PsIn D' w q B m d) (hD : D ≤ w.heap.size) (hD' : D' ≤ w.heap.size) (k : Nat) (hk : k < 8) :
    Calls Try.prog 50 #[.agg (pshA p A n c), .agg (pshA q B m d), .int .i64 (bitI k)] w (TellsP (equalF p q k) w) := by
  match k, hk with
  | 0, _ => exact equal_0
  | 1, _ => exact equal_1
  | 2, _ => exact equal_2
  | 3, _ => exact equal_3
  | 4, _ => exact equal_4
  | 5, _ => exact equal_5
  | 6, _ => exact equal_6
  | 7, _ => exact equal_7 hp hq hD hD'
theorem tells_low {b : Bool} {w w1 w2 : World} {e : Ending} (h : TellsP b w1 e w2) (hb : Below w.heap.size w w1) : TellsP b w e w2 := ⟨h.1, hb.trans (h.2.mono hb.size)⟩
theorem psh_row (w : World) (p : Psh) (A : Option Addr) (n c : Nat) : (w.alloc (.cells (pshA p A n c) 24)).heap[w.heap.size]? = some (.cells (pshA p A n c) 24 (0, 0)) := heap_alloc_new w _
theorem pshInfo {p : Psh} {A : Option Addr} {n c : Nat} : (Try.prog.info? 24).map (·.size) = some (pshA p A n c).size := by
  show _ = some 9
  kernel_rfl
set_option maxRecDepth 100000 in
theorem isZero_any {w : World} {p : Psh} {A : Option Addr} {n c D : Nat} (hp : PsIn D w p A n c) (hD : D ≤ w.heap.size) (k : Nat) (hk : k < 8) :
    Calls Try.prog 44 #[.agg (pshA p A n c), .int .i64 (bitI k)] w (TellsP (equalF p zeroP k) w) := by
  have hb := below_new w (.cells (pshA p A n c) 24)
  have CE := Lib.hid (equal_any (w := w.alloc (.cells (pshA p A n c) 24)) (hp.keep fun j hj => hb.block j (Nat.lt_of_lt_of_le hj hD)) (zero_in 0 _) (Nat.le_trans hD hb.size) (Nat.zero_le _) k hk)
  have HB := Lib.hid hb
  clear hp hb
  generalize bitI k = f at *
  unfold TellsP at *
  go_enter Try.func44, Try.ntmps44
  go_upto_region 1 with fail
  have HGB := Lib.hid (psh_row w p A n c)
  generalize w.alloc (.cells (pshA p A n c) 24) = w2 at *
  go_wp2_with (first
    | (refine wpList_load_row rfl 24 (.tmp 2) rfl w.heap.size rfl 24 _ (0, 0) _ HGB.out Try.underlying24 rfl pshInfo ?_)
    | (go_at_call 50; refine CE.out.mono ?_; rintro E w1 ⟨rfl, hb1⟩; have B1 := Lib.hid (HB.out.trans (hb1.mono HB.out.size)); clear hb1))
  go_ret
  exact ⟨rfl, B1.out⟩
set_option maxRecDepth 100000 in
theorem fits_0 {w : World} {p : Psh} {A : Option Addr} {n c : Nat} : Calls Try.prog 45 #[.agg (pshA p A n c), .int .i64 1] w (TellsP (fitsF p 0) w) := by
  have hb := below_new w (.cells (pshA p A n c) 24)
  have HB := Lib.hid (below_drewN hb 1)
  have d0 : (w.alloc (.cells (pshA p A n c) 24)).cell? ⟨w.heap.size, 0, none⟩ = some (.int .i64 p.kind) := by rw [psh_cell]; rfl
  have d1 : (w.alloc (.cells (pshA p A n c) 24)).cell? ⟨w.heap.size, 1, none⟩ = some (.int .i64 p.ver) := by rw [psh_cell]; rfl
  have HE : Hid (fitsF p 0 = inR p.ver (leastV p.kind) 9007199254740991) := Lib.hid rfl
  clear hb
  unfold TellsP
  rw [HE.out]
  go_enter Try.func45, Try.ntmps45
  go_upto_region 3 with fail
  generalize (w.alloc (.cells (pshA p A n c) 24)) = w2 at *
  generalize w.heap.size = g at d0 d1 ⊢
  go_region_held3 (fun w' => w'.cell? ⟨g, 0, none⟩ = some (.int .i64 p.kind) ∧ w'.cell? ⟨g, 1, none⟩ = some (.int .i64 p.ver)) (first | exact ⟨d0, d1⟩ | go_keep) ((first
    | (go_at_call 72; refine (leastV_any _ _).mono ?_; rintro E w1 ⟨rfl, rfl⟩)
    | (go_at_call 71; refine (within_any _ _ _ _).mono ?_; rintro E w1 ⟨rfl, rfl⟩)))
  all_goals
    go_wp2_with fail
    go_ret
    exact ⟨rfl, HB.out⟩
set_option maxRecDepth 100000 in
theorem fits_1 {w : World} {p : Psh} {A : Option Addr} {n c : Nat} : Calls Try.prog 45 #[.agg (pshA p A n c), .int .i64 2] w (TellsP (fitsF p 1) w) := by
  have hb := below_new w (.cells (pshA p A n c) 24)
  have HB := Lib.hid hb
  have d0 : (w.alloc (.cells (pshA p A n c) 24)).cell? ⟨w.heap.size, 2, none⟩ = some (.int .i64 p.frm) := by rw [psh_cell]; rfl
  have d1 : (w.alloc (.cells (pshA p A n c) 24)).cell? ⟨w.heap.size, 1, none⟩ = some (.int .i64 p.ver) := by rw [psh_cell]; rfl
  have HE : Hid (fitsF p 1 = (decide (1 ≤ p.frm) && decide (p.frm < p.ver))) := Lib.hid rfl
  clear hb
  unfold TellsP
  rw [HE.out]
  by_cases h1 : 1 ≤ p.frm
  · rw [decide_eq_true h1]
    by_cases h2 : p.frm < p.ver
    · rw [decide_eq_true h2]
      go_enter Try.func45, Try.ntmps45
      go_upto_region 5 with fail
      generalize (w.alloc (.cells (pshA p A n c) 24)) = w2 at *
      go_wp2_with fail
      go_ret
      exact ⟨rfl, HB.out⟩
    · rw [decide_eq_false h2]
      go_enter Try.func45, Try.ntmps45
      go_upto_region 5 with fail
      generalize (w.alloc (.cells (pshA p A n c) 24)) = w2 at *
      go_wp2_with fail
      go_ret
      exact ⟨rfl, HB.out⟩
  · rw [decide_eq_false h1]
    go_enter Try.func45, Try.ntmps45
    go_upto_region 5 with fail
    generalize (w.alloc (.cells (pshA p A n c) 24)) = w2 at *
    go_wp2_with fail
    go_ret
    exact ⟨rfl, HB.out⟩
set_option maxRecDepth 100000 in
theorem fits_2 {w : World} {p : Psh} {A : Option Addr} {n c : Nat} : Calls Try.prog 45 #[.agg (pshA p A n c), .int .i64 4] w (TellsP (fitsF p 2) w) := by
  have hb := below_new w (.cells (pshA p A n c) 24)
  have HB := Lib.hid hb
  have d0 : (w.alloc (.cells (pshA p A n c) 24)).cell? ⟨w.heap.size, 3, none⟩ = some (.int .i64 p.node) := by rw [psh_cell]; rfl
  have HE : Hid (fitsF p 2 = inR p.node 0 6) := Lib.hid rfl
  clear hb
  unfold TellsP
  rw [HE.out]
  go_enter Try.func45, Try.ntmps45
  go_upto_region 7 with fail
  generalize (w.alloc (.cells (pshA p A n c) 24)) = w2 at *
  go_wp2_with (go_at_call 71; refine (within_any _ _ _ _).mono ?_; rintro E w1 ⟨rfl, rfl⟩)
  go_ret
  exact ⟨rfl, HB.out⟩
set_option maxRecDepth 100000 in
theorem fits_3 {w : World} {p : Psh} {A : Option Addr} {n c : Nat} : Calls Try.prog 45 #[.agg (pshA p A n c), .int .i64 8] w (TellsP (fitsF p 3) w) := by
  have hb := below_new w (.cells (pshA p A n c) 24)
  have HB := Lib.hid hb
  have d0 : (w.alloc (.cells (pshA p A n c) 24)).cell? ⟨w.heap.size, 4, none⟩ = some (.int .i64 p.tick) := by rw [psh_cell]; rfl
  have HE : Hid (fitsF p 3 = inR p.tick 0 9007199254740991) := Lib.hid rfl
  clear hb
  unfold TellsP
  rw [HE.out]
  go_enter Try.func45, Try.ntmps45
  go_upto_region 9 with fail
  generalize (w.alloc (.cells (pshA p A n c) 24)) = w2 at *
  go_wp2_with (go_at_call 71; refine (within_any _ _ _ _).mono ?_; rintro E w1 ⟨rfl, rfl⟩)
  go_ret
  exact ⟨rfl, HB.out⟩
set_option maxRecDepth 100000 in
theorem fits_4 {w : World} {p : Psh} {A : Option Addr} {n c : Nat} : Calls Try.prog 45 #[.agg (pshA p A n c), .int .i64 16] w (TellsP (fitsF p 4) w) := by
  have hb := below_new w (.cells (pshA p A n c) 24)
  have HB := Lib.hid hb
  have d0 : (w.alloc (.cells (pshA p A n c) 24)).cell? ⟨w.heap.size, 5, none⟩ = some (.int .i64 p.head) := by rw [psh_cell]; rfl
  have HE : Hid (fitsF p 4 = inR p.head 0 65536) := Lib.hid rfl
  clear hb
  unfold TellsP
  rw [HE.out]
  go_enter Try.func45, Try.ntmps45
  go_upto_region 11 with fail
  generalize (w.alloc (.cells (pshA p A n c) 24)) = w2 at *
  go_wp2_with (go_at_call 71; refine (within_any _ _ _ _).mono ?_; rintro E w1 ⟨rfl, rfl⟩)
  go_ret
  exact ⟨rfl, HB.out⟩
set_option maxRecDepth 100000 in
theorem fits_5 {w : World} {p : Psh} {A : Option Addr} {n c : Nat} : Calls Try.prog 45 #[.agg (pshA p A n c), .int .i64 32] w (TellsP (fitsF p 5) w) := by
  have hb := below_new w (.cells (pshA p A n c) 24)
  have HB := Lib.hid hb
  have d0 : (w.alloc (.cells (pshA p A n c) 24)).cell? ⟨w.heap.size, 6, none⟩ = some (.int .i64 p.tail) := by rw [psh_cell]; rfl
  have HE : Hid (fitsF p 5 = inR p.tail 0 65536) := Lib.hid rfl
  clear hb
  unfold TellsP
  rw [HE.out]
  go_enter Try.func45, Try.ntmps45
  go_upto_region 13 with fail
  generalize (w.alloc (.cells (pshA p A n c) 24)) = w2 at *
  go_wp2_with (go_at_call 71; refine (within_any _ _ _ _).mono ?_; rintro E w1 ⟨rfl, rfl⟩)
  go_ret
  exact ⟨rfl, HB.out⟩
set_option maxRecDepth 100000 in
theorem fits_6 {w : World} {p : Psh} {A : Option Addr} {n c : Nat} (hl : p.text.length ≤ 1000000000) : Calls Try.prog 45 #[.agg (pshA p A n c), .int .i64 64] w (TellsP (fitsF p 6) w) := by
  have hb := below_new w (.cells (pshA p A n c) 24)
  have HB := Lib.hid hb
  have d0 : (w.alloc (.cells (pshA p A n c) 24)).cell? ⟨w.heap.size, 7, none⟩ = some (.string ⟨p.text.toArray⟩) := by rw [psh_cell]; rfl
  have HE : Hid (fitsF p 6 = decide (p.text.length ≤ 65536)) := Lib.hid rfl
  clear hb
  unfold TellsP
  rw [HE.out]
  by_cases h1 : p.text.length ≤ 65536
  · rw [decide_eq_true h1]
    have q1 : ((p.text.length : Nat) : Int) ≤ 65536 := by omega
    go_enter Try.func45, Try.ntmps45
    go_upto_region 15 with fail
    generalize (w.alloc (.cells (pshA p A n c) 24)) = w2 at *
    go_wp2_with fail
    go_ret
    exact ⟨rfl, HB.out⟩
  · rw [decide_eq_false h1]
    have q1 : ¬ ((p.text.length : Nat) : Int) ≤ 65536 := by omega
    go_enter Try.func45, Try.ntmps45
    go_upto_region 15 with fail
    generalize (w.alloc (.cells (pshA p A n c) 24)) = w2 at *
    go_wp2_with fail
    go_ret
    exact ⟨rfl, HB.out⟩
set_option maxRecDepth 100000 in
theorem fits_7 {w : World} {p : Psh} {A : Option Addr} {n c : Nat} {D : Nat} (hp : PsIn D w p A n c) (hD : D ≤ w.heap.size) : Calls Try.prog 45 #[.agg (pshA p A n c), .int .i64 128] w (TellsP (fitsF p 7) w) := by
  have hb := below_new w (.cells (pshA p A n c) 24)
  have HB := Lib.hid hb
  have d0 : (w.alloc (.cells (pshA p A n c) 24)).cell? ⟨w.heap.size, 8, none⟩ = some (.slice A n c) := by rw [psh_cell]; rfl
  have HE : Hid (fitsF p 7 = areL p.lines) := Lib.hid rfl
  have CA := Lib.hid (areLines_any (w := w.alloc (.cells (pshA p A n c) 24)) (hp.ts.keep fun k hk => hb.block k (Nat.lt_of_lt_of_le hk hD)) hp.len hp.few hp.short)
  clear hb hp
  unfold TellsP
  rw [HE.out]
  go_enter Try.func45, Try.ntmps45
  go_upto_region 16 with fail
  generalize (w.alloc (.cells (pshA p A n c) 24)) = w2 at *
  go_wp2_with (go_at_call 73; refine CA.out.mono ?_; rintro E w1 ⟨rfl, rfl⟩)
  go_ret
  exact ⟨rfl, HB.out⟩
theorem fits_any {w : World} {p : Psh} {A : Option Addr} {n c D : Nat} (hp : PsIn D w p A n c) (hD : D ≤ w.heap.size) (k : Nat) (hk : k < 8) :
    Calls Try.prog 45 #[.agg (pshA p A n c), .int .i64 (bitI k)] w (TellsP (fitsF p k) w) := by
  match k, hk with
  | 0, _ => exact fits_0
  | 1, _ => exact fits_1
  | 2, _ => exact fits_2
  | 3, _ => exact fits_3
  | 4, _ => exact fits_4
  | 5, _ => exact fits_5
  | 6, _ => exact fits_6 hp.txt
  | 7, _ => exact fits_7 hp hD
/-- a whole row, of a load that may wait -/
theorem wpList_load_rowG {P : Program} {ops : Array Oper} {rest : List Oper} {o : Oper} {a : Act} {w : World} {Q : Exit → Act → World → Prop} (hw : Region.wanted o (yielded ops a.tmps) = true) (ty : TypeId) (x : Operand) (ho : o.op = .load ty x)
    (g : Nat) (hx : a.eval x = .pointer (some ⟨g, 0, none⟩)) (t : TypeId) (cs : Array Value) (fr : Nat × Nat) (d : TypeDesc) (hg : w.heap[g]? = some (.cells cs t fr))
    (hu : P.underlying ty = some d) (hd : (match d with | .struct _ | .array _ _ => true | _ => false) = true) (hi : (P.info? ty).map (·.size) = some cs.size)
    (h : wpList P ops Q rest (a.put o.dst (.agg cs)) w) : wpList P ops Q (o :: rest) a w := by
  refine wpList_step fun K hK => ?_
  rw [if_pos hw]
  exact wp_load_row ty x ho g hx t cs fr d hg hu hd hi (hK _ _ h)
/-- a box: a block that holds one thing -/
def Box (w : World) (g : Nat) (t : TypeId) (vs : Array Value) : Prop := w.heap[g]? = some (.cells vs t (0, 0))
theorem Box.below {w w' : World} {g : Nat} {t : TypeId} {vs : Array Value} (h : Box w g t vs) (hb : Below w.heap.size w w') : Box w' g t vs := (hb.block g (Array.getElem?_eq_some_iff.1 h).1).trans h
theorem Box.cell {w : World} {g : Nat} {t : TypeId} {vs : Array Value} (h : Box w g t vs) (j : Nat) : w.cell? ⟨g, j, none⟩ = vs[j]? := by
  unfold World.cell?
  rw [show w.heap[(⟨g, j, none⟩ : Addr).block]? = _ from h]
  rfl
theorem Box.frozen {w : World} {g : Nat} {t : TypeId} {vs : Array Value} (h : Box w g t vs) (j : Nat) : w.frozen? ⟨g, j, none⟩ = false := by
  unfold World.frozen?
  rw [show w.heap[(⟨g, j, none⟩ : Addr).block]? = _ from h]
  simp
theorem Box.lt {w : World} {g : Nat} {t : TypeId} {vs : Array Value} (h : Box w g t vs) : g < w.heap.size := (Array.getElem?_eq_some_iff.1 h).1
theorem box_new (w : World) (t : TypeId) (vs : Array Value) : Box (w.alloc (.cells vs t)) w.heap.size t vs := heap_alloc_new w _
theorem and_bit (k : Int) (j : Nat) (hj : j < 8) : (bits BinOp.and IntKind.i64 (fldN k) (bitI j) == 0) = (!(fldL k).contains j) := by
  have h8 : j = 0 ∨ j = 1 ∨ j = 2 ∨ j = 3 ∨ j = 4 ∨ j = 5 ∨ j = 6 ∨ j = 7 := by omega
  rcases kinds k with (rfl | rfl | rfl | rfl | rfl) | ⟨h1, h2⟩
  · rcases h8 with rfl | rfl | rfl | rfl | rfl | rfl | rfl | rfl <;> rfl
  · rcases h8 with rfl | rfl | rfl | rfl | rfl | rfl | rfl | rfl <;> rfl
  · rcases h8 with rfl | rfl | rfl | rfl | rfl | rfl | rfl | rfl <;> rfl
  · rcases h8 with rfl | rfl | rfl | rfl | rfl | rfl | rfl | rfl <;> rfl
  · rcases h8 with rfl | rfl | rfl | rfl | rfl | rfl | rfl | rfl <;> rfl
  · rw [h1, h2]
    rcases h8 with rfl | rfl | rfl | rfl | rfl | rfl | rfl | rfl <;> rfl
set_option maxRecDepth 100000 in
theorem check1_any {w : World} {p : Psh} {A : Option Addr} {n c D gh gp : Nat} (hp : PsIn D w p A n c) (hD : D ≤ w.heap.size) (hh : Box w gh 57 #[.int .i64 (fldN p.kind)]) (hg : Box w gp 24 (pshA p A n c)) (so : Bool) (k : Nat) (hk : k < 8) :
    Calls Try.prog 43 #[.bool so, .int .i64 (bitI k), .pointer (some ⟨gh, 0, none⟩), .pointer (some ⟨gp, 0, none⟩)] w (TellsP (so && stepK p k) w) := by
  have CZ := Lib.hid (isZero_any hp hD k hk)
  have CF := Lib.hid (fits_any hp hD k hk)
  have hq := and_bit p.kind k hk
  have d0 : w.cell? ⟨gh, 0, none⟩ = some (.int .i64 (fldN p.kind)) := hh.cell 0
  have HG := Lib.hid hg
  have HS : Hid (stepK p k = if (fldL p.kind).contains k then fitsF p k else equalF p zeroP k) := Lib.hid rfl
  clear hp hh hg hk
  unfold TellsP at *
  generalize fldN p.kind = N at *
  generalize (fldL p.kind).contains k = b at *
  generalize fitsF p k = x at *
  generalize equalF p zeroP k = y at *
  generalize stepK p k = z at *
  generalize bitI k = f at *
  cases b with
  | true =>
    replace hq : (bits BinOp.and IntKind.i64 N f == 0) = false := hq
    have HS : Hid (z = x) := Lib.hid HS.out
    rw [HS.out]
    cases so with
    | true =>
      go_enter Try.func43, Try.ntmps43
      go_wp2_with (first
        | (refine wpList_load_rowG rfl 24 (.tmp 3) rfl gp rfl 24 _ (0, 0) _ HG.out Try.underlying24 rfl pshInfo ?_)
        | (go_at_call 45; refine CF.out.mono ?_; rintro E w1 ⟨rfl, hb1⟩))
      go_ret
      exact ⟨rfl, hb1⟩
    | false =>
      go_enter Try.func43, Try.ntmps43
      go_wp2_with fail
      go_ret
      exact ⟨rfl, Below.refl _ _⟩
  | false =>
    replace hq : (bits BinOp.and IntKind.i64 N f == 0) = true := hq
    have HS : Hid (z = y) := Lib.hid HS.out
    rw [HS.out]
    cases so with
    | true =>
      go_enter Try.func43, Try.ntmps43
      go_wp2_with (first
        | (refine wpList_load_rowG rfl 24 (.tmp 3) rfl gp rfl 24 _ (0, 0) _ HG.out Try.underlying24 rfl pshInfo ?_)
        | (go_at_call 44; refine CZ.out.mono ?_; rintro E w1 ⟨rfl, hb1⟩))
      go_ret
      exact ⟨rfl, hb1⟩
    | false =>
      go_enter Try.func43, Try.ntmps43
      go_wp2_with fail
      go_ret
      exact ⟨rfl, Below.refl _ _⟩
end Go.Proofs.Ytajkbkllgbalkaa
