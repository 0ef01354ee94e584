/- Ranges of a block (what a load of an array takes, what a store of one leaves); the chapter's tables: which is at most which, joins, meets, laid round by round. -/
import Derived.Test.YtaikhdmgcffflaaDoorYe
import Derived.Deep.MidRow
import Derived.Test.YtaikhdmgcffflaaDoorWj
import Derived.Deep.RegionHeld3
namespace Go.Proofs.YtaikhdmgcffflaaDoor
open Go Go.RowKit

/-- The cells from o on, k of them. -/
def cut (f : Nat → Value) (o k : Nat) : List Value := (List.range k).map fun i => f (o + i)
theorem cut_len (f : Nat → Value) (o k : Nat) : (cut f o k).length = k := by simp [cut]
theorem cut_at (f : Nat → Value) (o k : Nat) {i : Nat} (h : i < k) : (cut f o k)[i]? = some (f (o + i)) := by simp [cut, h]
section
variable {w : World} {b m : Nat} {t : TypeId} {f : Nat → Value}
theorem Blk.range (h : Blk w b t m f) {o k : Nat} (hk : o + k ≤ m) : w.rangeAt b o (cut f o k) := fun j v hj => by
  have hl : j < k := by
    have := (List.getElem?_eq_some_iff.1 hj).1
    rwa [cut_len] at this
  rw [cut_at f o k hl] at hj
  cases hj
  exact h.cell (by omega)
theorem Blk.there (h : Blk w b t m f) {o k : Nat} (hk : o + k ≤ m) : w.there b o k := fun j hj => ⟨by rw [h.cell (by omega)]; rfl, h.free _⟩
theorem Blk.sets : ∀ (vs : List Value) (o : Nat) {w : World} {f : Nat → Value}, Blk w b t m f → Blk (w.setCells b o vs) b t m (fun i => if o ≤ i ∧ i < o + vs.length then (vs[i - o]?).getD (f i) else f i)
  | [], o, w, f, h => by
    refine Blk.congr (w := w.setCells b o []) (f := f) h fun i _ => ?_
    rw [if_neg (by simp)]
  | v :: vs, o, w, f, h => by
    have h1 := Blk.sets vs (o + 1) (h.set o v)
    refine Blk.congr (show Blk (w.setCells b o (v :: vs)) b t m _ from h1) fun i _ => ?_
    by_cases e : i = o
    · subst e
      rw [if_neg (by omega), if_pos rfl, if_pos ⟨Nat.le_refl _, by simp⟩]
      simp
    · by_cases h2 : o + 1 ≤ i ∧ i < o + 1 + vs.length
      · rw [if_pos h2, if_neg e, if_pos (show o ≤ i ∧ i < o + (v :: vs).length from ⟨by omega, by simp; omega⟩)]
        obtain ⟨q, hq⟩ : ∃ q, i - o = q + 1 := ⟨i - o - 1, by omega⟩
        rw [hq, List.getElem?_cons_succ, show i - (o + 1) = q by omega]
      · rw [if_neg h2, if_neg e, if_neg (by simp; omega)]
theorem Blk.other {b' : Nat} (h : Blk w b t m f) (vs : List Value) (o : Nat) (hne : b' ≠ b) : Blk (w.setCells b' o vs) b t m f := by
  induction vs generalizing o w with
  | nil => exact h
  | cons v vs ih =>
    refine ih (w := w.setCell ⟨b', o, none⟩ v) ?_ (o + 1)
    show (w.heap.modify b' _)[b]? = _
    rw [Array.getElem?_modify, if_neg hne]
    exact h
end

theorem info88 : (Tryd.prog.info? 88).map (·.size) = some 100 := by kernel_rfl
theorem zero88 : Tryd.zeroCells88 = ((List.range 100).map fun _ => Value.bool false).toArray := by kernel_rfl
theorem info89 : (Tryd.prog.info? 89).map (·.size) = some 100 := by kernel_rfl

/-- The tables as far as they are laid. -/
def leU (n : Nat) (A : Nat → Nat) (m k : Nat) : Bool := decide (k < m) && leT n A k
def zU (n : Nat) (F : Nat → Nat → Int) (m k : Nat) : Int := if k < m ∧ k % 10 < n then F (k / 10) (k % 10) else 0
theorem leU_set {n : Nat} {A : Nat → Nat} (hn : n ≤ 10) {a c : Nat} (ha : a < n) (hc : c < n) (k : Nat) : (if k = a * 10 + c then Value.bool (le A a c) else .bool (leU n A (a * 10 + c) k)) = .bool (leU n A (a * 10 + c + 1) k) := by
  by_cases e : k = a * 10 + c
  · subst e
    rw [if_pos rfl]
    unfold leU
    rw [decide_eq_true (by omega : a * 10 + c < a * 10 + c + 1), Bool.true_and, leT_at hn ha hc]
  · rw [if_neg e]
    unfold leU
    rw [show decide (k < a * 10 + c) = decide (k < a * 10 + c + 1) by rw [Bool.eq_iff_iff, decide_eq_true_eq, decide_eq_true_eq]; omega]
theorem leU_row {n : Nat} {A : Nat → Nat} (hn : n ≤ 10) (a k : Nat) : leU n A (a * 10 + n) k = leU n A ((a + 1) * 10) k := by
  unfold leU
  by_cases h : k < a * 10 + n
  · rw [decide_eq_true h, decide_eq_true (by omega : k < (a + 1) * 10)]
  · rw [decide_eq_false h]
    by_cases h2 : k < (a + 1) * 10
    · unfold leT
      rw [decide_eq_false (by omega : ¬ k % 10 < n)]
      simp
    · rw [decide_eq_false h2]
theorem leU_full {n : Nat} {A : Nat → Nat} (k : Nat) : leU n A (n * 10) k = leT n A k := by
  unfold leU
  by_cases h : k < n * 10
  · rw [decide_eq_true h, Bool.true_and]
  · rw [decide_eq_false h]
    unfold leT
    rw [decide_eq_false (by omega : ¬ k / 10 < n)]
    rfl
theorem zU_set {n : Nat} {F : Nat → Nat → Int} (hn : n ≤ 10) {a c : Nat} (hc : c < n) (k : Nat) : (if k = a * 10 + c then Value.int .i64 (F a c) else .int .i64 (zU n F (a * 10 + c) k)) = .int .i64 (zU n F (a * 10 + c + 1) k) := by
  by_cases e : k = a * 10 + c
  · subst e
    rw [if_pos rfl]
    unfold zU
    rw [if_pos (by omega), show (a * 10 + c) / 10 = a by omega, show (a * 10 + c) % 10 = c by omega]
  · rw [if_neg e]
    unfold zU
    by_cases h : k < a * 10 + c ∧ k % 10 < n
    · rw [if_pos h, if_pos (by omega)]
    · rw [if_neg h, if_neg (by omega)]
theorem zU_row {n : Nat} {F : Nat → Nat → Int} (hn : n ≤ 10) (a k : Nat) : zU n F (a * 10 + n) k = zU n F ((a + 1) * 10) k := by
  unfold zU
  by_cases h : k < a * 10 + n ∧ k % 10 < n
  · rw [if_pos h, if_pos (by omega)]
  · rw [if_neg h, if_neg (by omega)]
theorem zU_at {n : Nat} {F : Nat → Nat → Int} (hn : n ≤ 10) {a c : Nat} (ha : a < n) (hc : c < n) : zU n F (n * 10) (a * 10 + c) = F a c := by
  unfold zU
  rw [if_pos (by omega), show (a * 10 + c) / 10 = a by omega, show (a * 10 + c) % 10 = c by omega]
def jR (n : Nat) (A : Nat → Nat) : Nat → Int := zU n (joinZ n (leT n A)) (n * 10)
def mR (n : Nat) (A : Nat → Nat) : Nat → Int := zU n (meetZ n (leT n A)) (n * 10)

theorem grownBy_cells {W : World} {b : Nat} : ∀ (vs : List Value) (o : Nat) {V : World}, W.grownBy V (some b) → W.grownBy (V.setCells b o vs) (some b)
  | [], _, _, h => h
  | v :: vs, o, _, h => grownBy_cells vs (o + 1) (grownBy_set h v o)
theorem below_cells {B : Nat} {b : Nat} (hB : B ≤ b) : ∀ (vs : List Value) (o : Nat) (V : World), Below B V (V.setCells b o vs)
  | [], _, _ => Below.refl _ _
  | v :: vs, o, V => ((Below.refl B V).setCell (p := ⟨b, o, none⟩) hB v).trans (below_cells hB vs (o + 1) _)
theorem cut_one {f : Nat → Value} {o k : Nat} (h : ∀ i, i < k → (f (o + i)).oneCell' = true) : (cut f o k).toArray.all (·.oneCell') = true := all_oneCell_toArray fun u hu => by
  obtain ⟨i, hi, rfl⟩ := List.mem_map.1 hu
  exact h i (List.mem_range.1 hi)
theorem range_same {w : World} {b o p k : Nat} {f g : Nat → Value} (h : w.rangeAt b o (cut f o k)) (e : ∀ i, i < k → f (o + i) = g (p + i)) : w.rangeAt b o (cut g p k) := by
  have : cut f o k = cut g p k := List.map_congr_left fun i hi => e i (List.mem_range.1 hi)
  rw [← this]
  exact h
theorem cut_getD {f : Nat → Value} {o k i : Nat} (h : i < k) (d : Value) : ((cut f o k)[i]?).getD d = f (o + i) := by rw [cut_at f o k h]; rfl

theorem wp_alloc_row {P : Program} {op : Oper} {a : Act} {w : World} {K : Act → World → Prop} {Q : Exit → Act → World → Prop} (t : TypeId) (cs : Array Value) (ho : op.op = .alloc t) (hz : ∀ w, (zeroValue t).run P w = .ok (.agg cs) w) (_hne : cs ≠ #[])
    (h : K (a.put op.dst (.pointer (some ⟨w.heap.size, 0, none⟩))) (w.alloc (.cells cs t))) : op.wp P a w K Q := by
  unfold Oper.wp execOp
  simp only [ho, Instr.alloc, Sem.run_bind, hz, Result.andThen_ok]
  simp only [newVar, newRow, Value.cells, Sem.run_bind, Sem.run_pure, Result.andThen_ok, run_newObj]
  exact h
theorem lat_ord_ne {w : World} {base b o n m : Nat} {t : TypeId} {v2 : Value} {L : List (Nat × Nat)} {f : Nat → Value} (h : Blk w b t m f) (hr : Ref w base o n v2 L) (ht : t ≠ 93) : o ≠ b := by
  rintro rfl
  have h1 : w.heap[o]? = _ := h
  have h2 : w.heap[o]? = _ := hr.blk
  rw [h1] at h2
  injection h2 with h2
  injection h2 with _ h2 _
  exact ht h2
/-- The lattice's block, when both tables are stored back. -/
theorem tables_end {w : World} {b o n : Nat} {v : Value} {A : Nat → Nat} {lj lm : List Value} (h : Blk w b 91 302 (refF v o (leT n A) (fun _ => 0) (fun _ => 0))) (hj : lj = cut (fun k => Value.int .i64 (jR n A k)) 0 100) (hm : lm = cut (fun k => Value.int .i64 (mR n A k)) 0 100) :
    Blk ((w.setCells b 102 lj).setCells b 202 lm) b 91 302 (refF v o (leT n A) (jR n A) (mR n A)) := by
  refine Blk.congr ((h.sets lj 102).sets lm 202) fun i hi => ?_
  rw [hj, hm, cut_len, cut_len]
  by_cases c2 : 202 ≤ i
  · rw [if_pos ⟨c2, by omega⟩, cut_getD (by omega)]
    unfold refF
    simp only [if_neg (show ¬ i = 0 by omega), if_neg (show ¬ i = 1 by omega), if_neg (show ¬ i < 102 by omega), if_neg (show ¬ i < 202 by omega), Nat.zero_add]
  · rw [if_neg (by omega)]
    by_cases c1 : 102 ≤ i
    · rw [if_pos ⟨c1, by omega⟩, cut_getD (by omega)]
      unfold refF
      simp only [if_neg (show ¬ i = 0 by omega), if_neg (show ¬ i = 1 by omega), if_neg (show ¬ i < 102 by omega), if_pos (show i < 202 by omega), Nat.zero_add]
    · rw [if_neg (by omega)]
      unfold refF
      by_cases e0 : i = 0
      · simp only [if_pos e0]
      · by_cases e1 : i = 1
        · simp only [if_neg e0, if_pos e1]
        · simp only [if_neg e0, if_neg e1, if_pos (show i < 102 by omega)]
/-- Two new blocks of a hundred zeros, and zeros stored into both. -/
structure Nine (w2 : World) (zl : List Value) (ob : Obj) : Prop where
  ne : w2.drew.heap.size ≠ (w2.drew.alloc ob).heap.size
  ge1 : w2.heap.size ≤ w2.drew.heap.size
  ge2 : w2.heap.size ≤ (w2.drew.alloc ob).heap.size
  t1 : ((w2.drew.alloc ob).alloc ob).there w2.drew.heap.size 0 zl.toArray.size
  t2 : ((w2.drew.alloc ob).alloc ob).there (w2.drew.alloc ob).heap.size 0 zl.toArray.size
  f12 : Blk ((((w2.drew.alloc ob).alloc ob).setCells w2.drew.heap.size 0 zl).setCells (w2.drew.alloc ob).heap.size 0 zl) w2.drew.heap.size 89 100 (fun _ => .int .i64 0) ∧ Blk ((((w2.drew.alloc ob).alloc ob).setCells w2.drew.heap.size 0 zl).setCells (w2.drew.alloc ob).heap.size 0 zl) (w2.drew.alloc ob).heap.size 89 100 (fun _ => .int .i64 0) ∧ Below w2.heap.size w2 ((((w2.drew.alloc ob).alloc ob).setCells w2.drew.heap.size 0 zl).setCells (w2.drew.alloc ob).heap.size 0 zl)
  f21 : Blk ((((w2.drew.alloc ob).alloc ob).setCells (w2.drew.alloc ob).heap.size 0 zl).setCells w2.drew.heap.size 0 zl) w2.drew.heap.size 89 100 (fun _ => .int .i64 0) ∧ Blk ((((w2.drew.alloc ob).alloc ob).setCells (w2.drew.alloc ob).heap.size 0 zl).setCells w2.drew.heap.size 0 zl) (w2.drew.alloc ob).heap.size 89 100 (fun _ => .int .i64 0) ∧ Below w2.heap.size w2 ((((w2.drew.alloc ob).alloc ob).setCells (w2.drew.alloc ob).heap.size 0 zl).setCells w2.drew.heap.size 0 zl)
theorem zero89 : Tryd.zeroCells89 = ((List.range 100).map fun _ => Value.int .i64 0).toArray := by kernel_rfl
theorem zeros_set {w : World} {b : Nat} {t : TypeId} {zl : List Value} (hz : zl = cut (fun _ => Value.int .i64 0) 0 100) (h : Blk w b t 100 (fun _ => .int .i64 0)) : Blk (w.setCells b 0 zl) b t 100 (fun _ => .int .i64 0) :=
  (h.sets zl 0).congr fun i hi => by
    rw [hz, cut_len, if_pos ⟨Nat.zero_le _, by omega⟩, show i - 0 = i by omega, cut_getD hi]
theorem nine (w2 : World) (zl : List Value) (hz : zl = cut (fun _ => Value.int .i64 0) 0 100) : Nine w2 zl (.cells Tryd.zeroCells89 89) := by
  have A1 : Blk (w2.drew.alloc (.cells Tryd.zeroCells89 89)) w2.drew.heap.size 89 100 (fun _ => .int .i64 0) := Blk.new _ zero89
  have A2 : Blk ((w2.drew.alloc (.cells Tryd.zeroCells89 89)).alloc (.cells Tryd.zeroCells89 89)) w2.drew.heap.size 89 100 (fun _ => .int .i64 0) := A1.below (below_new _ _) A1.lt
  have B2 : Blk ((w2.drew.alloc (.cells Tryd.zeroCells89 89)).alloc (.cells Tryd.zeroCells89 89)) (w2.drew.alloc (.cells Tryd.zeroCells89 89)).heap.size 89 100 (fun _ => .int .i64 0) := Blk.new _ zero89
  have hne : w2.drew.heap.size ≠ (w2.drew.alloc (.cells Tryd.zeroCells89 89)).heap.size := by rw [World.size_alloc]; omega
  have g1 : w2.heap.size ≤ w2.drew.heap.size := Nat.le_refl _
  have g2 : w2.heap.size ≤ (w2.drew.alloc (.cells Tryd.zeroCells89 89)).heap.size := by rw [World.size_alloc]; exact Nat.le_succ_of_le (Nat.le_refl w2.heap.size)
  have hb : Below w2.heap.size w2 ((w2.drew.alloc (.cells Tryd.zeroCells89 89)).alloc (.cells Tryd.zeroCells89 89)) := ((below_drewN (Below.refl _ w2) 1).trans ((below_new _ _).mono (Nat.le_refl _))).trans ((below_new _ _).mono g2)
  have hs : zl.toArray.size = 100 := by rw [hz]; simp [cut]
  exact ⟨hne, g1, g2, by rw [hs]; exact A2.there (o := 0) (k := 100) (by decide), by rw [hs]; exact B2.there (o := 0) (k := 100) (by decide),
    ⟨Blk.other (zeros_set hz A2) zl 0 hne.symm, zeros_set hz (Blk.other B2 zl 0 hne), (hb.trans (below_cells g1 zl 0 _)).trans (below_cells g2 zl 0 _)⟩,
    ⟨zeros_set hz (Blk.other A2 zl 0 hne.symm), Blk.other (zeros_set hz B2) zl 0 hne, (hb.trans (below_cells g2 zl 0 _)).trans (below_cells g1 zl 0 _)⟩⟩

set_option maxHeartbeats 1000000 in
set_option maxRecDepth 100000 in
theorem lrTables_any {w : World} {base b o n : Nat} {v v2 : Value} {L : List (Nat × Nat)} (h : LatR w b o n v (fun _ => false) (fun _ => 0) (fun _ => 0)) (hr : Ref w base o n v2 L) (f : Fine n L) (g : Good n (ofL L)) (hn : n ≤ 10) :
    Calls Tryd.prog 36 #[.pointer (some ⟨b, 0, none⟩)] w fun e w' => e = .returned (.tuple #[]) ∧ w.grownBy w' (some b) ∧ LatR w' b o n v (leT n (ofL L)) (jR n (ofL L)) (mR n (ofL L)) := by
  have R0 := h.blk.range (o := 2) (k := 100) (by decide)
  have hi : (Tryd.prog.info? 88).map (·.size) = some (cut (refF v o (fun _ => false) (fun _ => 0) (fun _ => 0)) 2 100).length := by rw [cut_len]; exact info88
  have B1 : Blk (w.alloc (.cells Tryd.zeroCells88 88)) w.heap.size 88 100 (fun _ => .bool false) := Blk.new w zero88
  have hsz : (cut (refF v o (fun _ => false) (fun _ => 0) (fun _ => 0)) 2 100).toArray.size = 100 := by simp [cut]
  have T1 : (w.alloc (.cells Tryd.zeroCells88 88)).there w.heap.size 0 (cut (refF v o (fun _ => false) (fun _ => 0) (fun _ => 0)) 2 100).toArray.size := by
    rw [hsz]; exact B1.there (by decide)
  have hi2 : (Tryd.prog.info? 88).map (·.size) = some (cut (refF v o (fun _ => false) (fun _ => 0) (fun _ => 0)) 2 100).toArray.size := by rw [hsz]; exact info88
  have h1c : (cut (refF v o (fun _ => false) (fun _ => 0) (fun _ => 0)) 2 100).toArray.all (·.oneCell') = true := cut_one fun i hi => by
    unfold refF
    rw [if_neg (by omega), if_neg (by omega), if_pos (by omega)]
    rfl
  have HH := Lib.hid h
  have HR := Lib.hid hr
  have h1 := h.ord
  have h2 := h.many
  clear h hr
  go_enter Tryd.func36, Tryd.ntmps36
  go_wp2_with (first | (refine wpList_store_mid rfl 88 (.tmp 2) (.tmp 12) rfl w.heap.size 0 (cut (refF v o (fun _ => false) (fun _ => 0) (fun _ => 0)) 2 100).toArray rfl rfl T1 hi2 h1c ?_) | (refine wpList_load_mid rfl 88 (.tmp 11) rfl b 2 rfl (cut (refF v o (fun _ => false) (fun _ => 0) (fun _ => 0)) 2 100) _ R0 Tryd.underlying88 rfl hi ?_))
  have B2 : Blk ((w.alloc (.cells Tryd.zeroCells88 88)).setCells w.heap.size 0 (cut (refF v o (fun _ => false) (fun _ => 0) (fun _ => 0)) 2 100).toArray.toList) w.heap.size 88 100 (fun k => .bool (leU n (ofL L) (0 * 10) k)) :=
    (B1.sets _ 0).congr fun i hi => by
      rw [if_pos ⟨by omega, by simp [cut_len]; omega⟩, show i - 0 = i by omega, List.toList_toArray, cut_getD hi]
      unfold refF leU
      rw [if_neg (by omega), if_neg (by omega), if_pos (by omega), decide_eq_false (by omega)]
      rfl
  have HB2 := Lib.hid ((below_new w (.cells Tryd.zeroCells88 88)).trans (below_cells (Nat.le_refl w.heap.size) (cut (refF v o (fun _ => false) (fun _ => 0) (fun _ => 0)) 2 100).toArray.toList 0 (w.alloc (.cells Tryd.zeroCells88 88))))
  clear R0 hi B1 hsz T1 hi2 h1c
  generalize (w.alloc (.cells Tryd.zeroCells88 88)).setCells w.heap.size 0 (cut (refF v o (fun _ => false) (fun _ => 0) (fun _ => 0)) 2 100).toArray.toList = w1 at *
  go_loopw [3] (fun i wr => ∃ a : Nat, a ≤ n ∧ i = .int .i64 a ∧ Blk wr w.heap.size 88 100 (fun k => .bool (leU n (ofL L) (a * 10) k)) ∧ Below w.heap.size w wr) (fun i _ => n - (intOf i).toNat)
  case atStart => exact ⟨0, Nat.zero_le _, rfl, B2, HB2.out⟩
  case round =>
    obtain ⟨a, ha, rfl, Ba, hb⟩ := hrel
    clear B2 HB2
    have c1 := (hb.cell (p := ⟨b, 1, none⟩) HH.out.blk.lt).trans h1
    have c2 := (hb.cell (p := ⟨o, 0, none⟩) HR.out.lt).trans h2
    by_cases hlt : a < n
    · have i1 : (0 : Int) ≤ a := by omega
      have i2 : (a : Int) < 10 := by omega
      go_wp2_with fail
      clear c1 c2
      go_loopw [4] (fun i wr => ∃ c : Nat, c ≤ n ∧ i = .int .i64 c ∧ Blk wr w.heap.size 88 100 (fun k => .bool (leU n (ofL L) (a * 10 + c) k)) ∧ Below w.heap.size w wr) (fun i _ => n - (intOf i).toNat)
      case atStart => exact ⟨0, Nat.zero_le _, rfl, Ba, hb⟩
      case round =>
        obtain ⟨c, hc, rfl, Bc, hbc⟩ := hrel
        clear Ba hb
        have c1 := (hbc.cell (p := ⟨b, 1, none⟩) HH.out.blk.lt).trans h1
        have c2 := (hbc.cell (p := ⟨o, 0, none⟩) HR.out.lt).trans h2
        by_cases hlc : c < n
        · have j1 : (0 : Int) ≤ c := by omega
          have j2 : (c : Int) < 10 := by omega
          have con := Lib.hid (refAtMost_any base o n v2 L a c wr.drew (HR.out.below (below_drewN hbc 1)) f hlt hlc)
          have hst := Lib.hid (leU_set (A := ofL L) hn hlt hlc)
          generalize le (ofL L) a c = q at *
          have HBc := Lib.hid Bc
          have Hbc := Lib.hid hbc
          have hbw := HH.out.blk.lt
          have how := HR.out.lt
          have hcell := Bc.cell (i := a * 10 + c) (by omega)
          have hfree := Bc.free (a * 10 + c)
          generalize Value.bool (leU n (ofL L) (a * 10 + c) (a * 10 + c)) = ov at hcell
          have hne : (⟨w.heap.size, a * 10 + c, none⟩ : Addr) ≠ ⟨b, 1, none⟩ := by intro e; injection e; omega
          clear Bc hbc
          go_wp2_with fail
          go_region_held3 (fun w' => w'.cell? ⟨b, 1, none⟩ = some (.pointer (some ⟨o, 0, none⟩))) (first | go_keep | exact d1 | exact (World.cell?_setCell_other _ _ _ _ hne).trans d1)
            ((go_at_call 58; refine Calls.mono con.out ?_; rintro e w5 ⟨rfl, hb5⟩; have B5 := Blk.below (show Blk wr.drew _ _ _ _ from HBc.out) hb5 HBc.out.lt; have d1 := (hb5.cell (p := ⟨b, 1, none⟩) (Nat.lt_of_lt_of_le hbw Hbc.out.size)).trans c1; have d3 := B5.cell (i := a * 10 + c) (by omega); have d4 := B5.free (a * 10 + c); have HB5 := Lib.hid B5; clear B5))
          have hb5' : Below wr.heap.size wr w5 := ⟨hb5.os, hb5.tape, hb5.output, hb5.size, hb5.block⟩
          have B6 := Blk.congr (HB5.out.set (a * 10 + c) (.bool q)) fun k _ => hst.out k
          have b6 : Below w.heap.size w (w5.setCell ⟨w.heap.size, a * 10 + c, none⟩ (.bool q)) := (Hbc.out.trans (hb5'.mono Hbc.out.size)).setCell (p := ⟨w.heap.size, a * 10 + c, none⟩) (Nat.le_refl _) _
          clear HB5 HBc Hbc hb5 hb5' d1 d3 d4 c1 c2 con hst hcell hfree hne
          go_wp2_with fail
          go_roundw
          case rel => exact ⟨c + 1, by omega, by go_num, B6, b6⟩
          case measure => simp [intOf]; omega
        · obtain rfl : c = n := by omega
          have B6 := Blk.congr Bc fun k _ => congrArg Value.bool (leU_row (A := ofL L) hn a k)
          clear Bc
          go_wp2_with fail
          go_roundw
          case rel => exact ⟨a + 1, by omega, by go_num, B6, hbc⟩
          case measure => simp [intOf]; omega
    · obtain rfl : n = a := by omega
      have HB := Lib.hid Ba
      have R1 := Ba.range (o := 0) (k := 100) (by decide)
      have hi : (Tryd.prog.info? 88).map (·.size) = some (cut (fun k => Value.bool (leU n (ofL L) (n * 10) k)) 0 100).length := by rw [cut_len]; exact info88
      have hsz : (cut (fun k => Value.bool (leU n (ofL L) (n * 10) k)) 0 100).toArray.size = 100 := by simp [cut]
      have Bb := HH.out.blk.below hb HH.out.blk.lt
      have T1 : wr.there b 2 (cut (fun k => Value.bool (leU n (ofL L) (n * 10) k)) 0 100).toArray.size := by rw [hsz]; exact Bb.there (by decide)
      have hi2 : (Tryd.prog.info? 88).map (·.size) = some (cut (fun k => Value.bool (leU n (ofL L) (n * 10) k)) 0 100).toArray.size := by rw [hsz]; exact info88
      have h1c : (cut (fun k => Value.bool (leU n (ofL L) (n * 10) k)) 0 100).toArray.all (·.oneCell') = true := cut_one fun i hi => rfl
      have Bb2 := Blk.congr (Bb.sets (cut (fun k => Value.bool (leU n (ofL L) (n * 10) k)) 0 100).toArray.toList 2) (g := refF v o (leT n (ofL L)) (fun _ => 0) (fun _ => 0)) fun i hi => by
        rw [List.toList_toArray, cut_len]
        by_cases e : 2 ≤ i ∧ i < 2 + 100
        · rw [if_pos e, cut_getD (by omega)]
          unfold refF
          rw [if_neg (by omega), if_neg (by omega), if_pos (by omega), leU_full, show 0 + (i - 2) = i - 2 by omega]
        · rw [if_neg e]
          unfold refF
          by_cases e0 : i = 0
          · rw [if_pos e0, if_pos e0]
          · by_cases e1 : i = 1
            · rw [if_neg e0, if_neg e0, if_pos e1, if_pos e1]
            · have e2 : ¬ i < 102 := by omega
              simp only [if_neg e0, if_neg e1, if_neg e2]
      have HG := Lib.hid (grownBy_cells (cut (fun k => Value.bool (leU n (ofL L) (n * 10) k)) 0 100).toArray.toList 2 (grownBy_below hb (some b)))
      have HBb := Lib.hid Bb2
      clear Ba Bb Bb2
      go_wp2_with (first | (refine wpList_store_mid rfl 88 (.tmp 49) (.tmp 47) rfl b 2 (cut (fun k => Value.bool (leU n (ofL L) (n * 10) k)) 0 100).toArray rfl rfl T1 hi2 h1c ?_) | (refine wpList_load_mid rfl 88 (.tmp 2) rfl w.heap.size 0 rfl (cut (fun k => Value.bool (leU n (ofL L) (n * 10) k)) 0 100) _ R1 Tryd.underlying88 rfl hi ?_))
      clear R1 hi hsz T1 hi2 h1c
      generalize wr.setCells b 2 (cut (fun k => Value.bool (leU n (ofL L) (n * 10) k)) 0 100) = w2 at *
      obtain ⟨zl, hzl⟩ : ∃ zl, zl = cut (fun _ => Value.int .i64 0) 0 100 := ⟨_, rfl⟩
      have R1 : w2.rangeAt b 102 zl := by rw [hzl]; exact range_same (HBb.out.range (o := 102) (k := 100) (by decide)) (fun i hi => by unfold refF; simp only [if_neg (show ¬ 102 + i = 0 by omega), if_neg (show ¬ 102 + i = 1 by omega), if_neg (show ¬ 102 + i < 102 by omega), if_pos (show 102 + i < 202 by omega)])
      have R2 : w2.rangeAt b 202 zl := by rw [hzl]; exact range_same (HBb.out.range (o := 202) (k := 100) (by decide)) (fun i hi => by unfold refF; simp only [if_neg (show ¬ 202 + i = 0 by omega), if_neg (show ¬ 202 + i = 1 by omega), if_neg (show ¬ 202 + i < 102 by omega), if_neg (show ¬ 202 + i < 202 by omega)])
      have hi : (Tryd.prog.info? 89).map (·.size) = some zl.length := by rw [hzl, cut_len]; exact info89
      have hzn : zl.length = 100 := by rw [hzl, cut_len]
      have hu := Tryd.underlying89
      have h1c : ∀ v ∈ zl, v.oneCell' = true := by
        rw [hzl]
        intro v hv
        obtain ⟨i, _, rfl⟩ := List.mem_map.1 hv
        rfl
      have HZ := Lib.hid hzl
      have hbw : b < w2.heap.size := HBb.out.lt
      clear hzl hb c1 c2 HB
      go_upto_region 9 with fail
      go_cut [5, 6] from 50 to 57 (fun u v wx => ∃ b5 b6 : Nat, u = .pointer (some ⟨b5, 0, none⟩) ∧ v = .pointer (some ⟨b6, 0, none⟩) ∧ b5 ≠ b6 ∧ w2.heap.size ≤ b5 ∧ w2.heap.size ≤ b6 ∧ Blk wx b5 89 100 (fun k => .int .i64 0) ∧ Blk wx b6 89 100 (fun k => .int .i64 0) ∧ Below w2.heap.size w2 wx)
      case first =>
        refine wp_region_held_drew (S := fun w' => w'.rangeAt b 102 zl ∧ w'.rangeAt b 202 zl) (by kernel_rfl) ⟨(World.rangeAt_drew _ _ _ _).2 R1, (World.rangeAt_drew _ _ _ _).2 R2⟩ (fun hHeld => ?_)
        refine wpAnyH_take (i := 0) (oi := { dst := some 50, op := Op.move (Operand.tmp 0), type := 29, pos := "ref.go:74", after := #[], guard := none }) (v := (.pointer (some ⟨b, 0, none⟩))) rfl (by kernel_rfl) (by kernel_rfl) (by kernel_rfl) (fun _ _ _ h => h) (Or.inl ⟨by rfl, fun w hw => by go_simp⟩) hHeld ?_
        try simp only [Act.put, List.setIfInBounds_toArray, List.set_cons_zero, List.set_cons_succ]
        refine wpAnyH_take (i := 1) (oi := { dst := some 51, op := Op.nilCheck (Operand.tmp 50), type := 0, pos := "ref.go:74", after := #[{ on := 0, ground := Ground.data }], guard := none }) (v := (.pointer (some ⟨b, 0, none⟩))) rfl (by kernel_rfl) (by kernel_rfl) (by kernel_rfl) (fun _ _ _ h => h) (Or.inl ⟨by rfl, fun w hw => by go_simp⟩) hHeld ?_
        try simp only [Act.put, List.setIfInBounds_toArray, List.set_cons_zero, List.set_cons_succ]
        refine wpAnyH_take (i := 2) (oi := { dst := some 52, op := Op.fieldAddr 91 (Operand.tmp 51) 3, type := 0, pos := "ref.go:74", after := #[{ on := 1, ground := Ground.data }], guard := none }) (v := (.pointer (some ⟨b, 102, none⟩))) rfl (by kernel_rfl) (by kernel_rfl) (by kernel_rfl) (fun _ _ _ h => h) (Or.inl ⟨by rfl, fun w hw => by go_simp⟩) hHeld ?_
        try simp only [Act.put, List.setIfInBounds_toArray, List.set_cons_zero, List.set_cons_succ]
        refine wpAnyH_take (i := 3) (oi := { dst := some 53, op := Op.load 89 (Operand.tmp 52), type := 89, pos := "ref.go:74", after := #[{ on := 2, ground := Ground.data }], guard := none }) (v := .agg zl.toArray) rfl (by kernel_rfl) (by kernel_rfl) (by kernel_rfl) (fun _ _ _ h => h) (yieldsIf_load_mid (by rfl) _ _ rfl _ _ rfl zl _ (fun w hw => hw.1) hu rfl hi) hHeld ?_
        try simp only [Act.put, List.setIfInBounds_toArray, List.set_cons_zero, List.set_cons_succ]
        refine wpAnyH_take (i := 4) (oi := { dst := some 54, op := Op.move (Operand.tmp 0), type := 29, pos := "ref.go:74", after := #[{ on := 10, ground := Ground.gcOnly Departure.lateStores }], guard := none }) (v := (.pointer (some ⟨b, 0, none⟩))) rfl (by kernel_rfl) (by kernel_rfl) (by kernel_rfl) (fun _ _ _ h => h) (Or.inl ⟨by rfl, fun w hw => by go_simp⟩) hHeld ?_
        try simp only [Act.put, List.setIfInBounds_toArray, List.set_cons_zero, List.set_cons_succ]
        refine wpAnyH_take (i := 5) (oi := { dst := some 55, op := Op.nilCheck (Operand.tmp 54), type := 0, pos := "ref.go:74", after := #[{ on := 4, ground := Ground.data }, { on := 10, ground := Ground.gcOnly Departure.lateStores }], guard := none }) (v := (.pointer (some ⟨b, 0, none⟩))) rfl (by kernel_rfl) (by kernel_rfl) (by kernel_rfl) (fun _ _ _ h => h) (Or.inl ⟨by rfl, fun w hw => by go_simp⟩) hHeld ?_
        try simp only [Act.put, List.setIfInBounds_toArray, List.set_cons_zero, List.set_cons_succ]
        refine wpAnyH_take (i := 6) (oi := { dst := some 56, op := Op.fieldAddr 91 (Operand.tmp 55) 4, type := 0, pos := "ref.go:74", after := #[{ on := 5, ground := Ground.data }, { on := 10, ground := Ground.gcOnly Departure.lateStores }], guard := none }) (v := (.pointer (some ⟨b, 202, none⟩))) rfl (by kernel_rfl) (by kernel_rfl) (by kernel_rfl) (fun _ _ _ h => h) (Or.inl ⟨by rfl, fun w hw => by go_simp⟩) hHeld ?_
        try simp only [Act.put, List.setIfInBounds_toArray, List.set_cons_zero, List.set_cons_succ]
        refine wpAnyH_take (i := 7) (oi := { dst := some 57, op := Op.load 89 (Operand.tmp 56), type := 89, pos := "ref.go:74", after := #[{ on := 6, ground := Ground.data }, { on := 10, ground := Ground.gcOnly Departure.lateStores }], guard := none }) (v := .agg zl.toArray) rfl (by kernel_rfl) (by kernel_rfl) (by kernel_rfl) (fun _ _ _ h => h) (yieldsIf_load_mid (by rfl) _ _ rfl _ _ rfl zl _ (fun w hw => hw.2) hu rfl hi) hHeld ?_
        try simp only [Act.put, List.setIfInBounds_toArray, List.set_cons_zero, List.set_cons_succ]
        refine wpAnyH_ready (rs := [8, 9]) (by kernel_rfl) (by simp) ?_
        have NN := nine w2 zl HZ.out
        have hi' : (Tryd.prog.info? 89).map (·.size) = some zl.toArray.size := by rw [List.size_toArray]; exact hi
        have h1c' := all_oneCell_toArray h1c
        refine AllReadyH.cons (o := { dst := some 5, op := Op.alloc 89, type := 0, pos := "ref.go:74", after := #[], guard := none }) rfl (fun K hK => ?_) (AllReadyH.cons (o := { dst := some 6, op := Op.alloc 89, type := 0, pos := "ref.go:74", after := #[], guard := none }) rfl (fun K hK => ?_) AllReadyH.nil)
        · rw [if_pos (by rfl)]
          refine wp_alloc_row 89 Tryd.zeroCells89 rfl Tryd.zeroValue89 Tryd.zeroCells89_ne ?_
          try simp only [Act.put, List.setIfInBounds_toArray, List.set_cons_zero, List.set_cons_succ]
          refine hK.out _ _ ⟨World.rangeAt_alloc hHeld.1 _, World.rangeAt_alloc hHeld.2 _⟩ (fun hHeld1 => ?_)
          clear hK K
          refine wpAnyH_ready (rs := [9]) (by kernel_rfl) (by simp) (AllReadyH.cons (o := { dst := some 6, op := Op.alloc 89, type := 0, pos := "ref.go:74", after := #[], guard := none }) rfl (fun K hK => ?_) AllReadyH.nil)
          rw [if_pos (by rfl)]
          refine wp_alloc_row 89 Tryd.zeroCells89 rfl Tryd.zeroValue89 Tryd.zeroCells89_ne ?_
          try simp only [Act.put, List.setIfInBounds_toArray, List.set_cons_zero, List.set_cons_succ]
          refine hK.out _ _ ⟨World.rangeAt_alloc hHeld1.1 _, World.rangeAt_alloc hHeld1.2 _⟩ (fun hHeld2 => ?_)
          clear hK K hHeld1
          refine wpAnyH_ready (rs := [10]) (by kernel_rfl) (by simp) (AllReadyH.cons (o := { dst := none, op := Op.store 89 (Operand.tmp 5) (Operand.tmp 53), type := 0, pos := "ref.go:74", after := #[{ on := 8, ground := Ground.data }, { on := 3, ground := Ground.data }, { on := 0, ground := Ground.phase }, { on := 1, ground := Ground.phase }, { on := 2, ground := Ground.phase }, { on := 3, ground := Ground.phase }, { on := 4, ground := Ground.textOnly Departure.lateStores }, { on := 5, ground := Ground.textOnly Departure.lateStores }, { on := 6, ground := Ground.textOnly Departure.lateStores }, { on := 7, ground := Ground.textOnly Departure.lateStores }, { on := 8, ground := Ground.phase }, { on := 9, ground := Ground.phase }], guard := none }) rfl (fun K hK => ?_) AllReadyH.nil)
          rw [if_pos (by rfl)]
          refine wp_store_mid 89 (.tmp 5) (.tmp 53) rfl _ 0 zl.toArray rfl rfl NN.t1 hi' h1c' ?_
          try simp only [Act.put]
          refine hK.out _ _ ⟨World.rangeAt_setCells_apart hHeld2.1 _ _ _ (.inl (by have := hbw; simp; try omega)), World.rangeAt_setCells_apart hHeld2.2 _ _ _ (.inl (by have := hbw; simp; try omega))⟩ (fun hHeld3 => ?_)
          clear hK K hHeld2
          refine wpAnyH_ready (rs := [11]) (by kernel_rfl) (by simp) (AllReadyH.cons (o := { dst := none, op := Op.store 89 (Operand.tmp 6) (Operand.tmp 57), type := 0, pos := "ref.go:74", after := #[{ on := 9, ground := Ground.data }, { on := 7, ground := Ground.data }, { on := 10, ground := Ground.chain }, { on := 0, ground := Ground.phase }, { on := 1, ground := Ground.phase }, { on := 2, ground := Ground.phase }, { on := 3, ground := Ground.phase }, { on := 4, ground := Ground.phase }, { on := 5, ground := Ground.phase }, { on := 6, ground := Ground.phase }, { on := 7, ground := Ground.phase }, { on := 8, ground := Ground.phase }, { on := 9, ground := Ground.phase }, { on := 10, ground := Ground.phase }], guard := none }) rfl (fun K hK => ?_) AllReadyH.nil)
          rw [if_pos (by rfl)]
          refine wp_store_mid 89 (.tmp 6) (.tmp 57) rfl _ 0 zl.toArray rfl rfl (World.there_setCells NN.t2 _ _ _) hi' h1c' ?_
          try simp only [Act.put]
          refine hK.out _ _ ⟨World.rangeAt_setCells_apart hHeld3.1 _ _ _ (.inl (by have := hbw; simp; try omega)), World.rangeAt_setCells_apart hHeld3.2 _ _ _ (.inl (by have := hbw; simp; try omega))⟩ (fun hHeld4 => ?_)
          clear hK K hHeld3 hHeld4
          refine wpAnyH_done (by kernel_rfl) ?_ _
          go_wp2_with fail
          go_meet
          case rel => exact ⟨_, _, rfl, rfl, NN.ne, NN.ge1, NN.ge2, NN.f12.1, NN.f12.2.1, NN.f12.2.2⟩
        · rw [if_pos (by rfl)]
          refine wp_alloc_row 89 Tryd.zeroCells89 rfl Tryd.zeroValue89 Tryd.zeroCells89_ne ?_
          try simp only [Act.put, List.setIfInBounds_toArray, List.set_cons_zero, List.set_cons_succ]
          refine hK.out _ _ ⟨World.rangeAt_alloc hHeld.1 _, World.rangeAt_alloc hHeld.2 _⟩ (fun hHeld1 => ?_)
          clear hK K
          refine wpAnyH_ready (rs := [8]) (by kernel_rfl) (by simp) (AllReadyH.cons (o := { dst := some 5, op := Op.alloc 89, type := 0, pos := "ref.go:74", after := #[], guard := none }) rfl (fun K hK => ?_) AllReadyH.nil)
          rw [if_pos (by rfl)]
          refine wp_alloc_row 89 Tryd.zeroCells89 rfl Tryd.zeroValue89 Tryd.zeroCells89_ne ?_
          try simp only [Act.put, List.setIfInBounds_toArray, List.set_cons_zero, List.set_cons_succ]
          refine hK.out _ _ ⟨World.rangeAt_alloc hHeld1.1 _, World.rangeAt_alloc hHeld1.2 _⟩ (fun hHeld2 => ?_)
          clear hK K hHeld1
          refine wpAnyH_ready (rs := [10]) (by kernel_rfl) (by simp) (AllReadyH.cons (o := { dst := none, op := Op.store 89 (Operand.tmp 5) (Operand.tmp 53), type := 0, pos := "ref.go:74", after := #[{ on := 8, ground := Ground.data }, { on := 3, ground := Ground.data }, { on := 0, ground := Ground.phase }, { on := 1, ground := Ground.phase }, { on := 2, ground := Ground.phase }, { on := 3, ground := Ground.phase }, { on := 4, ground := Ground.textOnly Departure.lateStores }, { on := 5, ground := Ground.textOnly Departure.lateStores }, { on := 6, ground := Ground.textOnly Departure.lateStores }, { on := 7, ground := Ground.textOnly Departure.lateStores }, { on := 8, ground := Ground.phase }, { on := 9, ground := Ground.phase }], guard := none }) rfl (fun K hK => ?_) AllReadyH.nil)
          rw [if_pos (by rfl)]
          refine wp_store_mid 89 (.tmp 5) (.tmp 53) rfl _ 0 zl.toArray rfl rfl NN.t2 hi' h1c' ?_
          try simp only [Act.put]
          refine hK.out _ _ ⟨World.rangeAt_setCells_apart hHeld2.1 _ _ _ (.inl (by have := hbw; simp; try omega)), World.rangeAt_setCells_apart hHeld2.2 _ _ _ (.inl (by have := hbw; simp; try omega))⟩ (fun hHeld3 => ?_)
          clear hK K hHeld2
          refine wpAnyH_ready (rs := [11]) (by kernel_rfl) (by simp) (AllReadyH.cons (o := { dst := none, op := Op.store 89 (Operand.tmp 6) (Operand.tmp 57), type := 0, pos := "ref.go:74", after := #[{ on := 9, ground := Ground.data }, { on := 7, ground := Ground.data }, { on := 10, ground := Ground.chain }, { on := 0, ground := Ground.phase }, { on := 1, ground := Ground.phase }, { on := 2, ground := Ground.phase }, { on := 3, ground := Ground.phase }, { on := 4, ground := Ground.phase }, { on := 5, ground := Ground.phase }, { on := 6, ground := Ground.phase }, { on := 7, ground := Ground.phase }, { on := 8, ground := Ground.phase }, { on := 9, ground := Ground.phase }, { on := 10, ground := Ground.phase }], guard := none }) rfl (fun K hK => ?_) AllReadyH.nil)
          rw [if_pos (by rfl)]
          refine wp_store_mid 89 (.tmp 6) (.tmp 57) rfl _ 0 zl.toArray rfl rfl (World.there_setCells NN.t1 _ _ _) hi' h1c' ?_
          try simp only [Act.put]
          refine hK.out _ _ ⟨World.rangeAt_setCells_apart hHeld3.1 _ _ _ (.inl (by have := hbw; simp; try omega)), World.rangeAt_setCells_apart hHeld3.2 _ _ _ (.inl (by have := hbw; simp; try omega))⟩ (fun hHeld4 => ?_)
          clear hK K hHeld3 hHeld4
          refine wpAnyH_done (by kernel_rfl) ?_ _
          go_wp2_with fail
          go_meet
          case rel => exact ⟨_, _, rfl, rfl, NN.ne.symm, NN.ge2, NN.ge1, NN.f21.2.1, NN.f21.1, NN.f21.2.2⟩
      case rest =>
        obtain ⟨b5, b6, rfl, rfl, hne, g5, g6, Z5, Z6, hb3⟩ := hcut
        have HB3 := Lib.hid (Blk.below HBb.out hb3 HBb.out.lt)
        have hne5 : b ≠ b5 := by omega
        have hne6 : b ≠ b6 := by omega
        clear R1 R2 hi hu h1c HZ hzn
        obtain ⟨w3, rfl⟩ : ∃ w3 : World, w3 = wc := ⟨_, rfl⟩
        have Y5 := Blk.congr Z5 (g := fun k => .int .i64 (zU n (joinZ n (leT n (ofL L))) (0 * 10) k)) fun k _ => by unfold zU; rw [if_neg (by omega)]
        have Y6 := Blk.congr Z6 (g := fun k => .int .i64 (zU n (meetZ n (leT n (ofL L))) (0 * 10) k)) fun k _ => by unfold zU; rw [if_neg (by omega)]
        have hob := lat_ord_ne HH.out.blk HR.out (by decide)
        have ho2 : w2.cell? ⟨o, 0, none⟩ = some (.int .i64 (n : Nat)) := by
          rw [World.cell?_of_block (HG.out.block o HR.out.lt (by simp; omega))]
          exact h2
        have LR2 := Lib.hid (show LatR w2 b o n v (leT n (ofL L)) (fun _ => 0) (fun _ => 0) from ⟨HBb.out, ho2⟩)
        clear Z5 Z6
        go_wp2_with fail
        go_loopw [7] (fun i wr => ∃ a : Nat, a ≤ n ∧ i = .int .i64 a ∧ Blk wr b5 89 100 (fun k => .int .i64 (zU n (joinZ n (leT n (ofL L))) (a * 10) k)) ∧ Blk wr b6 89 100 (fun k => .int .i64 (zU n (meetZ n (leT n (ofL L))) (a * 10) k)) ∧ Below w2.heap.size w2 wr) (fun i _ => n - (intOf i).toNat)
        case atStart => exact ⟨0, Nat.zero_le _, rfl, Y5, Y6, hb3⟩
        case round =>
          obtain ⟨a, ha, rfl, X5, X6, hx⟩ := hrel
          clear Y5 Y6 hb3 HB3
          have LRx := LR2.out.below hx
          have c1 := LRx.ord
          have c2 := LRx.many
          clear LRx
          by_cases hlt : a < n
          · have i1 : (0 : Int) ≤ a := by omega
            have i2 : (a : Int) < 10 := by omega
            go_wp2_with fail
            clear c1 c2
            go_loopw [8] (fun i wr => ∃ c : Nat, c ≤ n ∧ i = .int .i64 c ∧ Blk wr b5 89 100 (fun k => .int .i64 (zU n (joinZ n (leT n (ofL L))) (a * 10 + c) k)) ∧ Blk wr b6 89 100 (fun k => .int .i64 (zU n (meetZ n (leT n (ofL L))) (a * 10 + c) k)) ∧ Below w2.heap.size w2 wr) (fun i _ => n - (intOf i).toNat)
            case atStart => exact ⟨0, Nat.zero_le _, rfl, X5, X6, hx⟩
            case round =>
              obtain ⟨c, hc, rfl, C5, C6, hcb⟩ := hrel
              clear X5 X6 hx
              have LRx := LR2.out.below hcb
              have c1 := LRx.ord
              have c2 := LRx.many
              by_cases hlc : c < n
              · have j1 : (0 : Int) ≤ c := by omega
                have j2 : (c : Int) < 10 := by omega
                have con := Lib.hid (lrjoin_any (LRx.drewN 1) hn a c hlt hlc)
                have hst := Lib.hid (zU_set (n := n) (F := joinZ n (leT n (ofL L))) (a := a) hn hlc)
                have hst6 := Lib.hid (zU_set (n := n) (F := meetZ n (leT n (ofL L))) (a := a) hn hlc)
                generalize joinZ n (leT n (ofL L)) a c = q at *
                have hcell : ∃ ov, wr.cell? ⟨b5, a * 10 + c, none⟩ = some ov := ⟨_, Blk.cell C5 (i := a * 10 + c) (by omega)⟩
                obtain ⟨ov, hov⟩ := hcell
                have hfr : wr.frozen? ⟨b5, a * 10 + c, none⟩ = false := Blk.free C5 _
                have HC5 := Lib.hid C5
                have HC6 := Lib.hid C6
                clear LRx C5 C6
                go_wp2_with fail
                go_region_held3 (fun _ => True) (first | trivial | go_keep)
                  ((go_at_call 59; refine Calls.mono con.out ?_; rintro e w5 ⟨rfl, rfl⟩; have d3 : (wr.drewN 1).cell? ⟨b5, a * 10 + c, none⟩ = some ov := hov; have d4 : (wr.drewN 1).frozen? ⟨b5, a * 10 + c, none⟩ = false := hfr))
                have D5 := Blk.congr (Blk.set (HC5.out.drewN 1) (a * 10 + c) (.int .i64 q)) fun k _ => hst.out k
                have D6 : Blk ((wr.drewN 1).setCell ⟨b5, a * 10 + c, none⟩ (.int .i64 q)) b6 _ _ _ := Blk.kept HC6.out (grownBy_set (grownBy_drewN wr 1 _) (.int .i64 q) (a * 10 + c)) (by simp; omega)
                have hd : Below w2.heap.size w2 ((wr.drewN 1).setCell ⟨b5, a * 10 + c, none⟩ (.int .i64 q)) := (below_drewN hcb 1).setCell (p := ⟨b5, a * 10 + c, none⟩) g5 _
                clear HC5 HC6 hcb c1 c2 con hst hov hfr d3 d4
                generalize (wr.drewN 1).setCell ⟨b5, a * 10 + c, none⟩ (.int .i64 q) = w6 at *
                have LRx := LR2.out.below hd
                have con := Lib.hid (lrmeet_any (LRx.drewN 1) hn a c hlt hlc)
                generalize meetZ n (leT n (ofL L)) a c = z at *
                obtain ⟨ov2, hov⟩ : ∃ ov, w6.cell? ⟨b6, a * 10 + c, none⟩ = some ov := ⟨_, Blk.cell D6 (i := a * 10 + c) (by omega)⟩
                have hfr : w6.frozen? ⟨b6, a * 10 + c, none⟩ = false := Blk.free D6 _
                have HD5 := Lib.hid D5
                have HD6 := Lib.hid D6
                clear LRx D5 D6
                go_wp2_with fail
                go_region_held3 (fun _ => True) (first | trivial | go_keep)
                  ((go_at_call 60; refine Calls.mono con.out ?_; rintro e w7 ⟨rfl, rfl⟩; have d3 : (w6.drewN 1).cell? ⟨b6, a * 10 + c, none⟩ = some ov2 := hov; have d4 : (w6.drewN 1).frozen? ⟨b6, a * 10 + c, none⟩ = false := hfr))
                have E6 := Blk.congr (Blk.set (HD6.out.drewN 1) (a * 10 + c) (.int .i64 z)) fun k _ => hst6.out k
                have E5 : Blk ((w6.drewN 1).setCell ⟨b6, a * 10 + c, none⟩ (.int .i64 z)) b5 _ _ _ := Blk.kept HD5.out (grownBy_set (grownBy_drewN w6 1 _) (.int .i64 z) (a * 10 + c)) (by simp; omega)
                have he : Below w2.heap.size w2 ((w6.drewN 1).setCell ⟨b6, a * 10 + c, none⟩ (.int .i64 z)) := (below_drewN hd 1).setCell (p := ⟨b6, a * 10 + c, none⟩) g6 _
                clear HD5 HD6 hd con hst6 hov hfr d3 d4
                go_wp2_with fail
                go_roundw
                case rel => exact ⟨c + 1, by omega, by go_num, E5, E6, he⟩
                case measure => simp [intOf]; omega
              · obtain rfl : c = n := by omega
                have D5 := Blk.congr C5 fun k _ => congrArg (Value.int .i64) (zU_row (F := joinZ c (leT c (ofL L))) hn a k)
                have D6 := Blk.congr C6 fun k _ => congrArg (Value.int .i64) (zU_row (F := meetZ c (leT c (ofL L))) hn a k)
                clear C5 C6 LRx
                go_wp2_with fail
                go_roundw
                case rel => exact ⟨a + 1, by omega, by go_num, D5, D6, hcb⟩
                case measure => simp [intOf]; omega
          · obtain rfl : n = a := by omega
            have Bx := HBb.out.below hx HBb.out.lt
            have GX := grownBy_trans HG.out (grownBy_below hx (some b))
            have hob' := hob
            obtain ⟨lj, hlj⟩ : ∃ lj, lj = cut (fun k => Value.int .i64 (jR n (ofL L) k)) 0 100 := ⟨_, rfl⟩
            obtain ⟨lm, hlm⟩ : ∃ lm, lm = cut (fun k => Value.int .i64 (mR n (ofL L) k)) 0 100 := ⟨_, rfl⟩
            have P5 : wr.rangeAt b5 0 lj := by rw [hlj]; exact X5.range (o := 0) (k := 100) (by decide)
            have P6 : (wr.setCells b 102 lj).rangeAt b6 0 lm := by rw [hlm]; exact (Blk.other X6 lj 102 hne6).range (o := 0) (k := 100) (by decide)
            have hi5 : (Tryd.prog.info? 89).map (·.size) = some lj.length := by rw [hlj, cut_len]; exact info89
            have hi6 : (Tryd.prog.info? 89).map (·.size) = some lm.length := by rw [hlm, cut_len]; exact info89
            have hj5 : (Tryd.prog.info? 89).map (·.size) = some lj.toArray.size := hi5
            have hj6 : (Tryd.prog.info? 89).map (·.size) = some lm.toArray.size := hi6
            have T5 : wr.there b 102 lj.toArray.size := by rw [List.size_toArray, hlj, cut_len]; exact Bx.there (by decide)
            have T6 : (wr.setCells b 102 lj).there b 202 lm.toArray.size := by rw [List.size_toArray, hlm, cut_len]; exact World.there_setCells (Bx.there (by decide)) _ _ _
            have o5 : lj.toArray.all (·.oneCell') = true := by rw [hlj]; exact cut_one fun i hi => rfl
            have o6 : lm.toArray.all (·.oneCell') = true := by rw [hlm]; exact cut_one fun i hi => rfl
            have hfin := Lib.hid (tables_end Bx hlj hlm)
            have hfc := Lib.hid (grownBy_cells lm 202 (grownBy_cells lj 102 GX))
            have hoc : Hid (((wr.setCells b 102 lj).setCells b 202 lm).cell? ⟨o, 0, none⟩ = some (.int .i64 (n : Nat))) := by
              show _ = _
              rw [World.cell?_of_block (hfc.out.block o HR.out.lt (by simp; omega))]
              exact h2
            clear X5 X6 Bx GX hlj hlm LR2 HBb HG hx ho2
            go_wp2_with (first
              | (refine wpList_store_mid rfl 89 (.tmp 99) (.tmp 97) rfl b 102 lj.toArray rfl rfl T5 hj5 o5 ?_)
              | (refine wpList_store_mid rfl 89 (.tmp 103) (.tmp 101) rfl b 202 lm.toArray rfl rfl T6 hj6 o6 ?_)
              | (refine wpList_load_mid rfl 89 (.tmp 5) rfl b5 0 rfl lj _ P5 Tryd.underlying89 rfl hi5 ?_)
              | (refine wpList_load_mid rfl 89 (.tmp 6) rfl b6 0 rfl lm _ P6 Tryd.underlying89 rfl hi6 ?_))
            go_end0
            exact ⟨rfl, hfc.out, hfin.out, hoc.out⟩
end Go.Proofs.YtaikhdmgcffflaaDoor
