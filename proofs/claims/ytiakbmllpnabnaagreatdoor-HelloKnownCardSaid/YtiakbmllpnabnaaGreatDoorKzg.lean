/- The laws' own functions: works. -/
import Derived.Test.YtiakbmllpnabnaaGreatDoorKzd
import Derived.Great.Walk
namespace Go.Proofs.YtiakbmllpnabnaaGreatDoor
open Go Go.RowKit

theorem grS_in {lo : Nat} {w w' : World} {g : Grt} {a : Adr} (h : GrS (New lo w) w g a) (hb : Below w.heap.size w w') : GrV w'.heap.size w' g a :=
  (h.keep (S' := fun k => k < w'.heap.size) fun k hk => ⟨hb.block k hk.2, Nat.lt_of_lt_of_le hk.2 hb.size⟩).grV fun _ hk => hk
theorem wB_len (c : UInt8) : (wB c).length = 62 := rfl
def hdB : List UInt8 := [22, 3, 1, 0, 57, 1, 0, 0, 53, 3, 3]
def hdV : List Value := [.int .u8 22, .int .u8 3, .int .u8 1, .int .u8 0, .int .u8 57, .int .u8 1, .int .u8 0, .int .u8 0, .int .u8 53, .int .u8 3, .int .u8 3]
def tlB : List UInt8 := [0, 2, 19, 1, 1, 0, 0, 10, 0, 0, 0, 6, 0, 4, 0, 0, 1, 97]
def tlV : List Value := [.int .u8 0, .int .u8 2, .int .u8 19, .int .u8 1, .int .u8 1, .int .u8 0, .int .u8 0, .int .u8 10, .int .u8 0, .int .u8 0, .int .u8 0, .int .u8 6, .int .u8 0, .int .u8 4, .int .u8 0, .int .u8 0, .int .u8 1, .int .u8 97]
theorem hd_lit (w : World) : RowG (w.alloc (.cells hdV.toArray 5)) w.heap.size (some ⟨w.heap.size, 0, none⟩) hdB.length hdB := rowG_lit w _ hdB hdV rfl (Nat.le_refl _) (by decide)
theorem tl_lit (w : World) : RowG (w.alloc (.cells tlV.toArray 5)) w.heap.size (some ⟨w.heap.size, 0, none⟩) tlB.length tlB := rowG_lit w _ tlB tlV rfl (Nat.le_refl _) (by decide)
theorem wB_eq : (wB 97 == wB 97) = true := by kernel_rfl
theorem wB_parts : hdB ++ List.replicate 33 0 ++ tlB = wB 97 := rfl
theorem made2 {wa : World} {A : Option Addr} {c : Nat} {b : Nat} (R : RowG wa b A c (hdB ++ List.replicate 33 0)) : RowG (wa.alloc (.cells tlV.toArray 5)) b A c (hdB ++ List.replicate 33 0) ∧ Src Tryz.prog 1 22 (.slice (some ⟨wa.heap.size, 0, none⟩) 18 18) 18 (Lib.byteCells tlB) (wa.alloc (.cells tlV.toArray 5)) :=
  ⟨R.below (below_new _ _), src_rb (tl_lit wa).rb⟩
theorem RowG.some' {w : World} {base : Nat} {A : Option Addr} {c : Nat} {l : List UInt8} (h : RowG w base A c l) (hl : 0 < l.length) : ∃ g, A = some ⟨g, 0, none⟩ := by
  rcases h.at_ with ⟨rfl, hc⟩ | ⟨g, rfl, _⟩
  · have := h.le; omega
  · exact ⟨g, rfl⟩
theorem RowG.put {w : World} {base g c : Nat} {l : List UInt8} (h : RowG w base (some ⟨g, 0, none⟩) c l) (j : Nat) (hj : j < l.length) (y : UInt8) (v : Int) (hv : v = (y.toNat : Int)) :
    RowG (w.setCell ⟨g, j, none⟩ (.int .u8 v)) base (some ⟨g, 0, none⟩) c (l.set j y) ∧ w.cell? ⟨g, j, none⟩ = some (.int .u8 (l[j].toNat : Int)) ∧ w.frozen? ⟨g, j, none⟩ = false := by
  subst hv
  rcases h.at_ with ⟨e, _⟩ | ⟨g', e, hb, hlt, hcs, hcl⟩
  · cases e
  cases e
  have hjc : j < c := Nat.lt_of_lt_of_le hj h.le
  refine ⟨⟨by rw [List.length_set]; exact h.le, h.most, .inr ⟨g, rfl, hb, by simpa using hlt, fun i hi => ⟨?_, by simpa using (hcs i hi).2⟩, fun i hi => ?_⟩⟩, hcl j hj, (hcs j hjc).2⟩
  · by_cases e : j = i
    · subst e
      rw [World.cell?_setCell_same _ _ _ (hcl j hj)]; rfl
    · rw [World.cell?_setCell_other _ _ _ _ (fun x => e (by cases x; rfl))]; exact (hcs i hi).1
  · rw [List.length_set] at hi
    by_cases e : j = i
    · subst e
      rw [World.cell?_setCell_same _ _ _ (hcl j hj), List.getElem_set_self]
    · rw [World.cell?_setCell_other _ _ _ _ (fun x => e (by cases x; rfl)), hcl i hi, List.getElem_set_ne e]
/-- a block of a greeting, one of whose cells is stored -/
theorem row_put {w : World} {g : Nat} {arr : Array Value} {t : TypeId} (h : w.heap[g]? = some (.cells arr t (0, 0))) (j : Nat) (v : Value) : (w.setCell ⟨g, j, none⟩ v).heap[g]? = some (.cells (arr.setIfInBounds j v) t (0, 0)) := by
  have hlt := lt_of_block h
  have h' : w.heap[g] = .cells arr t (0, 0) := by simpa [Array.getElem?_eq_getElem hlt] using h
  show (w.heap.modify g _)[g]? = _
  rw [Array.getElem?_eq_getElem (by simpa using hlt), Array.getElem_modify_self, h']
  rfl
theorem row_cell {w : World} {g : Nat} {arr : Array Value} {t : TypeId} (h : w.heap[g]? = some (.cells arr t (0, 0))) (j : Nat) : w.cell? ⟨g, j, none⟩ = arr[j]? ∧ w.frozen? ⟨g, j, none⟩ = false := by
  unfold World.cell? World.frozen?
  rw [h]
  exact ⟨rfl, by simp⟩
theorem zero7 : (Tryz.prog.info? 28).map (fun i => (i.zero, i.size)) = some (some (.agg (gArr 0)), 39) := by kernel_rfl
theorem run_alloc7 (ρ : Operand → Value) (o : Oper) (ho : o.op = .alloc 28) (w : World) : (execOp ρ o).run Tryz.prog w = .ok (.value (.pointer (some ⟨w.heap.size, 0, none⟩))) (w.alloc (.cells (gArr 0) 28)) := by
  have hz := (zero_of_info zero7).1
  unfold execOp
  simp only [ho, Instr.alloc, Sem.run_bind, hz, Result.andThen_ok]
  simp [newVar, newRow, Value.cells, go_sem]
theorem wpList_alloc7 {ops : Array Oper} {rest : List Oper} {o : Oper} {a : Act} {w : World} {Q : Exit → Act → World → Prop} (hg : o.guard = none) (ho : o.op = .alloc 28) (n : Nat) (hn : w.heap.size = n)
    (h : wpList Tryz.prog ops Q rest (a.put o.dst (.pointer (some ⟨n, 0, none⟩))) (w.alloc (.cells (gArr 0) 28))) : wpList Tryz.prog ops Q (o :: rest) a w :=
  Go.Great.wpList_allocTo hg _ rfl _ _ (run_alloc7 a.eval o ho w) (by rw [hn]; exact h)
/-- three blocks of greetings -/
structure Tri (w : World) (n : Nat) (x y z : Array Value) : Prop where
  a : w.heap[n]? = some (.cells x 28 (0, 0))
  b : w.heap[n + 1]? = some (.cells y 28 (0, 0))
  c : w.heap[n + 2]? = some (.cells z 28 (0, 0))
theorem Tri.keep {w w' : World} {n B : Nat} {x y z : Array Value} (h : Tri w n x y z) (hb : Below B w w') (hB : n + 2 < B) : Tri w' n x y z :=
  ⟨(hb.block _ (by omega)).trans h.a, (hb.block _ (by omega)).trans h.b, (hb.block _ hB).trans h.c⟩
/-- three blocks, laid and stored -/
def W3 (w : World) : World := ((w.alloc (.cells (gArr 0) 28)).alloc (.cells (gArr 0) 28)).alloc (.cells (gArr 0) 28)
theorem w3_size (w : World) : (W3 w).heap.size = w.heap.size + 3 := by unfold W3; simp
theorem w3_below (w : World) : Below w.heap.size w (W3 w) := by
  unfold W3
  exact (below_new w _).trans (((below_new _ _).mono (by simp)).trans ((below_new _ _).mono (by simp; omega)))
theorem three_new (w : World) : Tri (W3 w) w.heap.size (gArr 0) (gArr 0) (gArr 0) := by
  have hs1 : (w.alloc (.cells (gArr 0) 28)).heap.size = w.heap.size + 1 := by simp
  have hs2 : ((w.alloc (.cells (gArr 0) 28)).alloc (.cells (gArr 0) 28)).heap.size = w.heap.size + 2 := by simp
  have hb2 := below_new (w.alloc (.cells (gArr 0) 28)) (.cells (gArr 0) 28)
  have hb3 := below_new ((w.alloc (.cells (gArr 0) 28)).alloc (.cells (gArr 0) 28)) (.cells (gArr 0) 28)
  unfold W3
  refine ⟨(hb3.block _ (by rw [hs2]; omega)).trans ((hb2.block _ (by rw [hs1]; omega)).trans (heap_alloc_new w _)), (hb3.block _ (by rw [hs2]; omega)).trans ?_, ?_⟩
  · rw [← hs1]; exact heap_alloc_new _ _
  · rw [← hs2]; exact heap_alloc_new _ _
theorem three_set (w : World) (x y z : Array Value) : ((W3 w).setRow w.heap.size x).heap[w.heap.size + 1]? = some (.cells (gArr 0) 28 (0, 0)) ∧ (((W3 w).setRow w.heap.size x).setRow (w.heap.size + 1) y).heap[w.heap.size + 1 + 1]? = some (.cells (gArr 0) 28 (0, 0)) ∧
    Tri ((((W3 w).setRow w.heap.size x).setRow (w.heap.size + 1) y).setRow (w.heap.size + 1 + 1) z) w.heap.size x y z ∧ Below w.heap.size w ((((W3 w).setRow w.heap.size x).setRow (w.heap.size + 1) y).setRow (w.heap.size + 1 + 1) z) ∧ w.heap.size + 2 < ((((W3 w).setRow w.heap.size x).setRow (w.heap.size + 1) y).setRow (w.heap.size + 1 + 1) z).heap.size := by
  obtain ⟨h1, h2, h3⟩ := three_new w
  have hw := w3_size w
  have hb := w3_below w
  generalize W3 w = v at *
  have k1 := setRow_heap v w.heap.size _ x _ _ h1
  have k2 := (setRow_other v w.heap.size (w.heap.size + 1) x (by omega)).trans h2
  have k3 := (setRow_other v w.heap.size (w.heap.size + 2) x (by omega)).trans h3
  have m1 := (setRow_other _ (w.heap.size + 1) w.heap.size y (by omega)).trans k1
  have m2 := setRow_heap _ (w.heap.size + 1) _ y _ _ k2
  have m3 := (setRow_other _ (w.heap.size + 1) (w.heap.size + 2) y (by omega)).trans k3
  exact ⟨k2, m3, ⟨(setRow_other _ _ _ _ (by omega)).trans m1, (setRow_other _ _ _ _ (by omega)).trans m2, setRow_heap _ _ _ _ _ _ m3⟩, below_setRow7 (below_setRow7 (below_setRow7 hb (Nat.le_refl _) _) (by omega) _) (by omega) _, by rw [size_setRow, size_setRow, size_setRow]; omega⟩
def exO : Obj := .cells #[.int .i64 0, .slice none 0 0] 62
/-- the three greetings turned -/
theorem tri_steps {w wa wb wc : World} {n : Nat} {x y z : Array Value} (T : Tri w n x y z) (hn : n + 2 < w.heap.size) (ha : (w.setCell ⟨n, 35, none⟩ (.slice none 0 0)).alloc exO = wa) (hb : wa.setCell ⟨n + 1, 38, none⟩ (.slice (some ⟨w.heap.size, 0, none⟩) 1 1) = wb) (hc : wb.setCell ⟨n + 1 + 1, 37, none⟩ (.int .i64 1) = wc) :
    (wa.cell? ⟨n + 1, 38, none⟩ = y[38]? ∧ wa.frozen? ⟨n + 1, 38, none⟩ = false) ∧ (wb.cell? ⟨n + 1 + 1, 37, none⟩ = z[37]? ∧ wb.frozen? ⟨n + 1 + 1, 37, none⟩ = false) ∧
    Tri wc n (x.setIfInBounds 35 (.slice none 0 0)) (y.setIfInBounds 38 (.slice (some ⟨w.heap.size, 0, none⟩) 1 1)) (z.setIfInBounds 37 (.int .i64 1)) ∧ wc.heap[w.heap.size]? = some exO ∧ Below n w wc ∧ wc.heap.size = w.heap.size + 1 := by
  have e0 := row_put T.a 35 (.slice none 0 0)
  have o0 : ∀ k, k ≠ n → (w.setCell ⟨n, 35, none⟩ (.slice none 0 0)).heap[k]? = w.heap[k]? := fun k hk => Below.heap_setCell _ _ _ _ hk
  have z0 : (w.setCell ⟨n, 35, none⟩ (.slice none 0 0)).heap.size = w.heap.size := by simp [World.setCell]
  have b0 : Below n w (w.setCell ⟨n, 35, none⟩ (.slice none 0 0)) := (Below.refl _ _).setCell (p := ⟨n, 35, none⟩) (Nat.le_refl _) _
  generalize w.setCell ⟨n, 35, none⟩ (.slice none 0 0) = v at *
  have oa : ∀ k, k < w.heap.size → wa.heap[k]? = v.heap[k]? := fun k hk => by rw [← ha]; exact (below_new v exO).block k (by omega)
  have na : wa.heap[w.heap.size]? = some exO := by rw [← ha, ← z0]; exact heap_alloc_new _ _
  have za : wa.heap.size = w.heap.size + 1 := by rw [← ha, ← z0]; simp
  have ba : Below n w wa := b0.trans (by rw [← ha]; exact (below_new v exO).mono (by omega))
  have ea := (oa n (by omega)).trans e0
  have fa := (oa (n + 1) (by omega)).trans ((o0 (n + 1) (by omega)).trans T.b)
  have ga := (oa (n + 2) (by omega)).trans ((o0 (n + 2) (by omega)).trans T.c)
  have ob : ∀ k, k ≠ n + 1 → wb.heap[k]? = wa.heap[k]? := fun k hk => by rw [← hb]; exact Below.heap_setCell _ _ _ _ hk
  have zb : wb.heap.size = wa.heap.size := by rw [← hb]; simp [World.setCell]
  have bb : Below n w wb := by rw [← hb]; exact ba.setCell (p := ⟨n + 1, 38, none⟩) (Nat.le_succ _) _
  have fb : wb.heap[n + 1]? = some (.cells (y.setIfInBounds 38 (.slice (some ⟨w.heap.size, 0, none⟩) 1 1)) 28 (0, 0)) := by rw [← hb]; exact row_put fa 38 _
  have gb := (ob (n + 2) (by omega)).trans ga
  have oc : ∀ k, k ≠ n + 2 → wc.heap[k]? = wb.heap[k]? := fun k hk => by rw [← hc]; exact Below.heap_setCell _ _ _ _ hk
  have gc : wc.heap[n + 2]? = some (.cells (z.setIfInBounds 37 (.int .i64 1)) 28 (0, 0)) := by rw [← hc]; exact row_put gb 37 _
  refine ⟨row_cell fa 38, row_cell gb 37, ⟨(oc n (by omega)).trans ((ob n (by omega)).trans ea), (oc (n + 1) (by omega)).trans fb, gc⟩, (oc _ (by omega)).trans ((ob _ (by omega)).trans na), ?_, ?_⟩
  · rw [← hc]; exact bb.setCell (p := ⟨n + 1 + 1, 37, none⟩) (by show n ≤ n + 1 + 1; omega) _
  · rw [← hc, World.setCell]; simp; omega
def gNo : Grt := ⟨1, List.replicate 32 0, [], [4865], [], [97], 0, []⟩
def gTw : Grt := ⟨1, List.replicate 32 0, [], [4865], [0], [97], 0, [(0, [])]⟩
def gFa : Grt := ⟨1, List.replicate 32 0, [], [4865], [0], [97], 1, []⟩
def aNo (a : Adr) : Adr := ⟨a.a1, a.c1, a.a2, a.c2, none, 0, a.a4, a.c4⟩
def aTw (a : Adr) (k : Nat) : Adr := ⟨a.a1, a.c1, a.a2, a.c2, a.a3, a.c3, some ⟨k, 0, none⟩, 1⟩
theorem row_no (a : Adr) : (grtA plG a).setIfInBounds 35 (.slice none 0 0) = grtA gNo (aNo a) := rfl
theorem row_tw (a : Adr) (k : Nat) : (grtA plG a).setIfInBounds 38 (.slice (some ⟨k, 0, none⟩) 1 1) = grtA gTw (aTw a k) := rfl
theorem row_fa (a : Adr) : (grtA plG a).setIfInBounds 37 (.int .i64 1) = grtA gFa a := rfl
/-- the three that may not be, in memory -/
structure Fin3 (w : World) (n : Nat) (b5 b6 b7 : Adr) : Prop where
  tri : Tri w n (grtA gNo b5) (grtA gTw b6) (grtA gFa b7)
  lt : n + 2 < w.heap.size
  no : GrS (fun k => k < w.heap.size) w gNo b5
  tw : GrS (fun k => k < w.heap.size) w gTw b6
  fa : GrS (fun k => k < w.heap.size) w gFa b7
theorem Fin3.below {w w' : World} {n : Nat} {b5 b6 b7 : Adr} (h : Fin3 w n b5 b6 b7) (hb : Below w.heap.size w w') : Fin3 w' n b5 b6 b7 := by
  have hk : ∀ k, k < w.heap.size → w'.heap[k]? = w.heap[k]? ∧ k < w'.heap.size := fun k hk => ⟨hb.block k hk, Nat.lt_of_lt_of_le hk hb.size⟩
  exact ⟨h.tri.keep hb h.lt, Nat.lt_of_lt_of_le h.lt hb.size, h.no.keep hk, h.tw.keep hk, h.fa.keep hk⟩
theorem tri_end {w0 w wz : World} {n : Nat} {a5 a6 a7 : Adr} (T : Tri w n (grtA plG a5) (grtA plG a6) (grtA plG a7)) (hn : n + 2 < w.heap.size) (h0 : w0.heap.size = n) (hb : Below n w0 w) (v5 : GrS (fun k => k < w0.heap.size) w0 plG a5) (v6 : GrS (fun k => k < w0.heap.size) w0 plG a6) (v7 : GrS (fun k => k < w0.heap.size) w0 plG a7)
    (hz : (((w.setCell ⟨n, 35, none⟩ (.slice none 0 0)).setCell ⟨n + 1, 38, none⟩ (.slice (some ⟨w.heap.size, 0, none⟩) 1 1)).setCell ⟨n + 1 + 1, 37, none⟩ (.int .i64 1)).alloc exO = wz) :
    Fin3 wz n (aNo a5) (aTw a6 w.heap.size) a7 ∧ Below n w wz := by
  have e0 := row_put T.a 35 (.slice none 0 0)
  have o0 : ∀ k, k ≠ n → (w.setCell ⟨n, 35, none⟩ (.slice none 0 0)).heap[k]? = w.heap[k]? := fun k hk => Below.heap_setCell _ _ _ _ hk
  have z0 : (w.setCell ⟨n, 35, none⟩ (.slice none 0 0)).heap.size = w.heap.size := by simp [World.setCell]
  have b0 : Below n w (w.setCell ⟨n, 35, none⟩ (.slice none 0 0)) := (Below.refl _ _).setCell (p := ⟨n, 35, none⟩) (Nat.le_refl _) _
  generalize w.setCell ⟨n, 35, none⟩ (.slice none 0 0) = u at *
  have f0 := (o0 (n + 1) (by omega)).trans T.b
  have g0 := (o0 (n + 2) (by omega)).trans T.c
  have e1 := row_put f0 38 (.slice (some ⟨w.heap.size, 0, none⟩) 1 1)
  have o1 : ∀ k, k ≠ n + 1 → (u.setCell ⟨n + 1, 38, none⟩ (.slice (some ⟨w.heap.size, 0, none⟩) 1 1)).heap[k]? = u.heap[k]? := fun k hk => Below.heap_setCell _ _ _ _ hk
  have z1 : (u.setCell ⟨n + 1, 38, none⟩ (.slice (some ⟨w.heap.size, 0, none⟩) 1 1)).heap.size = w.heap.size := by rw [← z0]; simp [World.setCell]
  have b1 : Below n w (u.setCell ⟨n + 1, 38, none⟩ (.slice (some ⟨w.heap.size, 0, none⟩) 1 1)) := b0.setCell (p := ⟨n + 1, 38, none⟩) (Nat.le_succ _) _
  generalize u.setCell ⟨n + 1, 38, none⟩ (.slice (some ⟨w.heap.size, 0, none⟩) 1 1) = v at *
  have g1 := (o1 (n + 2) (by omega)).trans g0
  have e2 := row_put g1 37 (.int .i64 1)
  have o2 : ∀ k, k ≠ n + 2 → (v.setCell ⟨n + 1 + 1, 37, none⟩ (.int .i64 1)).heap[k]? = v.heap[k]? := fun k hk => Below.heap_setCell _ _ _ _ hk
  have z2 : (v.setCell ⟨n + 1 + 1, 37, none⟩ (.int .i64 1)).heap.size = w.heap.size := by rw [← z1]; simp [World.setCell]
  have b2 : Below n w (v.setCell ⟨n + 1 + 1, 37, none⟩ (.int .i64 1)) := b1.setCell (p := ⟨n + 1 + 1, 37, none⟩) (by show n ≤ n + 1 + 1; omega) _
  have e2 : (v.setCell ⟨n + 1 + 1, 37, none⟩ (.int .i64 1)).heap[n + 2]? = some (.cells ((grtA plG a7).setIfInBounds 37 (.int .i64 1)) 28 (0, 0)) := e2
  generalize v.setCell ⟨n + 1 + 1, 37, none⟩ (.int .i64 1) = x at *
  have hx := below_new x exO
  have hx' : Below n w (x.alloc exO) := b2.trans (hx.mono (by omega))
  have nx : (x.alloc exO).heap[w.heap.size]? = some exO := by rw [← z2]; exact heap_alloc_new _ _
  have zx : (x.alloc exO).heap.size = w.heap.size + 1 := by rw [← z2]; simp
  have t0 := (hx.block n (by omega)).trans ((o2 n (by omega)).trans ((o1 n (by omega)).trans e0))
  have t1 := (hx.block (n + 1) (by omega)).trans ((o2 (n + 1) (by omega)).trans e1)
  have t2 := (hx.block (n + 2) (by omega)).trans e2
  rw [row_no] at t0
  rw [row_tw] at t1
  rw [row_fa] at t2
  rw [hz] at hx' nx zx t0 t1 t2
  have hk : ∀ k, k < w0.heap.size → wz.heap[k]? = w0.heap[k]? ∧ k < wz.heap.size := fun k hk => ⟨(hx'.block k (by omega)).trans (hb.block k (by omega)), by omega⟩
  have u5 := v5.keep hk
  have u6 := v6.keep hk
  have u7 := v7.keep hk
  refine ⟨⟨⟨t0, t1, t2⟩, by omega, ⟨u5.ses, u5.sui, ⟨Nat.zero_le _, fun _ => rfl, fun i hi => by simp [gNo] at hi⟩, u5.ext, u5.sl, u5.ul, by decide, u5.hl, u5.xl, u5.rl⟩, ⟨u6.ses, u6.sui, u6.met, fun i hi => ?_, u6.sl, u6.ul, u6.ml, u6.hl, by decide, u6.rl⟩, ⟨u7.ses, u7.sui, u7.met, u7.ext, u7.sl, u7.ul, u7.ml, u7.hl, u7.xl, u7.rl⟩⟩, hx'⟩
  have : i = 0 := by simp [gTw] at hi; omega
  subst this
  refine ⟨w.heap.size, 0, none, 0, rfl, by omega, ?_, ?_, ⟨Nat.zero_le _, fun _ => rfl, fun i hi => by simp [gTw] at hi⟩⟩
  · unfold World.cell?
    rw [show wz.heap[(⟨w.heap.size, 0 + 0 * 2, none⟩ : Addr).block]? = _ from nx]
    rfl
  · unfold World.cell?
    rw [show wz.heap[(⟨w.heap.size, 0 + 0 * 2 + 1, none⟩ : Addr).block]? = _ from nx]
    rfl
theorem wpList_load_rowG {P : Program} {ops : Array Oper} {rest : List Oper} {o : Oper} {a : Act} {w : World} {Q : Exit → Act → World → Prop} (hw : Region.wanted o (yielded ops a.tmps) = true) (ty : TypeId) (x : Operand) (ho : o.op = .load ty x)
    (g : Nat) (hx : a.eval x = .pointer (some ⟨g, 0, none⟩)) (t : TypeId) (cs : Array Value) (fr : Nat × Nat) (d : TypeDesc) (hg : w.heap[g]? = some (.cells cs t fr))
    (hu : P.underlying ty = some d) (hd : (match d with | .struct _ | .array _ _ => true | _ => false) = true) (hi : (P.info? ty).map (·.size) = some cs.size)
    (h : wpList P ops Q rest (a.put o.dst (.agg cs)) w) : wpList P ops Q (o :: rest) a w := by
  refine wpList_step fun K hK => ?_
  rw [if_pos hw]
  exact wp_load_row ty x ho g hx t cs fr d hg hu hd hi (hK _ _ h)
theorem wsni {w w1 : World} {A : Option Addr} {c n : Nat} {l : List UInt8} (hG : Gl w) (hb : Below w.heap.size w w1) (R : Rb w1.heap.size w1 A c l) (hn : l.length = n) (want : List UInt8) (k : Int) {v : Bool} (hv : sniB l want k = v) (hl : n ≤ 1000000 := by decide) :
    Calls Tryz.prog 24 #[.slice A n c, .string ⟨want.toArray⟩, .int .i64 k] w1 (BoolP v w1) := by
  subst hn hv
  exact lsni_any R (Nat.le_refl _) hl (hG.below hb) want k
set_option maxRecDepth 100000 in
set_option maxHeartbeats 1000000 in
theorem works_any (w : World) (hG : Gl w) : Calls Tryz.prog 17 #[] w (BoolP true w) := by
  have HG := Lib.hid hG
  clear hG
  go_enter Tryz.func17, Tryz.ntmps17
  go_wp2_with fail
  refine (plain_any w).mono ?_
  rintro e w1 ⟨a0, rfl, hgr, hb⟩
  have CW := write_prog7 (grS_in hgr (Below.refl _ _)) (HG.out.below hb) (fun x hx => by cases hx)
  have CW := Lib.hid CW
  have B1 := Lib.hid hb
  clear hgr hb
  go_wp2_with fail
  refine CW.out.mono ?_
  rintro e w2 ⟨h1, _⟩
  obtain ⟨A2, c2, rfl, hr, hb⟩ := h1 wB_ok
  rw [wB_rec] at hr ⊢
  have B2 := Lib.hid (B1.out.trans (hb.mono B1.out.size))
  have R2 := Lib.hid (hr.up (base' := w.heap.size) B1.out.size)
  have RL := Lib.hid (hd_lit w2)
  have HW2 := Lib.hid B2.out.size
  have BL := Lib.hid (below_new w2 (.cells hdV.toArray 5))
  clear h1 hr hb CW B1
  rw [wB_len]
  go_wp2_with (first
    | (at_builtin; refine wpList_zeros rfl (.tmp 13) (.const (.int .i64 33)) rfl _ w2.heap.size (some ⟨w2.heap.size, 0, none⟩) 11 33 hdB rfl (by decide) (by decide) rfl rfl RL.out BL.out.size (by decide) ?_; intro A3 c3 w3 hr3 hb3 _; have R3 := Lib.hid (made2 hr3); have B3 := Lib.hid (BL.out.trans hb3); clear hr3 hb3)
    | (at_builtin; refine wpList_pushG rfl (.tmp 15) (.tmp 16) 22 rfl _ w2.heap.size A3 c3 44 18 (hdB ++ List.replicate 33 0) tlB _ rfl rfl rfl rfl R3.out.1 R3.out.2 (Nat.le_trans B3.out.size (below_new w3 _).size) (by decide) ?_; intro A4 c4 w4 hr4 hb4 _; have R4 := Lib.hid hr4; have B4 := Lib.hid (B3.out.trans (((below_new w3 _).mono B3.out.size).trans hb4)); clear hr4 hb4))
  have r2 := R2.out.below B4.out
  have r4 := R4.out
  rw [wB_parts] at r4
  have CE := eqBytes_rb r2.rb r4.rb
  rw [wB_len, wB_eq] at CE
  have CE := Lib.hid CE
  have BW := Lib.hid (B2.out.trans (B4.out.mono B2.out.size))
  have C1 := Lib.hid (wsni HG.out BW.out r4.rb (wB_len 97) [97] 0 wB_97)
  have R5 := Lib.hid r4
  clear r2 r4 R2 R4 R3 RL BL B3 B2
  have h24 : w2.heap.size ≤ w4.heap.size := B4.out.size
  clear B4
  go_wp2_with (go_at_call 15; refine Calls.mono CE.out ?_; rintro e w' ⟨rfl, rfl⟩)
  refine Calls.mono C1.out ?_
  rintro e w5 ⟨rfl, hb⟩
  have R6 := Lib.hid (R5.out.below hb)
  have B6 := Lib.hid (BW.out.trans (hb.mono BW.out.size))
  have h25 : w2.heap.size ≤ w5.heap.size := Nat.le_trans h24 hb.size
  clear hb C1 CE R5 BW h24
  have hc62 : 62 ≤ c4 := R6.out.le
  have hc61 : 61 ≤ c4 := by omega
  have hc61i : (61 : Int) ≤ c4 := by omega
  obtain ⟨g4, rfl⟩ := R6.out.some' (by decide)
  have hl4 := R6.out.lt rfl
  have C2 := Lib.hid (wsni HG.out B6.out (R6.out.rb.take 61) rfl [] 70 wB_cut)
  have hg4 : w.heap.size ≤ g4 := Nat.le_trans (show w.heap.size ≤ w2.heap.size from HW2.out) hl4.1
  go_wp2_with fail
  refine Calls.mono C2.out ?_
  rintro e w6 ⟨rfl, hb⟩
  have R7 := Lib.hid (R6.out.below hb)
  have B7 := Lib.hid (B6.out.trans (hb.mono B6.out.size))
  obtain ⟨p1, p2, p3⟩ := R7.out.put 61 (by decide) 65 65 rfl
  have R8 : Hid (RowG (w6.setCell ⟨g4, 61, none⟩ (.int .u8 65)) w2.heap.size (some ⟨g4, 0, none⟩) c4 (wB 65)) := Lib.hid p1
  have B8 : Hid (Below w.heap.size w (w6.setCell ⟨g4, 61, none⟩ (.int .u8 65))) := Lib.hid (B7.out.setCell (p := ⟨g4, 61, none⟩) hg4 _)
  have C3 := Lib.hid (wsni HG.out B8.out R8.out.rb (wB_len 65) [97] 0 wB_65)
  clear hb p1 C2 R6 B6 R7 B7
  go_wp2_with fail
  refine Calls.mono C3.out ?_
  rintro e w7 ⟨rfl, hb⟩
  have R9 := Lib.hid (R8.out.below hb)
  have B9 := Lib.hid (B8.out.trans (hb.mono B8.out.size))
  obtain ⟨q1, q2, q3⟩ := R9.out.put 61 (by decide) 46 46 rfl
  have R10 : Hid (RowG (w7.setCell ⟨g4, 61, none⟩ (.int .u8 46)) w2.heap.size (some ⟨g4, 0, none⟩) c4 (wB 46)) := Lib.hid q1
  have B10 : Hid (Below w.heap.size w (w7.setCell ⟨g4, 61, none⟩ (.int .u8 46))) := Lib.hid (B9.out.setCell (p := ⟨g4, 61, none⟩) hg4 _)
  clear hb q1 C3 R8 B8 R9 B9 p2 p3
  go_wp2_with fail
  generalize w7.setCell ⟨g4, 61, none⟩ (.int .u8 46) = w8 at *
  clear q2 q3
  refine (plain_any w8).mono ?_
  rintro e w9 ⟨a5, rfl, hg5, hb5⟩
  have B11 := Lib.hid (B10.out.trans (hb5.mono B10.out.size))
  have R11 := Lib.hid (R10.out.below hb5)
  have G5 := Lib.hid hg5
  clear hg5 hb5 B10 R10
  go_wp2_with fail
  refine (plain_any w9).mono ?_
  rintro e w10 ⟨a6, rfl, hg6, hb6⟩
  have B12 := Lib.hid (B11.out.trans (hb6.mono B11.out.size))
  have R12 := Lib.hid (R11.out.below hb6)
  have G5' := Lib.hid (G5.out.keep (S' := New w8.heap.size w10) fun k hk => ⟨hb6.block k hk.2, hk.1, Nat.lt_of_lt_of_le hk.2 hb6.size⟩)
  have G6 := Lib.hid hg6
  clear hg6 hb6 B11 R11 G5
  go_wp2_with fail
  refine (plain_any w10).mono ?_
  rintro e w11 ⟨a7, rfl, hg7, hb7⟩
  have B13 := Lib.hid (B12.out.trans (hb7.mono B12.out.size))
  have R13 := Lib.hid (R12.out.below hb7)
  have V5 := Lib.hid (G5'.out.keep (S' := fun k => k < w11.heap.size) fun k hk => ⟨hb7.block k hk.2, Nat.lt_of_lt_of_le hk.2 hb7.size⟩)
  have V6 := Lib.hid (G6.out.keep (S' := fun k => k < w11.heap.size) fun k hk => ⟨hb7.block k hk.2, Nat.lt_of_lt_of_le hk.2 hb7.size⟩)
  have V7 := Lib.hid (hg7.keep (S' := fun k => k < w11.heap.size) fun k hk => ⟨rfl, hk.2⟩)
  clear hg7 hb7 B12 R12 G5' G6
  have T3 := Lib.hid (three_new w11)
  have O5 := Lib.hid (grtA_one plG a5)
  have O6 := Lib.hid (grtA_one plG a6)
  have O7 := Lib.hid (grtA_one plG a7)
  have TT := Lib.hid (three_set w11 (grtA plG a5) (grtA plG a6) (grtA plG a7))
  go_wp2_with (first
    | (refine wpList_alloc7 rfl rfl w11.heap.size rfl ?_; refine wpList_alloc7 rfl rfl (w11.heap.size + 1) (by simp) ?_; refine wpList_alloc7 rfl rfl (w11.heap.size + 1 + 1) (by simp) ?_)
    | (refine wpList_store_row rfl 28 (.tmp 5) (.tmp 52) rfl w11.heap.size (grtA plG a5) rfl rfl 28 _ T3.out.a (infoGA plG a5) rfl O5.out ?_; refine wpList_store_row rfl 28 (.tmp 6) (.tmp 53) rfl (w11.heap.size + 1) (grtA plG a6) rfl rfl 28 _ TT.out.1 (infoGA plG a6) rfl O6.out ?_; refine wpList_store_row rfl 28 (.tmp 7) (.tmp 54) rfl (w11.heap.size + 1 + 1) (grtA plG a7) rfl rfl 28 _ TT.out.2.1 (infoGA plG a7) rfl O7.out ?_; have TR := Lib.hid TT.out.2.2; change wpList _ _ _ _ _ ((((W3 w11).setRow w11.heap.size (grtA plG a5)).setRow (w11.heap.size + 1) (grtA plG a6)).setRow (w11.heap.size + 1 + 1) (grtA plG a7)); generalize (((W3 w11).setRow w11.heap.size (grtA plG a5)).setRow (w11.heap.size + 1) (grtA plG a6)).setRow (w11.heap.size + 1 + 1) (grtA plG a7) = w12 at TR ⊢; obtain ⟨k1, k2⟩ := row_cell TR.out.1.a 35; obtain ⟨⟨k3, k4⟩, ⟨k5, k6⟩, st⟩ := tri_steps TR.out.1 TR.out.2.2 rfl rfl rfl; clear st; have FT := Lib.hid (tri_end TR.out.1 TR.out.2.2 rfl TR.out.2.1 V5.out V6.out V7.out rfl); have k3 : _ = some (Value.slice a6.a4 0 a6.c4) := k3.trans rfl; have k5 : _ = some (Value.int .i64 0) := k5.trans rfl; have k1 : _ = some (Value.slice a5.a3 1 a5.c3) := k1.trans rfl; obtain ⟨m3, m4⟩ := row_cell TR.out.1.b 38; obtain ⟨m5, m6⟩ := row_cell TR.out.1.c 37; have m3 : _ = some (Value.slice a6.a4 0 a6.c4) := m3.trans rfl; have m5 : w12.cell? ⟨w11.heap.size + 1 + 1, 37, none⟩ = some (Value.int .i64 0) := m5.trans rfl; have m6 : w12.frozen? ⟨w11.heap.size + 1 + 1, 37, none⟩ = false := m6; have hlt := TR.out.2.2; have hlt1 : w11.heap.size + 1 < w12.heap.size := (by omega); have hlt2 : w11.heap.size + 1 + 1 < w12.heap.size := by omega))
  have HB12 := Lib.hid (TR.out.2.1)
  have FN := Lib.hid FT.out.1
  have FB := Lib.hid FT.out.2
  clear k1 k2 k3 k4 k5 k6 m3 m4 m5 m6 hlt hlt1 hlt2 FT TR TT T3 O5 O6 O7 V5 V6 V7
  have HBT := Lib.hid (HB12.out.trans FB.out)
  have R14 : Hid (RowG ((((w12.setCell ⟨w11.heap.size, 35, none⟩ (.slice none 0 0)).setCell ⟨w11.heap.size + 1, 38, none⟩ (.slice (some ⟨w12.heap.size, 0, none⟩) 1 1)).setCell ⟨w11.heap.size + 1 + 1, 37, none⟩ (.int .i64 1)).alloc exO) w2.heap.size (some ⟨g4, 0, none⟩) c4 (wB 46)) := Lib.hid (R13.out.below HBT.out)
  have B14 := Lib.hid (B13.out.trans (HBT.out.mono B13.out.size))
  have C4 := Lib.hid (wsni HG.out B14.out R14.out.rb (wB_len 46) [] 70 wB_46)
  clear R13 B13 HBT HB12 FB
  refine Calls.mono C4.out ?_
  generalize (((w12.setCell ⟨w11.heap.size, 35, none⟩ (.slice none 0 0)).setCell ⟨w11.heap.size + 1, 38, none⟩ (.slice (some ⟨w12.heap.size, 0, none⟩) 1 1)).setCell ⟨w11.heap.size + 1 + 1, 37, none⟩ (.int .i64 1)).alloc exO = w13 at *
  generalize w11.heap.size = n at *
  rintro e w14 ⟨rfl, hb⟩
  have FN' := Lib.hid (FN.out.below hb)
  have BF := Lib.hid (B14.out.trans (hb.mono B14.out.size))
  clear FN hb C4 R14 B14
  have FN := FN'
  clear FN'
  have CR := Lib.hid (refused_any (FN.out.no.grV fun _ hk => hk) (HG.out.below BF.out) (by decide) wB_none)
  have HR := Lib.hid FN.out.tri.a
  have HI := Lib.hid (infoGA gNo (aNo a5))
  go_wp2_with (refine wpList_load_rowG (by first | rfl | kernel_rfl) 28 (.tmp 5) rfl (n) rfl 28 _ (0, 0) _ HR.out Tryz.underlying28 rfl HI.out ?_)
  refine Calls.mono CR.out ?_
  rintro e w15 ⟨rfl, hb⟩
  have FN' := Lib.hid (FN.out.below hb)
  have BF' := Lib.hid (BF.out.trans (hb.mono BF.out.size))
  clear FN BF CR HR HI hb
  have FN := FN'
  have BF := BF'
  clear FN' BF'
  have CR := Lib.hid (refused_any (FN.out.tw.grV fun _ hk => hk) (HG.out.below BF.out) (by decide) wB_twice)
  have HR := Lib.hid FN.out.tri.b
  have HI := Lib.hid (infoGA gTw (aTw a6 w12.heap.size))
  go_wp2_with (refine wpList_load_rowG (by first | rfl | kernel_rfl) 28 (.tmp 6) rfl (n + 1) rfl 28 _ (0, 0) _ HR.out Tryz.underlying28 rfl HI.out ?_)
  refine Calls.mono CR.out ?_
  rintro e w16 ⟨rfl, hb⟩
  have FN' := Lib.hid (FN.out.below hb)
  have BF' := Lib.hid (BF.out.trans (hb.mono BF.out.size))
  clear FN BF CR HR HI hb
  have FN := FN'
  have BF := BF'
  clear FN' BF'
  have CR := Lib.hid (refused_any (FN.out.fa.grV fun _ hk => hk) (HG.out.below BF.out) (by decide) wB_far)
  have HR := Lib.hid FN.out.tri.c
  have HI := Lib.hid (infoGA gFa a7)
  go_wp2_with (refine wpList_load_rowG (by first | rfl | kernel_rfl) 28 (.tmp 7) rfl (n + 1 + 1) rfl 28 _ (0, 0) _ HR.out Tryz.underlying28 rfl HI.out ?_)
  refine Calls.mono CR.out ?_
  rintro e w17 ⟨rfl, hb⟩
  have FN' := Lib.hid (FN.out.below hb)
  have BF' := Lib.hid (BF.out.trans (hb.mono BF.out.size))
  clear FN BF CR HR HI hb
  have FN := FN'
  have BF := BF'
  clear FN' BF'
  go_wp2_with fail
  go_ret
  exact ⟨rfl, BF.out⟩
end Go.Proofs.YtiakbmllpnabnaaGreatDoor
