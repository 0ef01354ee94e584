/- The laws' own functions: made. -/
import Derived.Test.YtiakbmllpnabnaaGreatDoorKzj
import Derived.Stop.BytesEq
import Derived.Deep.MidRow
namespace Go.Proofs.YtiakbmllpnabnaaGreatDoor
open Go Go.RowKit

/-- a seed -/
structure Sed where
  n0 : Int
  n1 : Int
  n2 : Int
  n3 : Int
  n4 : Int
  n5 : Int
  rnd : List UInt8
  ses : List UInt8
  a1 : Option Addr
  c1 : Nat
  ex : List (Int × Int)
  a2 : Option Addr
  c2 : Nat
abbrev sedA (s : Sed) : Array Value := #[.int .i64 s.n0, .int .i64 s.n1, .int .i64 s.n2, .int .i64 s.n3, .int .i64 s.n4, .int .i64 s.n5, cellR s.rnd 0, cellR s.rnd 1, cellR s.rnd 2, cellR s.rnd 3, cellR s.rnd 4, cellR s.rnd 5, cellR s.rnd 6, cellR s.rnd 7, cellR s.rnd 8, cellR s.rnd 9, cellR s.rnd 10, cellR s.rnd 11, cellR s.rnd 12, cellR s.rnd 13, cellR s.rnd 14, cellR s.rnd 15, cellR s.rnd 16, cellR s.rnd 17, cellR s.rnd 18, cellR s.rnd 19, cellR s.rnd 20, cellR s.rnd 21, cellR s.rnd 22, cellR s.rnd 23, cellR s.rnd 24, cellR s.rnd 25, cellR s.rnd 26, cellR s.rnd 27, cellR s.rnd 28, cellR s.rnd 29, cellR s.rnd 30, cellR s.rnd 31, .slice s.a1 s.ses.length s.c1, .slice s.a2 s.ex.length s.c2]
/-- what a seed holds in memory -/
structure SedV (D : Nat) (w : World) (s : Sed) : Prop where
  ses : Rb D w s.a1 s.c1 s.ses
  ex : ∀ i (hi : i < s.ex.length), ∃ b off, s.a2 = some ⟨b, off, none⟩ ∧ b < D ∧ w.cell? ⟨b, off + i * 2, none⟩ = some (.int .i64 s.ex[i].1) ∧ w.cell? ⟨b, off + i * 2 + 1, none⟩ = some (.int .i64 s.ex[i].2)
  rl : s.rnd.length = 32
  l1 : s.ses.length ≤ maxLen
  l2 : s.ex.length ≤ maxLen
theorem SedV.below {w w' : World} {s : Sed} (h : SedV w.heap.size w s) (hb : Below w.heap.size w w') : SedV w'.heap.size w' s :=
  ⟨(h.ses.keep fun k hk => hb.block k hk).mono hb.size, fun i hi => by
    obtain ⟨b, off, e, hl, h1, h2⟩ := h.ex i hi
    exact ⟨b, off, e, Nat.lt_of_lt_of_le hl hb.size, (hb.cell (p := ⟨b, off + i * 2, none⟩) hl).trans h1, (hb.cell (p := ⟨b, off + i * 2 + 1, none⟩) hl).trans h2⟩, h.rl, h.l1, h.l2⟩
/-- a greeting, made out of a seed -/
def MadP (w : World) (e : Ending) (w' : World) : Prop := ∃ (G : Grt) (a : Adr) (h : List UInt8), e = .returned (.tuple #[.agg (grtA G a), .string ⟨h.toArray⟩]) ∧ okG G = true ∧ lowV G.host = h ∧ h ≠ [] ∧ GrV w'.heap.size w' G a ∧ (∀ x ∈ G.exts, x.2.length ≤ 1000000) ∧ Below w.heap.size w w'
/-- what stands beside the greeting that is made -/
structure Mst (w wr : World) (s : Sed) (q base : Nat) : Prop where
  bel : Below w.heap.size w wr
  box : wr.heap[w.heap.size]? = some (.cells (sedA s) 46 (0, 0))
  ret : wr.heap[w.heap.size + 1]? = some (.cells (gArr 0) 28 (0, 0))
  shp : Shp wr q
  lo : w.heap.size + 2 ≤ q
  hi : q < base
  sz : base ≤ wr.heap.size
theorem Mst.low {w wr wx : World} {s : Sed} {q base : Nat} (h : Mst w wr s q base) (hb : Below base wr wx) : Mst w wx s q base := by
  have h1 := h.lo
  have h2 := h.hi
  exact ⟨h.bel.trans (hb.mono (by omega)), (hb.block _ (by omega)).trans h.box, (hb.block _ (by omega)).trans h.ret, h.shp.keep (hb.block q h2), h1, h2, Nat.le_trans h.sz hb.size⟩
theorem Mst.set {w wr : World} {s : Sed} {q base : Nat} (h : Mst w wr s q base) (j : Nat) (v : Value) : Mst w (wr.setCell ⟨q, j, none⟩ v) s q base := by
  have h1 := h.lo
  exact ⟨h.bel.setCell (p := ⟨q, j, none⟩) (by show _ ≤ q; omega) v, (Below.heap_setCell _ _ _ _ (by show _ ≠ q; omega)).trans h.box, (Below.heap_setCell _ _ _ _ (by show _ ≠ q; omega)).trans h.ret, h.shp.set j v, h1, h.hi, by simpa [World.setCell] using h.sz⟩
theorem Mst.up {w wr : World} {s : Sed} {q base base' : Nat} (h : Mst w wr s q base) (hb : base ≤ base') (hs : base' ≤ wr.heap.size) : Mst w wr s q base' := ⟨h.bel, h.box, h.ret, h.shp, h.lo, Nat.lt_of_lt_of_le h.hi hb, hs⟩
theorem zarr : (gArr 0) = (gCells 0 (List.replicate 32 0) nilS nilS nilS noStr (.int .i64 0) nilS).toArray := rfl
theorem hB_isH : ∀ k, k < 5 → lowS (hB k) = hB k ∧ isPl (hB k) = true ∧ hB k ≠ []
  | 0, _ => ⟨rfl, by decide +kernel, by decide⟩
  | 1, _ => ⟨rfl, by decide +kernel, by decide⟩
  | 2, _ => ⟨rfl, by decide +kernel, by decide⟩
  | 3, _ => ⟨rfl, by decide +kernel, by decide⟩
  | 4, _ => ⟨rfl, by decide +kernel, by decide⟩
  | k + 5, h => absurd h (by omega)
theorem encX_le : ∀ (l : List (Int × List UInt8)), (∀ x ∈ l, x.2.length ≤ 40) → (encX l).length ≤ 44 * l.length
  | [], _ => by simp [encX]
  | x :: l, h => by
    have h1 := encX_le l fun y hy => h y (List.mem_cons_of_mem _ hy)
    have h2 := h x (List.mem_cons_self ..)
    rw [encX_cons, List.length_append, encE_len, List.length_cons]
    omega
theorem made_ok {k : Nat} {mi pos : Int} {rnd ses me t : List UInt8} {su : List Int} {ex : List (Int × List UInt8)} (hk : k < 5) (hm : 0 ≤ mi ∧ mi ≤ 4) (hr : rnd.length = 32) (hs : ses.length ≤ 32) (hu : 1 ≤ su.length ∧ su.length ≤ 9) (hsu : ∀ z ∈ su, 0 ≤ z ∧ z ≤ 65535) (hme : me.length ≤ 9) (h0 : (0 : UInt8) ∈ me)
    (ht : LoudL (hB k) t) (hp : 0 ≤ pos ∧ pos ≤ ex.length) (hx : ex.length ≤ 9) (hxe : ∀ i (hi : i < ex.length), 1 + 6001 * (i : Int) ≤ ex[i].1 ∧ ex[i].1 ≤ 6000 + 6001 * (i : Int) ∧ ex[i].2.length ≤ 40) :
    okG ⟨mi, rnd, ses, su, me, t, pos, ex⟩ = true ∧ lowV t = hB k := by
  obtain ⟨b1, b2, _⟩ := hB_isH k hk
  have hl : lowS t = hB k := by rw [ht.low, b1]
  have hH : isH t = true := by unfold isH; rw [hl]; exact b2
  have htl := ht.len
  have hbl := (hB_len k hk).2
  refine ⟨?_, by rw [lowV_some hH, hl]⟩
  have hd : ∀ x ∈ ex, x.2.length ≤ 40 := fun x hx => by
    obtain ⟨i, hi, rfl⟩ := List.getElem_of_mem hx
    exact (hxe i hi).2.2
  have hT : typesOk ex = true := (typesOk_iff ex).2 fun i hi => by
    obtain ⟨e1, e2, e3⟩ := hxe i hi
    refine ⟨⟨by omega, by omega, by omega⟩, fun j hj => ?_⟩
    obtain ⟨f1, f2, _⟩ := hxe j (by omega)
    omega
  have hml := msgG_len ⟨mi, rnd, ses, su, me, t, pos, ex⟩
  have hbo := bodyG_len ⟨mi, rnd, ses, su, me, t, pos, ex⟩
  have hax : (allX ⟨mi, rnd, ses, su, me, t, pos, ex⟩).length = (encX ex).length + (t.length + 5 + 4) := by
    unfold allX
    dsimp only
    rw [List.length_append, List.length_append, encE_len, encN_len]
    have := congrArg List.length (encX_app (ex.take pos.toNat) (ex.drop pos.toNat))
    rw [List.take_append_drop, List.length_append] at this
    omega
  have hxl := encX_le ex hd
  dsimp only at hbo
  rw [encS_len, hax, hr] at hbo
  have hmay : mayG ⟨mi, rnd, ses, su, me, t, pos, ex⟩ = true := by
    unfold mayG extsOk methOk
    dsimp only
    rw [hT, hH, suitesOk_all (fun j hj => hsu _ (List.getElem_mem hj)), decide_eq_true hm.1, decide_eq_true hm.2, decide_eq_true hs, decide_eq_true hu.1, decide_eq_true (show su.length ≤ 16384 by omega), decide_eq_true (show me.length ≤ 255 by omega), decide_eq_true h0, decide_eq_true hp.1, decide_eq_true hp.2]
    rfl
  unfold okG
  rw [hmay, decide_eq_true (by omega)]
  rfl
theorem builtMd (mi : Int) (rnd : List UInt8) (S : Value) (t : ByteArray) : (match S with | .slice .. => true | _ => false) = true → Tryz.prog.built 28 [(0, .int .i64 mi), (1, .agg #[cellR rnd 0, cellR rnd 1, cellR rnd 2, cellR rnd 3, cellR rnd 4, cellR rnd 5, cellR rnd 6, cellR rnd 7, cellR rnd 8, cellR rnd 9, cellR rnd 10, cellR rnd 11, cellR rnd 12, cellR rnd 13, cellR rnd 14, cellR rnd 15, cellR rnd 16, cellR rnd 17, cellR rnd 18, cellR rnd 19, cellR rnd 20, cellR rnd 21, cellR rnd 22, cellR rnd 23, cellR rnd 24, cellR rnd 25, cellR rnd 26, cellR rnd 27, cellR rnd 28, cellR rnd 29, cellR rnd 30, cellR rnd 31]), (2, S), (5, .string t)] = some #[.int .i64 mi, cellR rnd 0, cellR rnd 1, cellR rnd 2, cellR rnd 3, cellR rnd 4, cellR rnd 5, cellR rnd 6, cellR rnd 7, cellR rnd 8, cellR rnd 9, cellR rnd 10, cellR rnd 11, cellR rnd 12, cellR rnd 13, cellR rnd 14, cellR rnd 15, cellR rnd 16, cellR rnd 17, cellR rnd 18, cellR rnd 19, cellR rnd 20, cellR rnd 21, cellR rnd 22, cellR rnd 23, cellR rnd 24, cellR rnd 25, cellR rnd 26, cellR rnd 27, cellR rnd 28, cellR rnd 29, cellR rnd 30, cellR rnd 31, S, .slice none 0 0, .slice none 0 0, .string t, .int .i64 0, .slice none 0 0] := by
  intro h
  cases S with
  | slice a n c => kernel_rfl
  | _ => cases h
theorem rnd_arr {rnd : List UInt8} (hr : rnd.length = 32) : (rnd.map Extern.Stop.cell).toArray = #[cellR rnd 0, cellR rnd 1, cellR rnd 2, cellR rnd 3, cellR rnd 4, cellR rnd 5, cellR rnd 6, cellR rnd 7, cellR rnd 8, cellR rnd 9, cellR rnd 10, cellR rnd 11, cellR rnd 12, cellR rnd 13, cellR rnd 14, cellR rnd 15, cellR rnd 16, cellR rnd 17, cellR rnd 18, cellR rnd 19, cellR rnd 20, cellR rnd 21, cellR rnd 22, cellR rnd 23, cellR rnd 24, cellR rnd 25, cellR rnd 26, cellR rnd 27, cellR rnd 28, cellR rnd 29, cellR rnd 30, cellR rnd 31] := by
  have h := gCells_grt ⟨0, rnd, [], [], [], [], 0, []⟩ ⟨none, 0, none, 0, none, 0, none, 0⟩ hr
  have h2 := congrArg (fun l => ((l.drop 1).take 32).toArray) h
  refine Eq.trans ?_ h2
  unfold gCells
  show _ = (((rnd.map fun c => Value.int .u8 (c.toNat : Int)) ++ _).take 32).toArray
  rw [List.take_left' (by rw [List.length_map]; exact hr)]
  rfl
theorem sed_ext (s : Sed) : (sedA s).extract 6 (6 + 32) = #[cellR s.rnd 0, cellR s.rnd 1, cellR s.rnd 2, cellR s.rnd 3, cellR s.rnd 4, cellR s.rnd 5, cellR s.rnd 6, cellR s.rnd 7, cellR s.rnd 8, cellR s.rnd 9, cellR s.rnd 10, cellR s.rnd 11, cellR s.rnd 12, cellR s.rnd 13, cellR s.rnd 14, cellR s.rnd 15, cellR s.rnd 16, cellR s.rnd 17, cellR s.rnd 18, cellR s.rnd 19, cellR s.rnd 20, cellR s.rnd 21, cellR s.rnd 22, cellR s.rnd 23, cellR s.rnd 24, cellR s.rnd 25, cellR s.rnd 26, cellR s.rnd 27, cellR s.rnd 28, cellR s.rnd 29, cellR s.rnd 30, cellR s.rnd 31] := by kernel_rfl
theorem rnd_range {s : Sed} {w : World} {b : Nat} (h : w.heap[b]? = some (.cells (sedA s) 46 (0, 0))) (hr : s.rnd.length = 32) : w.rangeAt b 6 (s.rnd.map Extern.Stop.cell) := by
  have := World.rangeAt_of_block h 6 32
  rw [sed_ext, ← rnd_arr hr] at this
  exact this
theorem row_md (mi : Int) {rnd : List UInt8} (a : Option Addr) (c sn : Nat) (t : List UInt8) (hr : rnd.length = 32) : grtA ⟨mi, rnd, List.replicate sn 0, [], [], t, 0, []⟩ ⟨a, c, none, 0, none, 0, none, 0⟩ = (gCells mi rnd (.slice a sn c) nilS nilS (.string ⟨t.toArray⟩) (.int .i64 0) nilS).toArray := by
  have h := congrArg List.toArray (gCells_grt ⟨mi, rnd, List.replicate sn 0, [], [], t, 0, []⟩ ⟨a, c, none, 0, none, 0, none, 0⟩ hr)
  dsimp only at h
  rw [List.length_replicate] at h
  refine Eq.trans ?_ h.symm
  unfold grtA
  dsimp only
  rw [List.length_replicate]
theorem built_md (mi : Int) {rnd : List UInt8} (a : Option Addr) (c sn : Nat) (t : List UInt8) (hr : rnd.length = 32) : Tryz.prog.built 28 [(0, .int .i64 mi), (1, .agg (rnd.map Extern.Stop.cell).toArray), (2, .slice a sn c), (5, .string ⟨t.toArray⟩)] = some (gCells mi rnd (.slice a sn c) nilS nilS (.string ⟨t.toArray⟩) (.int .i64 0) nilS).toArray := by
  rw [rnd_arr hr, builtMd mi rnd (.slice a sn c) ⟨t.toArray⟩ rfl, ← row_md mi a c sn t hr]
  unfold grtA
  dsimp only
  rw [List.length_replicate]
  rfl
theorem row_md_size (mi : Int) {rnd : List UInt8} (a : Option Addr) (c sn : Nat) (t : List UInt8) (hr : rnd.length = 32) : (gCells mi rnd (.slice a sn c) nilS nilS (.string ⟨t.toArray⟩) (.int .i64 0) nilS).toArray.size = 39 := by
  rw [← row_md mi a c sn t hr]; rfl
theorem row_md_one (mi : Int) {rnd : List UInt8} (a : Option Addr) (c sn : Nat) (t : List UInt8) (hr : rnd.length = 32) : (gCells mi rnd (.slice a sn c) nilS nilS (.string ⟨t.toArray⟩) (.int .i64 0) nilS).toArray.all (·.oneCell') = true := by
  rw [← row_md mi a c sn t hr]; exact grtA_one _ _
theorem yieldsIf_buildV {ops : Array Oper} {S : World → Prop} {o : Oper} {a : Act} (hw : Region.wanted o (yielded ops a.tmps) = true) (t : TypeId) (parts : Array (Nat × Operand)) (ho : o.op = .build t parts)
    (l : List (Nat × Value)) (hl : (parts.map fun (i, x) => (i, a.eval x)).toList = l) (row : Array Value) (hb : Tryz.prog.built t l = some row) : YieldsIf Tryz.prog ops S o (.agg row) a :=
  .inl ⟨hw, fun w _ => by
    have hb' : Tryz.prog.built t (parts.map fun (i, x) => (i, a.eval x)).toList = some row := by rw [hl]; exact hb
    unfold execOp
    simp only [ho, Sem.run_bind, run_build w t _ row hb', Result.andThen_ok, Sem.run_pure]⟩
theorem wp_alloc7 {o : Oper} {a : Act} {w : World} {K : Act → World → Prop} {Q : Exit → Act → World → Prop} (ho : o.op = .alloc 28) (h : K (a.put o.dst (.pointer (some ⟨w.heap.size, 0, none⟩))) (w.alloc (.cells (gArr 0) 28))) : o.wp Tryz.prog a w K Q := by
  unfold Oper.wp
  rw [run_alloc7 a.eval o ho w]
  exact h
theorem md_end1 {P : Prop} {w2 w3 : World} {row : Array Value} (hb : Below w2.drew.heap.size w2.drew w3) (hP : P) :
    P ∧ w2.heap.size ≤ w3.heap.size ∧ w3.heap.size < ((w3.alloc (.cells (gArr 0) 28)).setRow w3.heap.size row).heap.size ∧ Below w2.heap.size w2 ((w3.alloc (.cells (gArr 0) 28)).setRow w3.heap.size row) ∧
      ∃ arr, ((w3.alloc (.cells (gArr 0) 28)).setRow w3.heap.size row).heap[w3.heap.size]? = some (.cells arr 28 (0, 0)) ∧ arr = row := by
  have h1 : w2.heap.size ≤ w3.heap.size := hb.size
  have hB : Below w2.heap.size w2 w3 := ⟨hb.os, hb.tape, hb.output, hb.size, hb.block⟩
  exact ⟨hP, h1, by rw [size_setRow]; simp, below_setRow7 (hB.trans ((below_new w3 _).mono h1)) h1 _, row, setRow_heap _ _ _ _ _ _ (heap_alloc_new w3 _), rfl⟩
theorem md_end2 {P : Prop} {w2 w3 : World} {row : Array Value} (hb : Below (w2.drew.alloc (.cells (gArr 0) 28)).heap.size (w2.drew.alloc (.cells (gArr 0) 28)) w3) (hP : P) :
    P ∧ w2.heap.size ≤ w2.heap.size ∧ w2.heap.size < (w3.setRow w2.heap.size row).heap.size ∧ Below w2.heap.size w2 (w3.setRow w2.heap.size row) ∧
      ∃ arr, (w3.setRow w2.heap.size row).heap[w2.heap.size]? = some (.cells arr 28 (0, 0)) ∧ arr = row := by
  have hz : (w2.drew.alloc (.cells (gArr 0) 28)).heap.size = w2.heap.size + 1 := by simp
  have h1 := hb.size
  have hB : Below w2.heap.size w2 (w2.drew.alloc (.cells (gArr 0) 28)) := (below_drewN (Below.refl _ _) 1).trans (below_new w2.drew _)
  exact ⟨hP, Nat.le_refl _, by rw [size_setRow]; omega, below_setRow7 (hB.trans (hb.mono (by omega))) (Nat.le_refl _) _, row, setRow_heap _ _ _ _ _ _ ((hb.block _ (by omega)).trans (heap_alloc_new w2.drew _)), rfl⟩
theorem cs_row {w : World} {q : Nat} {arr : List Value} {t : TypeId} (h : w.heap[q]? = some (.cells arr.toArray t (0, 0))) : Cs w q arr :=
  ⟨lt_of_block h, fun j _ => by rw [(row_cell h j).1]; simp, fun j _ => (row_cell h j).2⟩
/-- how far the suites and the methods are -/
structure Lq1 (w wr : World) (s : Sed) (q base : Nat) (mi : Int) (sn : Nat) (t : List UInt8) (u j : Nat) (su : List Int) (me : List UInt8) (Au : Option Addr) (cu : Nat) (Am : Option Addr) (cm : Nat) : Prop where
  m : Mst w wr s q base
  ul : su.length = u
  ml : me.length = j
  ur : ∀ z ∈ su, 0 ≤ z ∧ z ≤ 65535
  m0 : 0 < j → (0 : UInt8) ∈ me
  ru : RowV 1 wr base Au u cu (intV su)
  rm : RowG wr base Am cm me
  ne : ∀ g, Au = some ⟨g, 0, none⟩ → Am ≠ some ⟨g, 0, none⟩
  cs : Cs wr q (gCells mi s.rnd (.slice s.a1 sn s.c1) (.slice Au u cu) (.slice Am j cm) (.string ⟨t.toArray⟩) (.int .i64 0) nilS)
def Lp1 (w wr : World) (s : Sed) (q base : Nat) (mi : Int) (sn : Nat) (t : List UInt8) (j : Nat) : Prop := ∃ su me Au cu Am cm, Lq1 w wr s q base mi sn t j j su me Au cu Am cm
theorem lp1_zero {w wr : World} {s : Sed} {q base sn : Nat} {mi : Int} {t : List UInt8} (h : Mst w wr s q base) (c : Cs wr q (gCells mi s.rnd (.slice s.a1 sn s.c1) nilS nilS (.string ⟨t.toArray⟩) (.int .i64 0) nilS)) : Lp1 w wr s q base mi sn t 0 :=
  ⟨[], [], none, 0, none, 0, h, rfl, rfl, (fun z hz => by cases hz), (fun h => absurd h (Nat.lt_irrefl 0)), RowV.nil 1 _ _, RowG.nil _ _, (fun g e => by cases e), c⟩
theorem Lq1.drew {w wr : World} {s : Sed} {q base sn u j : Nat} {mi : Int} {t me : List UInt8} {su : List Int} {Au Am : Option Addr} {cu cm : Nat} (h : Lq1 w wr s q base mi sn t u j su me Au cu Am cm) : Lq1 w wr.drew s q base mi sn t u j su me Au cu Am cm :=
  have hb : Below wr.heap.size wr wr.drew := below_drewN (Below.refl _ _) 1
  ⟨h.m.low (hb.mono h.m.sz), h.ul, h.ml, h.ur, h.m0, h.ru.below hb, h.rm.below hb, h.ne, h.cs.below hb⟩
theorem lq1_su {w wr w4 : World} {s : Sed} {q base sn u j c' : Nat} {mi z : Int} {t me : List UInt8} {su : List Int} {Au Am A' : Option Addr} {cu cm : Nat} (h : Lq1 w wr s q base mi sn t u j su me Au cu Am cm) (hrl : s.rnd.length = 32) (hz : 0 ≤ z ∧ z ≤ 65535)
    (hb : Below base wr w4) (hr : RowV 1 w4 base A' (u + 1) c' (intV su ++ [.int .i64 z])) (ho : ∀ k, k < wr.heap.size → Au ≠ some ⟨k, 0, none⟩ → w4.heap[k]? = wr.heap[k]?) (hA : A' = Au ∨ ∃ k, wr.heap.size ≤ k ∧ A' = some ⟨k, 0, none⟩) :
    Lq1 w (w4.setCell ⟨q, 34, none⟩ (.slice A' (u + 1) c')) s q base mi sn t (u + 1) j (su ++ [z]) me A' c' Am cm := by
  have hqb := h.m.hi
  refine ⟨(h.m.low hb).set 34 _, by rw [List.length_append, h.ul]; rfl, h.ml, fun x hx => ?_, h.m0, ?_, ?_, fun g e => ?_, ?_⟩
  · rcases List.mem_append.1 hx with hx | hx
    · exact h.ur x hx
    · rw [List.mem_singleton.1 hx]; exact hz
  · have e : intV (su ++ [z]) = intV su ++ [.int .i64 z] := by unfold intV; rw [List.map_append]; rfl
    rw [e]; exact hr.set hqb
  · exact (h.rm.keep hb.size fun g e => ho g (h.rm.lt e).2 fun e2 => h.ne g e2 e).set hqb
  · intro e2
    rcases hA with rfl | ⟨k, hk, rfl⟩
    · exact h.ne g e e2
    · cases e
      exact absurd (h.rm.lt e2).2 (Nat.not_lt.2 hk)
  · have := (h.cs.keep hb.size (hb.block q hqb)).set 34 (by rw [gCells_len _ _ _ _ _ _ _ _ hrl]; decide) (.slice A' (u + 1) c')
    rw [(gCells_set mi s.rnd (.slice s.a1 sn s.c1) (.slice Au u cu) (.slice Am j cm) (.string ⟨t.toArray⟩) (.int .i64 0) nilS (.slice A' (u + 1) c') hrl).2.1] at this
    exact this
theorem lq1_me {w wr w4 : World} {s : Sed} {q base sn u j c' : Nat} {mi : Int} {y : UInt8} {t me : List UInt8} {su : List Int} {Au Am A' : Option Addr} {cu cm : Nat} (h : Lq1 w wr s q base mi sn t u j su me Au cu Am cm) (hrl : s.rnd.length = 32) (hy : j = 0 → y = 0)
    (hb : Below base wr w4) (hr : RowG w4 base A' c' (me ++ [y])) (ho : ∀ k, k < wr.heap.size → Am ≠ some ⟨k, 0, none⟩ → w4.heap[k]? = wr.heap[k]?) (hA : A' = Am ∨ ∃ k, wr.heap.size ≤ k ∧ A' = some ⟨k, 0, none⟩) :
    Lq1 w (w4.setCell ⟨q, 35, none⟩ (.slice A' (j + 1) c')) s q base mi sn t u (j + 1) su (me ++ [y]) Au cu A' c' := by
  have hqb := h.m.hi
  refine ⟨(h.m.low hb).set 35 _, h.ul, by rw [List.length_append, h.ml]; rfl, h.ur, fun _ => ?_, ?_, hr.set hqb, fun g e => ?_, ?_⟩
  · by_cases e : j = 0
    · rw [hy e]; exact List.mem_append_right _ (List.mem_singleton.2 rfl)
    · exact List.mem_append_left _ (h.m0 (by omega))
  · exact (h.ru.keep hb.size fun g e => ho g (h.ru.lt e).2 fun e2 => h.ne g e e2).set hqb
  · intro e2
    rcases hA with rfl | ⟨k, hk, rfl⟩
    · exact h.ne g e e2
    · cases e2
      exact absurd (h.ru.lt e).2 (Nat.not_lt.2 hk)
  · have := (h.cs.keep hb.size (hb.block q hqb)).set 35 (by rw [gCells_len _ _ _ _ _ _ _ _ hrl]; decide) (.slice A' (j + 1) c')
    rw [(gCells_set mi s.rnd (.slice s.a1 sn s.c1) (.slice Au u cu) (.slice Am j cm) (.string ⟨t.toArray⟩) (.int .i64 0) nilS (.slice A' (j + 1) c') hrl).2.2.1] at this
    exact this
theorem wp_pushV {sz : Nat} {o : Oper} {a : Act} {K : Act → World → Prop} {Q : Exit → Act → World → Prop} (s x : Operand) (S E tx : TypeId)
    (ho : o.op = .call { callee := .builtin .append, args := #[s, x], argTypes := #[S, tx] }) (i0 : TypeInfo) (z0 : Value) (bz : Nat) (hS : Tryz.prog.underlying S = some (.slice E)) (hi : Tryz.prog.info? E = some i0) (hz0 : i0.zero = some z0) (hz1 : i0.size = sz) (hz2 : i0.bytes = bz) (hzc : z0.cells.size = sz) (hbz : bz ≤ 40)
    (w : World) (base : Nat) (A : Option Addr) (c n m : Nat) (vs news : List Value) (xv : Value) (hm : news.length = m * sz)
    (hs : a.eval s = .slice A n c) (hx : a.eval x = xv) (h : RowV sz w base A n c vs) (hsrc : Src Tryz.prog sz tx xv m news w) (hbase : base ≤ w.heap.size) (hlen : n + m ≤ 1000000000000)
    (hk : ∀ (A' : Option Addr) (c' : Nat) w', RowV sz w' base A' (n + m) c' (vs ++ news) → Below base w w' → (∀ k, k < w.heap.size → A ≠ some ⟨k, 0, none⟩ → w'.heap[k]? = w.heap[k]?) → (A' = A ∨ ∃ k, w.heap.size ≤ k ∧ A' = some ⟨k, 0, none⟩) → K (a.put o.dst (.slice A' (n + m) c')) w') :
    o.wp Tryz.prog a w K Q := by
  obtain ⟨A', c', w', hr, h2, h3, h4, h5⟩ := run_pushV w base S E tx o.type i0 z0 bz hS hi hz0 hz1 hz2 hzc hbz A n c m vs news xv h hsrc hm hbase hlen
  unfold Oper.wp execOp
  simp only [ho, resolve, invoke, builtin, Sem.run_bind, Sem.run_pure, Result.andThen_ok, List.map_toArray, List.map_cons, List.map_nil, hs, hx, hr]
  exact hk A' c' w' h2 h3 h4 h5
theorem infoI7 : (Tryz.prog.info? 3).map (fun i => (i.zero, i.size, i.bytes)) = some (some (.int .i64 0), 1, 8) := by kernel_rfl
theorem push6 {w wd : World} {s : Sed} {q base sn u j : Nat} {mi z : Int} {t me : List UInt8} {su : List Int} {Au Am : Option Addr} {cu cm : Nat} (h : Lq1 w wd s q base mi sn t u j su me Au cu Am cm) :
    RowV 1 (wd.alloc (.cells #[.int .i64 z] 3)) base Au u cu (intV su) ∧ Src Tryz.prog 1 25 (.slice (some ⟨wd.heap.size, 0, none⟩) 1 1) 1 [.int .i64 z] (wd.alloc (.cells #[.int .i64 z] 3)) ∧ base ≤ (wd.alloc (.cells #[.int .i64 z] 3)).heap.size := by
  refine ⟨h.ru.below (below_new _ _), src_one Tryz.underlying25 wd.heap.size [.int .i64 z] rfl (fun j hj => ?_) (fun v hv => by rw [List.mem_singleton.1 hv]; rfl), Nat.le_trans h.m.sz (below_new _ _).size⟩
  obtain rfl : j = 0 := by simpa using hj
  rw [World.cell?_alloc_at _ _ _ _ rfl]; rfl
theorem end6 {w wd w4 : World} {s : Sed} {q base sn u j c' : Nat} {mi z : Int} {t me : List UInt8} {su : List Int} {Au Am A' : Option Addr} {cu cm : Nat} {ob : Obj} (h : Lq1 w wd s q base mi sn t u j su me Au cu Am cm) (hrl : s.rnd.length = 32) (hz : 0 ≤ z ∧ z ≤ 65535)
    (hb : Below base (wd.alloc ob) w4) (hr : RowV 1 w4 base A' (u + 1) c' (intV su ++ [.int .i64 z])) (ho : ∀ k, k < (wd.alloc ob).heap.size → Au ≠ some ⟨k, 0, none⟩ → w4.heap[k]? = (wd.alloc ob).heap[k]?) (hA : A' = Au ∨ ∃ k, (wd.alloc ob).heap.size ≤ k ∧ A' = some ⟨k, 0, none⟩) :
    Lq1 w (w4.setCell ⟨q, 34, none⟩ (.slice A' (u + 1) c')) s q base mi sn t (u + 1) j (su ++ [z]) me A' c' Am cm := by
  have hs := (below_new wd ob).size
  refine lq1_su h hrl hz (((below_new wd ob).mono h.m.sz).trans hb) hr (fun k hk hne => (ho k (by omega) hne).trans ((below_new wd ob).block k hk)) ?_
  rcases hA with e | ⟨k, hk, e⟩
  · exact .inl e
  · exact .inr ⟨k, by omega, e⟩
theorem end7 {w wd w4 : World} {s : Sed} {q base sn u j c' : Nat} {mi : Int} {y : UInt8} {t me : List UInt8} {su : List Int} {Au Am A' : Option Addr} {cu cm : Nat} {ob : Obj} (h : Lq1 w wd s q base mi sn t u j su me Au cu Am cm) (hrl : s.rnd.length = 32) (hy : j = 0 → y = 0)
    (hb : Below base (wd.alloc ob) w4) (hr : RowG w4 base A' c' (me ++ [y])) (ho : ∀ k, k < (wd.alloc ob).heap.size → Am ≠ some ⟨k, 0, none⟩ → w4.heap[k]? = (wd.alloc ob).heap[k]?) (hA : A' = Am ∨ ∃ k, (wd.alloc ob).heap.size ≤ k ∧ A' = some ⟨k, 0, none⟩) :
    Lq1 w (w4.setCell ⟨q, 35, none⟩ (.slice A' (j + 1) c')) s q base mi sn t u (j + 1) su (me ++ [y]) Au cu A' c' := by
  have hs := (below_new wd ob).size
  refine lq1_me h hrl hy (((below_new wd ob).mono h.m.sz).trans hb) hr (fun k hk hne => (ho k (by omega) hne).trans ((below_new wd ob).block k hk)) ?_
  rcases hA with e | ⟨k, hk, e⟩
  · exact .inl e
  · exact .inr ⟨k, by omega, e⟩
theorem wpList_pushGA {ops : Array Oper} {rest : List Oper} {o : Oper} {a : Act} {Q : Exit → Act → World → Prop} (hgd : o.guard = none) (s x : Operand) (tx : TypeId)
    (ho : o.op = .call { callee := .builtin .append, args := #[s, x], argTypes := #[22, tx] }) (w : World) (base : Nat) (A : Option Addr) (c n m : Nat) (l z : List UInt8) (xv : Value) (hn : l.length = n) (hm : z.length = m)
    (hs : a.eval s = .slice A n c) (hx : a.eval x = xv) (h : RowG w base A c l) (hsrc : Src Tryz.prog 1 tx xv z.length (Lib.byteCells z) w) (hbase : base ≤ w.heap.size) (hlen : n + m ≤ 140737488355328)
    (hk : ∀ (A' : Option Addr) (c' : Nat) w', RowG w' base A' c' (l ++ z) → Below base w w' → (∀ k, k < w.heap.size → A ≠ some ⟨k, 0, none⟩ → w'.heap[k]? = w.heap[k]?) → (A' = A ∨ ∃ k, w.heap.size ≤ k ∧ A' = some ⟨k, 0, none⟩) → wpList Tryz.prog ops Q rest (a.put o.dst (.slice A' (n + m) c')) w') :
    wpList Tryz.prog ops Q (o :: rest) a w := by
  subst hn hm
  refine wpList_plain hgd fun K hK => ?_
  obtain ⟨A', c', w', hr, h2, h3, h4, h5⟩ := run_pushG w base o.type tx A c l z xv h hsrc hbase hlen
  unfold Oper.wp execOp
  simp only [ho, resolve, invoke, builtin, Sem.run_bind, Sem.run_pure, Result.andThen_ok, List.map_toArray, List.map_cons, List.map_nil, hs, hx, hr]
  exact hK _ _ (hk A' c' w' h2 h3 h4 h5)
theorem cell_two {w wd w7 : World} {s : Sed} {q base : Nat} {l : List Value} {ob : Obj} (m : Mst w wd s q base) (c : Cs wd q l) (hb : Below base (wd.alloc ob) w7) : Cs w7 q l :=
  c.keep (Nat.le_trans (below_new wd ob).size hb.size) ((hb.block q m.hi).trans ((below_new wd ob).block q (Nat.lt_of_lt_of_le m.hi m.sz)))
/-- the blocks of the suites and the methods -/
def Mid (q base k : Nat) : Prop := q < k ∧ k < base
/-- how far the extensions are -/
structure Lq2 (w wr : World) (s : Sed) (q base : Nat) (mi : Int) (sn : Nat) (t : List UInt8) (su : List Int) (me : List UInt8) (Au : Option Addr) (cu : Nat) (Am : Option Addr) (cm : Nat) (i : Nat) (L : List Xc) (Ax : Option Addr) (cx : Nat) : Prop where
  m : Mst w wr s q base
  nu : NumsS (Mid q base) wr Au su
  nm : RbS (Mid q base) wr Am cm me
  rx : RowV 2 wr base Ax i cx (xcV L)
  rb : ∀ x ∈ L, RbS (Own base wr Ax) wr x.a x.c x.d
  ll : L.length = i
  lx : ∀ n (hn : n < L.length), 1 + 6001 * (n : Int) ≤ L[n].k ∧ L[n].k ≤ 6000 + 6001 * (n : Int) ∧ L[n].d.length ≤ 40
  cs : Cs wr q (gCells mi s.rnd (.slice s.a1 sn s.c1) (.slice Au su.length cu) (.slice Am me.length cm) (.string ⟨t.toArray⟩) (.int .i64 0) (.slice Ax i cx))
theorem lq2_zero {w wr : World} {s : Sed} {q base sn u : Nat} {mi : Int} {t me : List UInt8} {su : List Int} {Au Am : Option Addr} {cu cm : Nat} (h : Lq1 w wr s q base mi sn t u u su me Au cu Am cm) : Lq2 w wr s q wr.heap.size mi sn t su me Au cu Am cm 0 [] none 0 := by
  have hq := h.m.hi
  have hru := h.ru
  rw [← h.ul] at hru
  exact ⟨h.m.up h.m.sz (Nat.le_refl _), hru.numsS.keep fun k hk => ⟨rfl, Nat.lt_of_lt_of_le hq hk.1, hk.2⟩, h.rm.rbS.keep fun k hk => ⟨rfl, Nat.lt_of_lt_of_le hq hk.1, hk.2⟩, RowV.nil 2 _ _, (fun x hx => by cases hx), rfl, (fun n hn => absurd hn (Nat.not_lt_zero n)), by rw [h.ul, h.ml]; exact h.cs⟩
theorem Lq2.low {w wr wx : World} {s : Sed} {q base sn i : Nat} {mi : Int} {t me : List UInt8} {su : List Int} {Au Am Ax : Option Addr} {cu cm cx : Nat} {L : List Xc} (h : Lq2 w wr s q base mi sn t su me Au cu Am cm i L Ax cx) (hb : Below wr.heap.size wr wx) : Lq2 w wx s q base mi sn t su me Au cu Am cm i L Ax cx := by
  have hz := h.m.sz
  exact ⟨h.m.low (hb.mono hz), h.nu.keep (fun k hk => ⟨hb.block k (Nat.lt_of_lt_of_le hk.2 hz), hk⟩), h.nm.keep (fun k hk => ⟨hb.block k (Nat.lt_of_lt_of_le hk.2 hz), hk⟩), h.rx.below hb, fun x hx => (h.rb x hx).keep fun k hk => ⟨hb.block k hk.2.1, hk.1, Nat.lt_of_lt_of_le hk.2.1 hb.size, hk.2.2⟩, h.ll, h.lx, h.cs.below hb⟩
theorem end17 {w wd w5 : World} {s : Sed} {q base sn i c5 : Nat} {mi : Int} {t me : List UInt8} {su : List Int} {Au Am Ax A5 : Option Addr} {cu cm cx : Nat} {L : List Xc} {x : Xc} {ob : Obj} (h : Lq2 w wd s q base mi sn t su me Au cu Am cm i L Ax cx) (hrl : s.rnd.length = 32)
    (hx : RbS (Own base wd Ax) wd x.a x.c x.d) (hk : 1 + 6001 * (i : Int) ≤ x.k ∧ x.k ≤ 6000 + 6001 * (i : Int) ∧ x.d.length ≤ 40) (hb : Gw base Ax A5 (wd.alloc ob) w5) (hr : RowV 2 w5 base A5 (i + 1) c5 (xcV L ++ [.int .i64 x.k, .slice x.a x.d.length x.c])) :
    Lq2 w (w5.setCell ⟨q, 38, none⟩ (.slice A5 (i + 1) c5)) s q base mi sn t su me Au cu Am cm (i + 1) (L ++ [x]) A5 c5 := by
  have hqb := h.m.hi
  have hbz := h.m.sz
  have hn := below_new wd ob
  have hns := hn.size
  have hbb : Below base wd w5 := (hn.mono hbz).trans hb.below
  have hsz := hbb.size
  have hqs : ∀ k, k ≠ q → (w5.setCell ⟨q, 38, none⟩ (.slice A5 (i + 1) c5)).heap[k]? = w5.heap[k]? := fun k hk => Below.heap_setCell _ _ _ _ hk
  refine ⟨(h.m.low hbb).set 38 _, h.nu.keep (fun k hk => ⟨(hqs k (Nat.ne_of_gt hk.1)).trans (hbb.block k hk.2), hk⟩), h.nm.keep (fun k hk => ⟨(hqs k (Nat.ne_of_gt hk.1)).trans (hbb.block k hk.2), hk⟩), ?_, fun y hy => ?_, by rw [List.length_append, h.ll]; rfl, fun n hn' => ?_, ?_⟩
  · have : RowV 2 (w5.setCell ⟨q, 38, none⟩ (.slice A5 (i + 1) c5)) base A5 (i + 1) c5 (xcV L ++ [.int .i64 x.k, .slice x.a x.d.length x.c]) := hr.set hqb
    rw [xcV_app, xcV_one]
    exact this
  · have hy' : RbS (Own base wd Ax) wd y.a y.c y.d := by
      rcases List.mem_append.1 hy with hy | hy
      · exact h.rb y hy
      · rw [List.mem_singleton.1 hy]; exact hx
    refine hy'.keep fun k hk => ⟨(hqs k (by have := hk.1; omega)).trans ((hb.old k (by have := hk.2.1; omega) hk.2.2).trans (hn.block k hk.2.1)), hk.1, ?_, fun e => ?_⟩
    · have := hk.2.1
      simp only [World.setCell, Array.size_modify]
      omega
    · rcases hb.at_ with rfl | ⟨g, hg, rfl⟩
      · exact hk.2.2 e
      · cases e
        have := hk.2.1
        omega
  · rw [List.length_append, List.length_singleton] at hn'
    by_cases e : n < L.length
    · rw [List.getElem_append_left e]; exact h.lx n e
    · obtain rfl : n = L.length := by omega
      rw [List.getElem_append_right (Nat.le_refl _)]
      simp only [Nat.sub_self, List.getElem_cons_zero]
      rw [h.ll]; exact hk
  · have := (h.cs.keep hsz (hbb.block q hqb)).set 38 (by rw [gCells_len _ _ _ _ _ _ _ _ hrl]; decide) (.slice A5 (i + 1) c5)
    rw [(gCells_set mi s.rnd (.slice s.a1 sn s.c1) (.slice Au su.length cu) (.slice Am me.length cm) (.string ⟨t.toArray⟩) (.int .i64 0) (.slice Ax i cx) (.slice A5 (i + 1) c5) hrl).2.2.2.2.2] at this
    exact this
theorem src_ext (w : World) (k : Int) (A : Option Addr) (n c : Nat) : Src Tryz.prog 2 26 (.slice (some ⟨w.heap.size, 0, none⟩) 1 1) 1 [.int .i64 k, .slice A n c] (w.alloc (.cells #[.int .i64 k, .slice A n c] 62)) :=
  src_one (sz := 2) Tryz.underlying26 w.heap.size [.int .i64 k, .slice A n c] rfl (fun j hj => by
    have : j = 0 ∨ j = 1 := by simp at hj; omega
    rw [World.cell?_alloc_at _ _ _ _ rfl]; rcases this with rfl | rfl <;> rfl) (fun u hu => by
    simp only [List.mem_cons, List.not_mem_nil, or_false] at hu
    rcases hu with rfl | rfl <;> rfl)
/-- a row of bytes that is younger than all that the extensions stand in -/
theorem rbs_own {w wd : World} {base c : Nat} {Ax A : Option Addr} {d : List UInt8} {B : Nat} (h : RowG wd B A c d) (hb : base ≤ B) (hx : ∀ g, Ax = some ⟨g, 0, none⟩ → g < B) (_ : w = w) : RbS (Own base wd Ax) wd A c d :=
  h.rbS.keep fun k hk => ⟨rfl, Nat.le_trans hb hk.1, hk.2, fun e => absurd (hx k e) (Nat.not_lt.2 hk.1)⟩
theorem results_row_tmp {fn : Func} {p q : Tmp} (h : fn.results = #[.cell p 28, .tmp q]) (tmps : Array Value) (w : World) (g : Nat) (cs : Array Value) (v : Value)
    (hp : tmps.getD p undef = .pointer (some ⟨g, 0, none⟩)) (hq : tmps.getD q undef = v) (hg : w.heap[g]? = some (.cells cs 28 (0, 0))) (hi : (Tryz.prog.info? 28).map (·.size) = some cs.size) :
    (results fn tmps).run Tryz.prog w = .ok (.tuple #[.agg cs, v]) w := by
  have hp' : tmps[p]?.getD undef = .pointer (some ⟨g, 0, none⟩) := by simpa using hp
  have hq' : tmps[q]?.getD undef = v := by simpa using hq
  simp [results, h, hp', hq', asAddr, run_loadVar_row w g 28 28 cs (0, 0) _ hg Tryz.underlying28 rfl hi]
def mdG (mi : Int) (s : Sed) (sn : Nat) (t : List UInt8) (su : List Int) (me : List UInt8) (p : Int) (L : List Xc) : Grt := ⟨mi, s.rnd, s.ses.take sn, su, me, t, p, L.map xcE⟩
def mdA (s : Sed) (Au : Option Addr) (cu : Nat) (Am : Option Addr) (cm : Nat) (Ax : Option Addr) (cx : Nat) : Adr := ⟨s.a1, s.c1, Au, cu, Am, cm, Ax, cx⟩
theorem made_fin {w wr : World} {s : Sed} {q base sn i m k : Nat} {mi p : Int} {t me : List UInt8} {su : List Int} {Au Am Ax : Option Addr} {cu cm cx : Nat} {L : List Xc} (h : Lq2 w wr s q base mi sn t su me Au cu Am cm i L Ax cx) (H : SedV w.heap.size w s) (hsn : sn ≤ 32 ∧ sn ≤ s.ses.length) (hk : k < 5) (hmi : 0 ≤ mi ∧ mi ≤ 4)
    (hu : su.length = m + 1 ∧ me.length = m + 1 ∧ (∀ z ∈ su, 0 ≤ z ∧ z ≤ 65535) ∧ (0 : UInt8) ∈ me) (hm : m < 9) (ht : LoudL (hB k) t) (hp : 0 ≤ p ∧ p ≤ i) (hi : i ≤ 9) :
    (wr.setCell ⟨q, 37, none⟩ (.int .i64 p)).heap[q]? = some (.cells (grtA (mdG mi s sn t su me p L) (mdA s Au cu Am cm Ax cx)) 28 (0, 0)) ∧
    (wr.setCell ⟨q, 37, none⟩ (.int .i64 p)).heap[w.heap.size + 1]? = some (.cells (gArr 0) 28 (0, 0)) ∧
    ((wr.setCell ⟨q, 37, none⟩ (.int .i64 p)).setRow (w.heap.size + 1) (grtA (mdG mi s sn t su me p L) (mdA s Au cu Am cm Ax cx))).heap[w.heap.size + 1]? = some (.cells (grtA (mdG mi s sn t su me p L) (mdA s Au cu Am cm Ax cx)) 28 (0, 0)) ∧
    okG (mdG mi s sn t su me p L) = true ∧ lowV t = hB k ∧ hB k ≠ [] ∧
    GrV ((wr.setCell ⟨q, 37, none⟩ (.int .i64 p)).setRow (w.heap.size + 1) (grtA (mdG mi s sn t su me p L) (mdA s Au cu Am cm Ax cx))).heap.size ((wr.setCell ⟨q, 37, none⟩ (.int .i64 p)).setRow (w.heap.size + 1) (grtA (mdG mi s sn t su me p L) (mdA s Au cu Am cm Ax cx))) (mdG mi s sn t su me p L) (mdA s Au cu Am cm Ax cx) ∧
    (∀ x ∈ L.map xcE, x.2.length ≤ 1000000) ∧ Below w.heap.size w ((wr.setCell ⟨q, 37, none⟩ (.int .i64 p)).setRow (w.heap.size + 1) (grtA (mdG mi s sn t su me p L) (mdA s Au cu Am cm Ax cx))) := by
  have hrl := H.rl
  have hset := h.m.set 37 (.int .i64 p)
  have hcs := h.cs.set 37 (by rw [gCells_len _ _ _ _ _ _ _ _ hrl]; decide) (.int .i64 p)
  rw [(gCells_set mi s.rnd (.slice s.a1 sn s.c1) (.slice Au su.length cu) (.slice Am me.length cm) (.string ⟨t.toArray⟩) (.int .i64 0) (.slice Ax i cx) (.int .i64 p) hrl).2.2.2.2.1] at hcs
  have hsl : (s.ses.take sn).length = sn := by rw [List.length_take]; omega
  have hll : (L.map xcE).length = i := by rw [List.length_map]; exact h.ll
  have hg : gCells mi s.rnd (.slice s.a1 sn s.c1) (.slice Au su.length cu) (.slice Am me.length cm) (.string ⟨t.toArray⟩) (.int .i64 p) (.slice Ax i cx) = (grtA (mdG mi s sn t su me p L) (mdA s Au cu Am cm Ax cx)).toList := by
    have := gCells_grt (mdG mi s sn t su me p L) (mdA s Au cu Am cm Ax cx) hrl
    rw [← this]
    unfold mdG mdA
    dsimp only
    rw [hsl, hll]
  rw [hg] at hcs
  have hrow := hset.shp.row hcs rfl
  obtain ⟨ok1, ok2⟩ := made_ok (rnd := s.rnd) (ses := s.ses.take sn) (ex := L.map xcE) (su := su) (me := me) (mi := mi) (pos := p) hk hmi hrl (by rw [hsl]; exact hsn.1) (by omega) hu.2.2.1 (by omega) hu.2.2.2 ht ⟨hp.1, by rw [hll]; exact hp.2⟩ (by omega) (fun n hn => by
    rw [List.length_map] at hn
    rw [List.getElem_map]
    exact h.lx n hn)
  generalize hA : grtA (mdG mi s sn t su me p L) (mdA s Au cu Am cm Ax cx) = arr at *
  have hqlo := h.m.lo
  have hqhi := h.m.hi
  have hsz := h.m.sz
  generalize hw6 : wr.setCell ⟨q, 37, none⟩ (.int .i64 p) = w6 at *
  have h6 : ∀ k, k ≠ q → w6.heap[k]? = wr.heap[k]? := fun k hk => by rw [← hw6]; exact Below.heap_setCell _ _ _ _ hk
  have s6 : w6.heap.size = wr.heap.size := by rw [← hw6]; simp [World.setCell]
  have hret := setRow_heap w6 (w.heap.size + 1) _ arr _ _ hset.ret
  have h7 : ∀ k, k ≠ w.heap.size + 1 → (w6.setRow (w.heap.size + 1) arr).heap[k]? = w6.heap[k]? := fun k hk => setRow_other _ _ _ _ hk
  have s7 : (w6.setRow (w.heap.size + 1) arr).heap.size = wr.heap.size := by rw [size_setRow, s6]
  have hbl : Below w.heap.size w (w6.setRow (w.heap.size + 1) arr) := below_setRow7 hset.bel (Nat.le_succ _) _
  generalize w6.setRow (w.heap.size + 1) arr = w7 at *
  have h67 : ∀ k, q < k → w7.heap[k]? = wr.heap[k]? := fun k hk => (h7 k (by omega)).trans (h6 k (by omega))
  have hd : ∀ x ∈ L.map xcE, x.2.length ≤ 1000000 := fun x hx => by
    obtain ⟨y, hy, rfl⟩ := List.mem_map.1 hx
    obtain ⟨n, hn, rfl⟩ := List.getElem_of_mem hy
    have := (h.lx n hn).2.2
    show (L[n].d).length ≤ 1000000
    omega
  refine ⟨hrow, hset.ret, hret, ok1, ok2, (hB_isH k hk).2.2, ⟨?_, ?_, ?_, ?_, ?_, ?_, ?_, ?_, ?_, hrl⟩, hd, hbl⟩
  · exact ((H.ses.take sn).keep fun k hk => hbl.block k hk).mono hbl.size
  · intro j hj
    obtain ⟨b, off, e, hb, hc⟩ := (h.nu.keep (S' := Mid q base) (w' := w7) fun k hk => ⟨h67 k hk.1, hk⟩) j hj
    exact ⟨b, off, e, by have := hb.2; omega, hc⟩
  · exact (h.nm.keep (S' := Mid q base) (w' := w7) fun k hk => ⟨h67 k hk.1, hk⟩).rb fun k hk => by have := hk.2; omega
  · have hrx : RowV 2 w7 base Ax i cx (xcV L) := h.rx.keep (by omega) fun g e => h67 g (by have := (h.rx.lt e).1; omega)
    refine hrx.exts ⟨rfl, fun x hx => ?_⟩
    exact ((h.rb x hx).keep (S' := fun k => k < wr.heap.size) fun k hk => ⟨h67 k (by have := hk.1; omega), hk.2.1⟩).rb fun k hk => by omega
  · show (s.ses.take sn).length ≤ 1000000
    omega
  · show su.length ≤ 1000000
    omega
  · show me.length ≤ 1000000
    omega
  · show t.length ≤ 1000000
    have := ht.len
    have := (hB_len k hk).2
    omega
  · show (L.map xcE).length ≤ 1000000
    omega
set_option maxRecDepth 100000 in
set_option maxHeartbeats 1000000 in
theorem made_any {w : World} {s : Sed} (h : SedV w.heap.size w s) : Calls Tryz.prog 22 #[.agg (sedA s)] w (MadP w) := by
  have a0 := Int.emod_nonneg s.n0 (show (5 : Int) ≠ 0 by decide)
  have a1 := Int.emod_lt_of_pos s.n0 (show (0 : Int) < 5 by decide)
  obtain ⟨k, hk⟩ : ∃ k : Nat, s.n0 % 5 = (k : Int) := ⟨(s.n0 % 5).toNat, by omega⟩
  have hk5 : k < 5 := by omega
  have B1 : Hid (∀ w, Calls Tryz.prog 21 #[.int .i64 s.n0, .int .i64 5] w fun e w' => e = .returned (.int .i64 (k : Int)) ∧ w = w') := Lib.hid fun w => by
    have := bring_any s.n0 5 w (by decide) (by decide)
    rwa [hk] at this
  obtain ⟨I0, hi0, hi1, hi2, hi3⟩ := info_parts infoI7
  obtain ⟨I1, hj0, hj1, hj2, hj3⟩ := info_parts infoE
  have H := Lib.hid h
  have HK := Lib.hid hk5
  have HH := Lib.hid (hB_len k hk5)
  have x0 := below_new w (.cells (sedA s) 46)
  have x1 := below_new (w.alloc (.cells (sedA s) 46)) (.cells (gArr 0) 28)
  have xs : (w.alloc (.cells (sedA s) 46)).heap.size = w.heap.size + 1 := by simp
  have W1 : Hid (Below w.heap.size w ((w.alloc (.cells (sedA s) 46)).alloc (.cells (gArr 0) 28))) := Lib.hid (x0.trans (x1.mono (by omega)))
  have W2 : Hid (((w.alloc (.cells (sedA s) 46)).alloc (.cells (gArr 0) 28)).heap.size = w.heap.size + 2) := Lib.hid (by simp)
  have W3 : Hid (((w.alloc (.cells (sedA s) 46)).alloc (.cells (gArr 0) 28)).heap[w.heap.size]? = some (.cells (sedA s) 46 (0, 0))) := Lib.hid ((x1.block _ (by omega)).trans (heap_alloc_new w _))
  have W4 : Hid (((w.alloc (.cells (sedA s) 46)).alloc (.cells (gArr 0) 28)).heap[w.heap.size + 1]? = some (.cells (gArr 0) 28 (0, 0))) := Lib.hid (by rw [← xs]; exact heap_alloc_new _ _)
  clear h a0 a1 hk hk5 x0 x1
  have r0 : (0 : Int) ≤ k := by omega
  have r1 : (k : Int) < 5 := by have := HK.out; omega
  go_enter Tryz.func22, Tryz.ntmps22
  go_upto_region 1 with (refine wpList_alloc7 rfl rfl (w.heap.size + 1) (by simp) ?_)
  generalize (w.alloc (.cells (sedA s) 46)).alloc (.cells (gArr 0) 28) = w1 at *
  have c0 : w1.cell? ⟨w.heap.size, 0, none⟩ = some (.int .i64 s.n0) := (row_cell W3.out 0).1
  clear xs
  go_cut [4] from 11 to 17 (fun v wx => v = .string ⟨(hB k).toArray⟩ ∧ Hid (Below w1.heap.size w1 wx))
  case first =>
    have c0 : w1.drew.cell? ⟨w.heap.size, 0, none⟩ = some (.int .i64 s.n0) := c0
    go_wp2_with fail
    go_region_law (first
      | (go_simp; go_at_call 25; refine (hosts_any _).mono ?_; rintro e w2 ⟨rfl, hb, hc⟩; have BH : Hid (Below w1.heap.size w1 w2) := Lib.hid ⟨hb.os, hb.tape, hb.output, hb.size, hb.block⟩; have d0 : w2.cell? ⟨w1.heap.size, k, none⟩ = some (.string ⟨(hB k).toArray⟩) := hc k HK.out; clear hb hc c0; have c0 : w2.cell? ⟨w.heap.size, 0, none⟩ = some (.int .i64 s.n0) := (row_cell ((BH.out.block _ (show w.heap.size < w1.heap.size by rw [W2.out]; omega)).trans W3.out) 0).1; dsimp only)
      | (go_simp; go_at_call 21; refine (B1.out _).mono ?_; rintro e w' ⟨rfl, rfl⟩; dsimp only))
    all_goals
      go_wp2_with fail
      go_meet
      case rel => exact ⟨rfl, BH⟩
  case rest =>
    obtain ⟨rfl, BH⟩ := hcut
    generalize wc = w2 at *
    have E1 : Hid (w2.heap[w.heap.size]? = some (.cells (sedA s) 46 (0, 0))) := Lib.hid ((BH.out.block _ (show w.heap.size < w1.heap.size by rw [W2.out]; omega)).trans W3.out)
    have E2 : Hid (w2.heap[w.heap.size + 1]? = some (.cells (gArr 0) 28 (0, 0))) := Lib.hid ((BH.out.block _ (show w.heap.size + 1 < w1.heap.size by rw [W2.out]; omega)).trans W4.out)
    have E3 : Hid (w.heap.size + 2 ≤ w2.heap.size) := Lib.hid (by have := W2.out; have := BH.out.size; omega)
    have E4 : Hid (Below w.heap.size w w2) := Lib.hid (W1.out.trans (BH.out.mono W1.out.size))
    clear c0 B1 W1 W2 W3 W4 BH r0 r1
    have b0 := Int.emod_nonneg s.n1 (show (5 : Int) ≠ 0 by decide)
    have b1 := Int.emod_lt_of_pos s.n1 (show (0 : Int) < 5 by decide)
    have HMI : Hid (0 ≤ s.n1 % 5 ∧ s.n1 % 5 ≤ 4) := Lib.hid (by omega)
    have B2 := Lib.hid fun w => bring_any s.n1 5 w (by decide) (by decide)
    generalize s.n1 % 5 = mi at *
    clear b0 b1
    obtain ⟨sn, hsn⟩ : ∃ x, x = min s.ses.length 32 := ⟨_, rfl⟩
    have HI32 : Hid ((Tryz.prog.info? 24).map (·.size) = some (s.rnd.map Extern.Stop.cell).length) := Lib.hid (by rw [List.length_map, H.out.rl]; kernel_rfl)
    have HMN : Hid (min (s.ses.length : Int) 32 = sn) := Lib.hid (by omega)
    have HSN : Hid (sn ≤ 32 ∧ sn ≤ s.ses.length) := Lib.hid (by omega)
    have z0 : sn ≤ s.c1 := Nat.le_trans (by omega) H.out.ses.cap
    have z1 : (0 : Int) ≤ sn := by omega
    have z2 : (sn : Int) ≤ s.c1 := by omega
    clear hsn
    go_upto_region 2 with fail
    go_cut [5] from 18 to 36 (fun v wx => ∃ (q : Nat) (t : List UInt8), v = .pointer (some ⟨q, 0, none⟩) ∧ Hid (LoudL (hB k) t ∧ w2.heap.size ≤ q ∧ q < wx.heap.size ∧ Below w2.heap.size w2 wx ∧ ∃ arr, wx.heap[q]? = some (.cells arr 28 (0, 0)) ∧ arr = (gCells mi s.rnd (.slice s.a1 sn s.c1) nilS nilS (.string ⟨t.toArray⟩) (.int .i64 0) nilS).toArray))
    case first =>
      refine wp_region_held_drew (S := fun w' => w'.heap[w.heap.size]? = some (.cells (sedA s) 46 (0, 0))) (by kernel_rfl) E1.out (fun hH => ?_)
      refine wpAnyH_take (i := 0) (v := .pointer (some ⟨w.heap.size, 0, none⟩)) rfl (by kernel_rfl) (by kernel_rfl) (by kernel_rfl) (fun _ _ _ h => h) (Or.inl ⟨by rfl, fun w hw => by go_simp⟩) hH ?_
      refine wpAnyH_take (i := 1) (v := .pointer (some ⟨w.heap.size, 1, none⟩)) rfl (by kernel_rfl) (by kernel_rfl) (by kernel_rfl) (fun _ _ _ h => h) (Or.inl ⟨by rfl, fun w hw => by go_simp⟩) hH ?_
      refine wpAnyH_take (i := 2) (v := .int .i64 s.n1) rfl (by kernel_rfl) (by kernel_rfl) (by kernel_rfl) (fun _ _ _ h => h) (Or.inl ⟨by rfl, fun w' hw => by have hc : w'.cell? ⟨w.heap.size, 1, none⟩ = some (.int .i64 s.n1) := (row_cell hw 1).1; go_simp⟩) hH ?_
      refine wpAnyH_take (i := 4) (v := .pointer (some ⟨w.heap.size, 6, none⟩)) rfl (by kernel_rfl) (by kernel_rfl) (by kernel_rfl) (fun _ _ _ h => h) (Or.inl ⟨by rfl, fun w hw => by go_simp⟩) hH ?_
      refine wpAnyH_take (i := 5) (v := .agg (s.rnd.map Extern.Stop.cell).toArray) rfl (by kernel_rfl) (by kernel_rfl) (by kernel_rfl) (fun _ _ _ h => h) (yieldsIf_load_mid (by rfl) _ _ rfl _ _ rfl (s.rnd.map Extern.Stop.cell) _ (fun w' hw => rnd_range hw H.out.rl) Tryz.underlying24 rfl HI32.out) hH ?_
      refine wpAnyH_take (i := 6) (v := .pointer (some ⟨w.heap.size, 38, none⟩)) rfl (by kernel_rfl) (by kernel_rfl) (by kernel_rfl) (fun _ _ _ h => h) (Or.inl ⟨by rfl, fun w hw => by go_simp⟩) hH ?_
      refine wpAnyH_take (i := 7) (v := .slice s.a1 s.ses.length s.c1) rfl (by kernel_rfl) (by kernel_rfl) (by kernel_rfl) (fun _ _ _ h => h) (Or.inl ⟨by rfl, fun w' hw => by have hc : w'.cell? ⟨w.heap.size, 38, none⟩ = some (.slice s.a1 s.ses.length s.c1) := (row_cell hw 38).1; go_simp⟩) hH ?_
      refine wpAnyH_take (i := 8) (v := .pointer (some ⟨w.heap.size, 38, none⟩)) rfl (by kernel_rfl) (by kernel_rfl) (by kernel_rfl) (fun _ _ _ h => h) (Or.inl ⟨by rfl, fun w hw => by go_simp⟩) hH ?_
      refine wpAnyH_take (i := 9) (v := .slice s.a1 s.ses.length s.c1) rfl (by kernel_rfl) (by kernel_rfl) (by kernel_rfl) (fun _ _ _ h => h) (Or.inl ⟨by rfl, fun w' hw => by have hc : w'.cell? ⟨w.heap.size, 38, none⟩ = some (.slice s.a1 s.ses.length s.c1) := (row_cell hw 38).1; go_simp⟩) hH ?_
      refine wpAnyH_take (i := 10) (v := .int .i64 s.ses.length) rfl (by kernel_rfl) (by kernel_rfl) (by kernel_rfl) (fun _ _ _ h => h) (Or.inl ⟨by rfl, fun w hw => by go_simp⟩) hH ?_
      refine wpAnyH_take (i := 11) (v := .int .i64 (sn : Int)) rfl (by kernel_rfl) (by kernel_rfl) (by kernel_rfl) (fun _ _ _ h => h) (Or.inl ⟨by rfl, fun w' hw => by go_simp; exact HMN.out⟩) hH ?_
      refine wpAnyH_take (i := 12) (v := .slice s.a1 sn s.c1) rfl (by kernel_rfl) (by kernel_rfl) (by kernel_rfl) (fun _ _ _ h => h) (Or.inl ⟨by rfl, fun w' hw => by go_simp⟩) hH ?_
      refine wpAnyH_take (i := 13) (v := .string ⟨(hB k).toArray⟩) rfl (by kernel_rfl) (by kernel_rfl) (by kernel_rfl) (fun _ _ _ h => h) (Or.inl ⟨by rfl, fun w hw => by go_simp⟩) hH ?_
      refine wpAnyH_take (i := 14) (v := .pointer (some ⟨w.heap.size, 0, none⟩)) rfl (by kernel_rfl) (by kernel_rfl) (by kernel_rfl) (fun _ _ _ h => h) (Or.inl ⟨by rfl, fun w hw => by go_simp⟩) hH ?_
      refine wpAnyH_take (i := 15) (v := .pointer (some ⟨w.heap.size, 2, none⟩)) rfl (by kernel_rfl) (by kernel_rfl) (by kernel_rfl) (fun _ _ _ h => h) (Or.inl ⟨by rfl, fun w hw => by go_simp⟩) hH ?_
      refine wpAnyH_take (i := 16) (v := .int .i64 s.n2) rfl (by kernel_rfl) (by kernel_rfl) (by kernel_rfl) (fun _ _ _ h => h) (Or.inl ⟨by rfl, fun w' hw => by have hc : w'.cell? ⟨w.heap.size, 2, none⟩ = some (.int .i64 s.n2) := (row_cell hw 2).1; go_simp⟩) hH ?_
      have EK := E3.out
      refine wpAnyH_ready (rs := [3, 19]) (by kernel_rfl) (by simp) (AllReadyH.cons rfl (fun K hK => ?_) (AllReadyH.cons rfl (fun K hK => ?_) AllReadyH.nil))
      · go_simp
        refine (B2.out _).mono ?_
        rintro e wx ⟨rfl, rfl⟩
        refine hK.out _ _ hH (fun hH => ?_)
        clear hK K
        refine wpAnyH_ready (rs := [17, 19]) (by kernel_rfl) (by simp) (AllReadyH.cons rfl (fun K hK => ?_) (AllReadyH.cons rfl (fun K hK => ?_) AllReadyH.nil))
        · go_simp
          refine (loud_l (hB k) s.n2 _ (by have := HH.out; omega)).mono ?_
          rintro e w3 ⟨t, ht, rfl, hb3⟩
          refine hK.out _ _ ((hb3.block _ (by have := E3.out; first | (show _ < w2.heap.size; omega) | (show _ < (w2.drew.alloc _).heap.size; simp; omega))).trans hH) (fun hH => ?_)
          clear hK K
          refine wpAnyH_take (i := 18) (v := .agg (gCells mi s.rnd (.slice s.a1 sn s.c1) nilS nilS (.string ⟨t.toArray⟩) (.int .i64 0) nilS).toArray) rfl (by kernel_rfl) (by kernel_rfl) (by kernel_rfl) (fun _ _ _ h => h) (yieldsIf_buildV (by rfl) 28 _ rfl [(0, .int .i64 mi), (1, .agg (s.rnd.map Extern.Stop.cell).toArray), (2, .slice s.a1 sn s.c1), (5, .string ⟨t.toArray⟩)] (by simp [Act.eval]) _ (built_md mi s.a1 s.c1 sn t H.out.rl)) hH ?_
          refine wpAnyH_ready (rs := [19]) (by kernel_rfl) (by simp) (AllReadyH.cons rfl (fun K hK => ?_) AllReadyH.nil)
          rw [if_pos (by rfl)]
          refine wp_alloc7 rfl ?_
          refine hK.out _ _ (((below_new _ _).block _ (by have := E3.out; have := hb3.size; have e : w2.drew.heap.size = w2.heap.size := rfl; omega)).trans hH) (fun hH => ?_)
          clear hK K
          refine wpAnyH_ready (rs := [20]) (by kernel_rfl) (by simp) (AllReadyH.cons rfl (fun K hK => ?_) AllReadyH.nil)
          rw [if_pos (by rfl)]
          refine wp_store_row 28 (.tmp 5) (.tmp 36) rfl w3.heap.size _ rfl rfl 28 (gArr 0) (heap_alloc_new w3 _) ((gArr_info 0).trans (congrArg some (row_md_size mi s.a1 s.c1 sn t H.out.rl).symm)) (row_md_size mi s.a1 s.c1 sn t H.out.rl).symm (row_md_one mi s.a1 s.c1 sn t H.out.rl) ?_
          refine hK.out _ _ ((setRow_other _ _ _ _ (by have := E3.out; have e : w2.drew.heap.size = w2.heap.size := rfl; have := hb3.size; first | omega | (simp at *; omega))).trans hH) (fun hH => ?_)
          clear hK K
          refine wpAnyH_done (by kernel_rfl) ?_ _
          go_wp2_with fail
          go_meet
          case rel => exact ⟨_, t, rfl, Lib.hid (md_end1 hb3 ht)⟩
        · rw [if_pos (by rfl)]
          refine wp_alloc7 rfl ?_
          refine hK.out _ _ (((below_new _ _).block _ (by have := E3.out; show _ < w2.heap.size; omega)).trans hH) (fun hH => ?_)
          clear hK K
          refine wpAnyH_ready (rs := [17]) (by kernel_rfl) (by simp) (AllReadyH.cons rfl (fun K hK => ?_) AllReadyH.nil)
          go_simp
          refine (loud_l (hB k) s.n2 _ (by have := HH.out; omega)).mono ?_
          rintro e w3 ⟨t, ht, rfl, hb3⟩
          refine hK.out _ _ ((hb3.block _ (by have := E3.out; first | (show _ < w2.heap.size; omega) | (show _ < (w2.drew.alloc _).heap.size; simp; omega))).trans hH) (fun hH => ?_)
          clear hK K
          refine wpAnyH_take (i := 18) (v := .agg (gCells mi s.rnd (.slice s.a1 sn s.c1) nilS nilS (.string ⟨t.toArray⟩) (.int .i64 0) nilS).toArray) rfl (by kernel_rfl) (by kernel_rfl) (by kernel_rfl) (fun _ _ _ h => h) (yieldsIf_buildV (by rfl) 28 _ rfl [(0, .int .i64 mi), (1, .agg (s.rnd.map Extern.Stop.cell).toArray), (2, .slice s.a1 sn s.c1), (5, .string ⟨t.toArray⟩)] (by simp [Act.eval]) _ (built_md mi s.a1 s.c1 sn t H.out.rl)) hH ?_
          refine wpAnyH_ready (rs := [20]) (by kernel_rfl) (by simp) (AllReadyH.cons rfl (fun K hK => ?_) AllReadyH.nil)
          rw [if_pos (by rfl)]
          refine wp_store_row 28 (.tmp 5) (.tmp 36) rfl w2.heap.size _ rfl rfl 28 (gArr 0) ((hb3.block _ (by simp)).trans (heap_alloc_new w2.drew _)) ((gArr_info 0).trans (congrArg some (row_md_size mi s.a1 s.c1 sn t H.out.rl).symm)) (row_md_size mi s.a1 s.c1 sn t H.out.rl).symm (row_md_one mi s.a1 s.c1 sn t H.out.rl) ?_
          refine hK.out _ _ ((setRow_other _ _ _ _ (by have := E3.out; have e : w2.drew.heap.size = w2.heap.size := rfl; have := hb3.size; first | omega | (simp at *; omega))).trans hH) (fun hH => ?_)
          clear hK K
          refine wpAnyH_done (by kernel_rfl) ?_ _
          go_wp2_with fail
          go_meet
          case rel => exact ⟨_, t, rfl, Lib.hid (md_end2 hb3 ht)⟩
      · rw [if_pos (by rfl)]
        refine wp_alloc7 rfl ?_
        refine hK.out _ _ (((below_new _ _).block _ (by have := E3.out; show _ < w2.heap.size; omega)).trans hH) (fun hH => ?_)
        clear hK K
        refine wpAnyH_ready (rs := [3]) (by kernel_rfl) (by simp) (AllReadyH.cons rfl (fun K hK => ?_) AllReadyH.nil)
        go_simp
        refine (B2.out _).mono ?_
        rintro e wx ⟨rfl, rfl⟩
        refine hK.out _ _ hH (fun hH => ?_)
        clear hK K
        refine wpAnyH_ready (rs := [17]) (by kernel_rfl) (by simp) (AllReadyH.cons rfl (fun K hK => ?_) AllReadyH.nil)
        go_simp
        refine (loud_l (hB k) s.n2 _ (by have := HH.out; omega)).mono ?_
        rintro e w3 ⟨t, ht, rfl, hb3⟩
        refine hK.out _ _ ((hb3.block _ (by have := E3.out; first | (show _ < w2.heap.size; omega) | (show _ < (w2.drew.alloc _).heap.size; simp; omega))).trans hH) (fun hH => ?_)
        clear hK K
        refine wpAnyH_take (i := 18) (v := .agg (gCells mi s.rnd (.slice s.a1 sn s.c1) nilS nilS (.string ⟨t.toArray⟩) (.int .i64 0) nilS).toArray) rfl (by kernel_rfl) (by kernel_rfl) (by kernel_rfl) (fun _ _ _ h => h) (yieldsIf_buildV (by rfl) 28 _ rfl [(0, .int .i64 mi), (1, .agg (s.rnd.map Extern.Stop.cell).toArray), (2, .slice s.a1 sn s.c1), (5, .string ⟨t.toArray⟩)] (by simp [Act.eval]) _ (built_md mi s.a1 s.c1 sn t H.out.rl)) hH ?_
        refine wpAnyH_ready (rs := [20]) (by kernel_rfl) (by simp) (AllReadyH.cons rfl (fun K hK => ?_) AllReadyH.nil)
        rw [if_pos (by rfl)]
        refine wp_store_row 28 (.tmp 5) (.tmp 36) rfl w2.heap.size _ rfl rfl 28 (gArr 0) ((hb3.block _ (by simp)).trans (heap_alloc_new w2.drew _)) ((gArr_info 0).trans (congrArg some (row_md_size mi s.a1 s.c1 sn t H.out.rl).symm)) (row_md_size mi s.a1 s.c1 sn t H.out.rl).symm (row_md_one mi s.a1 s.c1 sn t H.out.rl) ?_
        refine hK.out _ _ ((setRow_other _ _ _ _ (by have := E3.out; have e : w2.drew.heap.size = w2.heap.size := rfl; have := hb3.size; first | omega | (simp at *; omega))).trans hH) (fun hH => ?_)
        clear hK K
        refine wpAnyH_done (by kernel_rfl) ?_ _
        go_wp2_with fail
        go_meet
        case rel => exact ⟨_, t, rfl, Lib.hid (md_end2 hb3 ht)⟩
    case rest =>
      obtain ⟨q, t, rfl, hfr⟩ := hcut
      generalize wc = w3 at *
      obtain ⟨ht, hq1, hq2, hb3, arr, hq3, harr⟩ := hfr.out
      have HT := Lib.hid ht
      have M0 : Hid (Mst w w3 s q w3.heap.size) := Lib.hid ⟨E4.out.trans (hb3.mono E4.out.size), (hb3.block _ (by have := E3.out; omega)).trans E1.out, (hb3.block _ (by have := E3.out; omega)).trans E2.out, ⟨arr, hq3, by rw [harr]; exact row_md_size mi s.a1 s.c1 sn t H.out.rl⟩, Nat.le_trans E3.out hq1, hq2, Nat.le_refl _⟩
      have C0 : Hid (Cs w3 q (gCells mi s.rnd (.slice s.a1 sn s.c1) nilS nilS (.string ⟨t.toArray⟩) (.int .i64 0) nilS)) := Lib.hid (by rw [harr] at hq3; exact cs_row hq3)
      have c0 := Int.emod_nonneg s.n3 (show (9 : Int) ≠ 0 by decide)
      have c1 := Int.emod_lt_of_pos s.n3 (show (0 : Int) < 9 by decide)
      obtain ⟨m, hm⟩ : ∃ m : Nat, s.n3 % 9 = (m : Int) := ⟨(s.n3 % 9).toNat, by omega⟩
      have hm9 : m < 9 := by omega
      have B3 : Hid (∀ w, Calls Tryz.prog 21 #[.int .i64 s.n3, .int .i64 9] w fun e w' => e = .returned (.int .i64 (m : Int)) ∧ w = w') := Lib.hid fun w => by
        have := bring_any s.n3 9 w (by decide) (by decide)
        rwa [hm] at this
      clear hfr ht hq1 hq2 hb3 hq3 harr c0 c1 hm E1 E2 E3 E4 B2 z0 z1 z2 HI32 HMN
      generalize hbase : w3.heap.size = base at *
      clear hbase
      go_wp2_with fail
      go_loopw [6] (fun v wr => ∃ j : Nat, j ≤ m + 1 ∧ v = .int .i64 j ∧ Hid (Lp1 w wr s q base mi sn t j)) (fun v _ => m + 1 - (intOf v).toNat)
      case atStart => exact ⟨0, Nat.zero_le _, rfl, Lib.hid (lp1_zero M0.out C0.out)⟩
      case round =>
        obtain ⟨j, hj, rfl, hst⟩ := hrel
        obtain ⟨su, me, Au, cu, Am, cm, h⟩ := hst.out
        have HL := Lib.hid h
        clear hst
        have f3 : wr.cell? ⟨w.heap.size, 3, none⟩ = some (.int .i64 s.n3) := (row_cell h.m.box 3).1
        by_cases hjm : j ≤ m
        · have g1 : (j : Int) ≤ m := by omega
          go_wp2_with (go_at_call 21; refine (B3.out _).mono ?_; rintro e w' ⟨rfl, rfl⟩)
          go_cut [] from 45 to 57 (fun wx => ∃ (A5 : Option Addr) (c5 : Nat) (z : Int), Hid (Lq1 w wx s q base mi sn t (j + 1) j (su ++ [z]) me A5 c5 Am cm))
          case first =>
            refine wp_region_held_drew (S := fun w' => w'.heap[w.heap.size]? = some (.cells (sedA s) 46 (0, 0))) (by kernel_rfl) HL.out.m.box (fun hH => ?_)
            refine wpAnyH_take (i := 0) (v := .pointer (some ⟨q, 34, none⟩)) rfl (by kernel_rfl) (by kernel_rfl) (by kernel_rfl) (fun _ _ _ h => h) (Or.inl ⟨by rfl, fun w' hw => by go_simp⟩) hH ?_
            refine wpAnyH_take (i := 2) (v := .pointer (some ⟨w.heap.size, 0, none⟩)) rfl (by kernel_rfl) (by kernel_rfl) (by kernel_rfl) (fun _ _ _ h => h) (Or.inl ⟨by rfl, fun w' hw => by go_simp⟩) hH ?_
            refine wpAnyH_take (i := 3) (v := .pointer (some ⟨w.heap.size, 3, none⟩)) rfl (by kernel_rfl) (by kernel_rfl) (by kernel_rfl) (fun _ _ _ h => h) (Or.inl ⟨by rfl, fun w' hw => by go_simp⟩) hH ?_
            refine wpAnyH_take (i := 4) (v := .int .i64 s.n3) rfl (by kernel_rfl) (by kernel_rfl) (by kernel_rfl) (fun _ _ _ h => h) (Or.inl ⟨by rfl, fun w' hw => by have hc : w'.cell? ⟨w.heap.size, 3, none⟩ = some (.int .i64 s.n3) := (row_cell hw 3).1; go_simp⟩) hH ?_
            refine wpAnyH_take (i := 5) (v := .int .i64 (IntKind.i64.wrap (s.n3.tdiv 9))) rfl (by kernel_rfl) (by kernel_rfl) (by kernel_rfl) (fun _ _ _ h => h) (Or.inl ⟨by rfl, fun w' hw => by go_simp⟩) hH ?_
            refine wpAnyH_take (i := 6) (v := .int .i64 j) rfl (by kernel_rfl) (by kernel_rfl) (by kernel_rfl) (fun _ _ _ h => h) (Or.inl ⟨by rfl, fun w' hw => by go_simp⟩) hH ?_
            refine wpAnyH_take (i := 7) (v := .int .i64 (IntKind.i64.wrap (977 * j))) rfl (by kernel_rfl) (by kernel_rfl) (by kernel_rfl) (fun _ _ _ h => h) (Or.inl ⟨by rfl, fun w' hw => by go_simp⟩) hH ?_
            refine wpAnyH_take (i := 8) (v := .int .i64 (IntKind.i64.wrap (IntKind.i64.wrap (s.n3.tdiv 9) + IntKind.i64.wrap (977 * j)))) rfl (by kernel_rfl) (by kernel_rfl) (by kernel_rfl) (fun _ _ _ h => h) (Or.inl ⟨by rfl, fun w' hw => by go_simp⟩) hH ?_
            generalize IntKind.i64.wrap (IntKind.i64.wrap (s.n3.tdiv 9) + IntKind.i64.wrap (977 * j)) = X
            have HD := Lib.hid HL.out.drew
            have hz0 := Int.emod_nonneg X (show (65536 : Int) ≠ 0 by decide)
            have hz1 := Int.emod_lt_of_pos X (show (0 : Int) < 65536 by decide)
            have B6 := Lib.hid fun w => bring_any X 65536 w (by decide) (by decide)
            generalize X % 65536 = z at *
            have HZ : Hid (0 ≤ z ∧ z ≤ 65535) := Lib.hid (by omega)
            have c34 : wr.drew.cell? ⟨q, 34, none⟩ = some (.slice Au j cu) := (HD.out.cs.cell 34 (by rw [gCells_len _ _ _ _ _ _ _ _ H.out.rl]; decide)).trans (gCells_at mi s.rnd _ _ _ _ _ _ H.out.rl).2.1
            have k34 : (wr.drew.alloc (.cells #[.int .i64 z] 3)).cell? ⟨q, 34, none⟩ = some (.slice Au j cu) := ((below_new wr.drew _).cell (p := ⟨q, 34, none⟩) (by have := HD.out.m.hi; have := HD.out.m.sz; show q < wr.drew.heap.size; omega)).trans c34
            have hS1 : (wr.drew.alloc (.cells #[.int .i64 z] 3)).heap[w.heap.size]? = some (.cells (sedA s) 46 (0, 0)) := ((below_new wr.drew _).block _ (lt_of_block HD.out.m.box)).trans HD.out.m.box
            have k34b : (wr.alloc (.cells #[.int .i64 z] 3)).cell? ⟨q, 34, none⟩ = some (.slice Au j cu) := k34
            have HP := Lib.hid (push6 HD.out (z := z))
            clear hz0 hz1 f3 g1
            refine wpAnyH_ready (rs := [1, 9]) (by kernel_rfl) (by simp) (AllReadyH.cons rfl (fun K hK => ?_) (AllReadyH.cons rfl (fun K hK => ?_) AllReadyH.nil))
            · go_simp
              refine hK.out _ _ hH (fun hH => ?_)
              clear hK K
              refine wpAnyH_ready (rs := [9]) (by kernel_rfl) (by simp) (AllReadyH.cons rfl (fun K hK => ?_) AllReadyH.nil)
              go_simp
              refine (B6.out _).mono ?_
              rintro e wx ⟨rfl, rfl⟩
              refine hK.out _ _ hH (fun hH => ?_)
              clear hK K
              refine wpAnyH_ready (rs := [10]) (by kernel_rfl) (by simp) (AllReadyH.cons rfl (fun K hK => ?_) AllReadyH.nil)
              go_simp
              refine hK.out _ _ hS1 (fun hH => ?_)
              clear hK K
              refine wpAnyH_ready (rs := [11]) (by kernel_rfl) (by simp) (AllReadyH.cons rfl (fun K hK => ?_) AllReadyH.nil)
              rw [if_pos (by rfl)]
              refine wp_pushV (.tmp 46) (.tmp 55) 25 3 25 rfl I0 _ 8 Tryz.underlying25 hi0 hi1 hi2 hi3 rfl (by decide) _ base Au cu j 1 (intV su) [.int .i64 z] (.slice (some ⟨wr.drew.heap.size, 0, none⟩) 1 1) rfl rfl rfl HP.out.1 HP.out.2.1 HP.out.2.2 (by omega) ?_
              intro A5 c5 w5 hr5 hb5 ho5 hA5
              refine hK.out _ _ ((hb5.block _ (by have := HD.out.m.lo; have := HD.out.m.hi; omega)).trans hS1) (fun hH => ?_)
              clear hK K
              have HE := Lib.hid (end6 HD.out H.out.rl HZ.out hb5 hr5 ho5 hA5)
              have c5' : w5.cell? ⟨q, 34, none⟩ = some (.slice Au j cu) := (hb5.cell (p := ⟨q, 34, none⟩) HD.out.m.hi).trans k34
              have f5' : w5.frozen? ⟨q, 34, none⟩ = false := (HD.out.cs.keep (Nat.le_trans (below_new wr.drew _).size hb5.size) (((hb5.block q HD.out.m.hi)).trans ((below_new wr.drew _).block q (by have := HD.out.m.hi; have := HD.out.m.sz; omega)))).free 34 (by rw [gCells_len _ _ _ _ _ _ _ _ H.out.rl]; decide)
              clear hr5 hb5 ho5 hA5 c34 k34 k34b HP HD B6
              refine wpAnyH_take (i := 12) (v := .pointer (some ⟨q, 34, none⟩)) rfl (by kernel_rfl) (by kernel_rfl) (by kernel_rfl) (fun _ _ _ h => h) (Or.inl ⟨by rfl, fun w' hw => by go_simp⟩) hH ?_
              refine wpAnyH_ready (rs := [13]) (by kernel_rfl) (by simp) (AllReadyH.cons rfl (fun K hK => ?_) AllReadyH.nil)
              go_simp
              refine hK.out _ _ HE.out.m.box (fun hH => ?_)
              clear hK K
              refine wpAnyH_done (by kernel_rfl) ?_ _
              clear c5' f5'
              go_wp2_with fail
              go_meet
              case rel => exact ⟨A5, c5, z, HE⟩
            · go_simp
              refine (B6.out _).mono ?_
              rintro e wx ⟨rfl, rfl⟩
              refine hK.out _ _ hH (fun hH => ?_)
              clear hK K
              refine wpAnyH_ready (rs := [1, 10]) (by kernel_rfl) (by simp) (AllReadyH.cons rfl (fun K hK => ?_) (AllReadyH.cons rfl (fun K hK => ?_) AllReadyH.nil))
              · go_simp
                refine hK.out _ _ hH (fun hH => ?_)
                clear hK K
                refine wpAnyH_ready (rs := [10]) (by kernel_rfl) (by simp) (AllReadyH.cons rfl (fun K hK => ?_) AllReadyH.nil)
                go_simp
                refine hK.out _ _ hS1 (fun hH => ?_)
                clear hK K
                refine wpAnyH_ready (rs := [11]) (by kernel_rfl) (by simp) (AllReadyH.cons rfl (fun K hK => ?_) AllReadyH.nil)
                rw [if_pos (by rfl)]
                refine wp_pushV (.tmp 46) (.tmp 55) 25 3 25 rfl I0 _ 8 Tryz.underlying25 hi0 hi1 hi2 hi3 rfl (by decide) _ base Au cu j 1 (intV su) [.int .i64 z] (.slice (some ⟨wr.drew.heap.size, 0, none⟩) 1 1) rfl rfl rfl HP.out.1 HP.out.2.1 HP.out.2.2 (by omega) ?_
                intro A5 c5 w5 hr5 hb5 ho5 hA5
                refine hK.out _ _ ((hb5.block _ (by have := HD.out.m.lo; have := HD.out.m.hi; omega)).trans hS1) (fun hH => ?_)
                clear hK K
                have HE := Lib.hid (end6 HD.out H.out.rl HZ.out hb5 hr5 ho5 hA5)
                have c5' : w5.cell? ⟨q, 34, none⟩ = some (.slice Au j cu) := (hb5.cell (p := ⟨q, 34, none⟩) HD.out.m.hi).trans k34
                have f5' : w5.frozen? ⟨q, 34, none⟩ = false := (HD.out.cs.keep (Nat.le_trans (below_new wr.drew _).size hb5.size) (((hb5.block q HD.out.m.hi)).trans ((below_new wr.drew _).block q (by have := HD.out.m.hi; have := HD.out.m.sz; omega)))).free 34 (by rw [gCells_len _ _ _ _ _ _ _ _ H.out.rl]; decide)
                clear hr5 hb5 ho5 hA5 c34 k34 k34b HP HD B6
                refine wpAnyH_take (i := 12) (v := .pointer (some ⟨q, 34, none⟩)) rfl (by kernel_rfl) (by kernel_rfl) (by kernel_rfl) (fun _ _ _ h => h) (Or.inl ⟨by rfl, fun w' hw => by go_simp⟩) hH ?_
                refine wpAnyH_ready (rs := [13]) (by kernel_rfl) (by simp) (AllReadyH.cons rfl (fun K hK => ?_) AllReadyH.nil)
                go_simp
                refine hK.out _ _ HE.out.m.box (fun hH => ?_)
                clear hK K
                refine wpAnyH_done (by kernel_rfl) ?_ _
                clear c5' f5'
                go_wp2_with fail
                go_meet
                case rel => exact ⟨A5, c5, z, HE⟩
              · go_simp
                refine hK.out _ _ hS1 (fun hH => ?_)
                clear hK K
                refine wpAnyH_ready (rs := [1]) (by kernel_rfl) (by simp) (AllReadyH.cons rfl (fun K hK => ?_) AllReadyH.nil)
                go_simp
                refine hK.out _ _ hS1 (fun hH => ?_)
                clear hK K
                refine wpAnyH_ready (rs := [11]) (by kernel_rfl) (by simp) (AllReadyH.cons rfl (fun K hK => ?_) AllReadyH.nil)
                rw [if_pos (by rfl)]
                refine wp_pushV (.tmp 46) (.tmp 55) 25 3 25 rfl I0 _ 8 Tryz.underlying25 hi0 hi1 hi2 hi3 rfl (by decide) _ base Au cu j 1 (intV su) [.int .i64 z] (.slice (some ⟨wr.drew.heap.size, 0, none⟩) 1 1) rfl rfl rfl HP.out.1 HP.out.2.1 HP.out.2.2 (by omega) ?_
                intro A5 c5 w5 hr5 hb5 ho5 hA5
                refine hK.out _ _ ((hb5.block _ (by have := HD.out.m.lo; have := HD.out.m.hi; omega)).trans hS1) (fun hH => ?_)
                clear hK K
                have HE := Lib.hid (end6 HD.out H.out.rl HZ.out hb5 hr5 ho5 hA5)
                have c5' : w5.cell? ⟨q, 34, none⟩ = some (.slice Au j cu) := (hb5.cell (p := ⟨q, 34, none⟩) HD.out.m.hi).trans k34
                have f5' : w5.frozen? ⟨q, 34, none⟩ = false := (HD.out.cs.keep (Nat.le_trans (below_new wr.drew _).size hb5.size) (((hb5.block q HD.out.m.hi)).trans ((below_new wr.drew _).block q (by have := HD.out.m.hi; have := HD.out.m.sz; omega)))).free 34 (by rw [gCells_len _ _ _ _ _ _ _ _ H.out.rl]; decide)
                clear hr5 hb5 ho5 hA5 c34 k34 k34b HP HD B6
                refine wpAnyH_take (i := 12) (v := .pointer (some ⟨q, 34, none⟩)) rfl (by kernel_rfl) (by kernel_rfl) (by kernel_rfl) (fun _ _ _ h => h) (Or.inl ⟨by rfl, fun w' hw => by go_simp⟩) hH ?_
                refine wpAnyH_ready (rs := [13]) (by kernel_rfl) (by simp) (AllReadyH.cons rfl (fun K hK => ?_) AllReadyH.nil)
                go_simp
                refine hK.out _ _ HE.out.m.box (fun hH => ?_)
                clear hK K
                refine wpAnyH_done (by kernel_rfl) ?_ _
                clear c5' f5'
                go_wp2_with fail
                go_meet
                case rel => exact ⟨A5, c5, z, HE⟩
          case rest =>
            obtain ⟨A5, c5, z, hst⟩ := hcut
            clear HL B3 f3
            have d35 : wc.cell? ⟨q, 35, none⟩ = some (.slice Am j cm) := (hst.out.cs.cell 35 (by rw [gCells_len _ _ _ _ _ _ _ _ H.out.rl]; decide)).trans (gCells_at mi s.rnd _ _ _ _ _ _ H.out.rl).2.2.1
            have uj : IntKind.u8.wrap (j : Int) = j := u8wrap j (by omega)
            have uk : (j : Int) % 256 = j := by omega
            have SR := Lib.hid (src_rb (rb_new wc (j : Int) (UInt8.ofNat j) (by rw [UInt8.toNat_ofNat']; omega)))
            have RM := Lib.hid (hst.out.rm.below (below_new wc (.cells #[.int .u8 j] 5)))
            have SZ := Lib.hid (Nat.le_trans hst.out.m.sz (below_new wc (.cells #[.int .u8 j] 5)).size)
            go_wp2_with (at_builtin; refine wpList_pushGA rfl (.tmp 59) (.tmp 62) 22 rfl _ base Am cm j 1 me [UInt8.ofNat j] (.slice (some ⟨wc.heap.size, 0, none⟩) 1 1) hst.out.ml rfl rfl rfl RM.out SR.out SZ.out (by omega) ?_; intro A7 c7 w7 hr7 hb7 ho7 hA7; have HE := Lib.hid (end7 hst.out H.out.rl (fun e => by subst e; rfl) hb7 hr7 ho7 hA7); have hc7 := cell_two hst.out.m hst.out.cs hb7; have e35 : w7.cell? ⟨q, 35, none⟩ = some (.slice Am j cm) := (hc7.cell 35 (by rw [gCells_len _ _ _ _ _ _ _ _ H.out.rl]; decide)).trans (gCells_at mi s.rnd _ _ _ _ _ _ H.out.rl).2.2.1; have f35 : w7.frozen? ⟨q, 35, none⟩ = false := hc7.free 35 (by rw [gCells_len _ _ _ _ _ _ _ _ H.out.rl]; decide); clear hr7 hb7 ho7 hA7 hc7 d35 SR RM SZ)
            go_roundw
            case rel => exact ⟨j + 1, by omega, by go_num, Lib.hid ⟨_, _, _, _, _, _, HE.out⟩⟩
            case measure => simp [intOf]; omega
        · have g1 : ¬ (j : Int) ≤ m := by omega
          obtain rfl : j = m + 1 := by omega
          go_wp2_with (go_at_call 21; refine (B3.out _).mono ?_; rintro e w' ⟨rfl, rfl⟩)
          have Q0 := Lib.hid (lq2_zero HL.out)
          have HU : Hid (su.length = m + 1 ∧ me.length = m + 1 ∧ (∀ z ∈ su, 0 ≤ z ∧ z ≤ 65535) ∧ (0 : UInt8) ∈ me) := Lib.hid ⟨HL.out.ul, HL.out.ml, HL.out.ur, HL.out.m0 (by omega)⟩
          clear HL h B3 f3 g1 hj hjm M0 C0
          generalize hbase2 : wr.heap.size = base2 at Q0
          clear hbase2
          go_loopw [7] (fun v wr => ∃ i : Nat, i ≤ 9 ∧ v = .int .i64 i ∧ Hid (∃ L Ax cx, Lq2 w wr s q base2 mi sn t su me Au cu Am cm i L Ax cx)) (fun v _ => 9 - (intOf v).toNat)
          case atStart => exact ⟨0, by omega, rfl, Lib.hid ⟨[], none, 0, Q0.out⟩⟩
          case round =>
            obtain ⟨i, hi, rfl, hst⟩ := hrel
            obtain ⟨L, Ax, cx, h2⟩ := hst.out
            have H2 := Lib.hid h2
            clear hst Q0
            by_cases hlt : i < s.ex.length ∧ i < 9
            · obtain ⟨hlt1, hlt2⟩ := hlt
              obtain ⟨b, off, ha2, hbl, e0, e1⟩ := H.out.ex i hlt1
              have HF : Hid (∀ wx, Below w.heap.size w wx → wx.heap[w.heap.size]? = some (.cells (sedA s) 46 (0, 0)) → wx.cell? ⟨b, off + i * 2, none⟩ = some (.int .i64 s.ex[i].1) ∧ wx.cell? ⟨b, off + i * 2 + 1, none⟩ = some (.int .i64 s.ex[i].2) ∧ wx.cell? ⟨w.heap.size, 39, none⟩ = some (.slice (some ⟨b, off, none⟩) s.ex.length s.c2)) := Lib.hid fun wx hb hx => by
                refine ⟨(hb.cell (p := ⟨b, off + i * 2, none⟩) hbl).trans e0, (hb.cell (p := ⟨b, off + i * 2 + 1, none⟩) hbl).trans e1, ?_⟩
                rw [← ha2]; exact (row_cell hx 39).1
              generalize s.ex[i].1 = y0 at *
              generalize s.ex[i].2 = y1 at *
              generalize hnx : s.ex.length = nx at *
              have q1 : (i : Int) < nx := by omega
              have q2 : (i : Int) < 9 := by omega
              have q0 : (0 : Int) ≤ i := by omega
              have hb0 := Int.emod_nonneg y0 (show (6000 : Int) ≠ 0 by decide)
              have hb1 := Int.emod_lt_of_pos y0 (show (0 : Int) < 6000 by decide)
              have hc0 := Int.emod_nonneg y1 (show (40 : Int) ≠ 0 by decide)
              have hc1 := Int.emod_lt_of_pos y1 (show (0 : Int) < 40 by decide)
              have B11 := Lib.hid fun w => bring_any y0 6000 w (by decide) (by decide)
              have B14 := Lib.hid fun w => bring_any y1 40 w (by decide) (by decide)
              obtain ⟨k0, hk0⟩ : ∃ x : Nat, y0 % 6000 = (x : Int) := ⟨(y0 % 6000).toNat, by omega⟩
              obtain ⟨nb, hnb⟩ : ∃ x : Nat, y1 % 40 = (x : Int) := ⟨(y1 % 40).toNat, by omega⟩
              rw [hk0] at B11
              rw [hnb] at B14
              have hk6 : k0 < 6000 := by omega
              have hn4 : nb < 40 := by omega
              obtain ⟨f0, f1, f39⟩ := HF.out _ h2.m.bel h2.m.box
              have hnat : ((1 : Int) + k0) + 6001 * i = ((1 + k0 + 6001 * i : Nat) : Int) := by omega
              have hnat1 : (6001 : Int) * i = ((6001 * i : Nat) : Int) := by omega
              have hnat2 : (1 : Int) + k0 = ((1 + k0 : Nat) : Int) := by omega
              have wA : IntKind.i64.wrap ((6001 : Int) * i) = 6001 * i := by rw [hnat1]; exact wrap_i64_7 _ (by omega)
              have wB : IntKind.i64.wrap ((1 : Int) + k0) = 1 + k0 := by rw [hnat2]; exact wrap_i64_7 _ (by omega)
              have wC : IntKind.i64.wrap ((1 : Int) + k0 + 6001 * i) = 1 + k0 + 6001 * i := by rw [hnat]; exact wrap_i64_7 _ (by omega)
              clear hb0 hb1 hc0 hc1 hk0 hnb e0 e1 ha2 h2 hnat hnat1 hnat2
              go_wp2_with (go_at_call 21; refine (B11.out _).mono ?_; rintro e w' ⟨rfl, rfl⟩)
              have HKD : Hid (1 + 6001 * (i : Int) ≤ 1 + k0 + 6001 * i ∧ (1 : Int) + k0 + 6001 * i ≤ 6000 + 6001 * i) := Lib.hid (by omega)
              clear f0 f1 f39 wA wB wC hk6 B11
              generalize (1 : Int) + k0 + 6001 * i = kd at *
              rename World => wo
              go_loopw [9, 10] (fun vd vk wi => ∃ (n : Nat) (d : List UInt8) (Ad : Option Addr) (cd : Nat), n ≤ nb ∧ vd = .slice Ad n cd ∧ vk = .int .i64 n ∧ d.length = n ∧ Hid (RowG wi wo.heap.size Ad cd d ∧ Below wo.heap.size wo wi)) (fun _ vk _ => nb - (intOf vk).toNat)
              case atStart => exact ⟨0, [], none, 0, Nat.zero_le _, rfl, rfl, rfl, Lib.hid ⟨RowG.nil _ _, Below.refl _ _⟩⟩
              case round =>
                obtain ⟨n, d, Ad, cd, hn, rfl, rfl, hd, hin⟩ := hrel
                have H3 := Lib.hid (H2.out.low hin.out.2)
                obtain ⟨f0, f1, f39⟩ := HF.out _ H3.out.m.bel H3.out.m.box
                by_cases hnb : n < nb
                · have g1 : (n : Int) < nb := by omega
                  have hnat : (n : Int) + i = ((n + i : Nat) : Int) := by omega
                  have u64 : IntKind.i64.wrap ((n : Int) + i) = n + i := by rw [hnat]; exact wrap_i64_7 _ (by omega)
                  have u8a : IntKind.u8.wrap ((n : Int) + i) = n + i := by rw [hnat]; exact u8wrap _ (by omega)
                  have u8b : ((n : Int) + i) % 256 = n + i := by omega
                  have SR := Lib.hid (src_rb (rb_new wr ((n : Int) + i) (UInt8.ofNat (n + i)) (by rw [UInt8.toNat_ofNat']; omega)))
                  have RM := Lib.hid (hin.out.1.below (below_new wr (.cells #[.int .u8 ((n : Int) + i)] 5)))
                  have SZ := Lib.hid (Nat.le_trans hin.out.2.size (below_new wr (.cells #[.int .u8 ((n : Int) + i)] 5)).size)
                  have HB := Lib.hid (hin.out.2.trans ((below_new wr (.cells #[.int .u8 ((n : Int) + i)] 5)).mono hin.out.2.size))
                  have HDL := Lib.hid hd
                  clear hnat hd
                  go_wp2_with (first
                    | (go_at_call 21; refine (B14.out _).mono ?_; rintro e w' ⟨rfl, rfl⟩)
                    | (at_builtin; refine wpList_pushG rfl (.tmp 98) (.tmp 103) 22 rfl _ wo.heap.size Ad cd n 1 d [UInt8.ofNat (n + i)] (.slice (some ⟨wr.heap.size, 0, none⟩) 1 1) HDL.out rfl rfl rfl RM.out SR.out SZ.out (by omega) ?_; intro A7 c7 w7 hr7 hb7 _; have HE := Lib.hid (And.intro hr7 (HB.out.trans hb7)); clear hr7 hb7))
                  go_roundw
                  case rel => exact ⟨n + 1, d ++ [UInt8.ofNat (n + i)], A7, c7, by omega, rfl, by go_num, by rw [List.length_append, HDL.out]; rfl, HE⟩
                  case measure => simp [intOf]; omega
                · obtain rfl : n = nb := by omega
                  have g1 : ¬ (n : Int) < n := by omega
                  have d38 : wr.cell? ⟨q, 38, none⟩ = some (.slice Ax i cx) := (H3.out.cs.cell 38 (by rw [gCells_len _ _ _ _ _ _ _ _ H.out.rl]; decide)).trans (gCells_at mi s.rnd _ _ _ _ _ _ H.out.rl).2.2.2.2.2
                  have HDL := Lib.hid hd
                  have SRC := Lib.hid (src_ext wr kd Ad n cd)
                  have ROW := Lib.hid (H3.out.rx.below (below_new wr (.cells #[.int .i64 kd, .slice Ad n cd] 62)))
                  have SZ := Lib.hid (Nat.le_trans H3.out.m.sz (below_new wr (.cells #[.int .i64 kd, .slice Ad n cd] 62)).size)
                  have HX : Hid (RbS (Own base2 wr Ax) wr Ad cd d) := Lib.hid (rbs_own (w := w) hin.out.1 H2.out.m.sz (fun g e => (H2.out.rx.lt e).2) rfl)
                  clear hd hnb
                  go_wp2_with (first
                    | (go_at_call 21; refine (B14.out _).mono ?_; rintro e w' ⟨rfl, rfl⟩)
                    | (at_builtin; refine wpList_pushVG rfl (.tmp 106) (.tmp 110) 26 62 26 rfl I1 _ 32 Tryz.underlying26 hj0 hj1 hj2 hj3 rfl (by decide) _ base2 Ax cx i 1 (xcV L) [.int .i64 kd, .slice Ad n cd] (.slice (some ⟨wr.heap.size, 0, none⟩) 1 1) rfl rfl rfl ROW.out SRC.out SZ.out (by omega) ?_; intro A5 c5 w5 hr5 hb5; have HE := Lib.hid (end17 (x := ⟨kd, Ad, cd, d⟩) H3.out H.out.rl HX.out ⟨HKD.out.1, HKD.out.2, by rw [show (⟨kd, Ad, cd, d⟩ : Xc).d.length = n from HDL.out]; omega⟩ hb5 (by rw [show (⟨kd, Ad, cd, d⟩ : Xc).d.length = n from HDL.out]; exact hr5)); have hc5 := cell_two H3.out.m H3.out.cs hb5.below; have e38 : w5.cell? ⟨q, 38, none⟩ = some (.slice Ax i cx) := (hc5.cell 38 (by rw [gCells_len _ _ _ _ _ _ _ _ H.out.rl]; decide)).trans (gCells_at mi s.rnd _ _ _ _ _ _ H.out.rl).2.2.2.2.2; have f38 : w5.frozen? ⟨q, 38, none⟩ = false := hc5.free 38 (by rw [gCells_len _ _ _ _ _ _ _ _ H.out.rl]; decide); clear hr5 hb5 hc5 d38 SRC ROW SZ HX))
                  go_roundw
                  case rel => exact ⟨i + 1, by omega, by go_num, Lib.hid ⟨_, _, _, HE.out⟩⟩
                  case measure => simp [intOf]; omega
            · have f39 : wr.cell? ⟨w.heap.size, 39, none⟩ = some (.slice s.a2 s.ex.length s.c2) := (row_cell h2.m.box 39).1
              have f4 : wr.cell? ⟨w.heap.size, 4, none⟩ = some (.int .i64 s.n4) := (row_cell h2.m.box 4).1
              have d38 : wr.cell? ⟨q, 38, none⟩ = some (.slice Ax i cx) := (h2.cs.cell 38 (by rw [gCells_len _ _ _ _ _ _ _ _ H.out.rl]; decide)).trans (gCells_at mi s.rnd _ _ _ _ _ _ H.out.rl).2.2.2.2.2
              have d37 : wr.cell? ⟨q, 37, none⟩ = some (.int .i64 0) := (h2.cs.cell 37 (by rw [gCells_len _ _ _ _ _ _ _ _ H.out.rl]; decide)).trans (gCells_at mi s.rnd _ _ _ _ _ _ H.out.rl).2.2.2.2.1
              have g37 : wr.frozen? ⟨q, 37, none⟩ = false := h2.cs.free 37 (by rw [gCells_len _ _ _ _ _ _ _ _ H.out.rl]; decide)
              have hb0 := Int.emod_nonneg s.n4 (show ((i : Int) + 1) ≠ 0 by omega)
              have hb1 := Int.emod_lt_of_pos s.n4 (show (0 : Int) < (i : Int) + 1 by omega)
              have B18 := Lib.hid fun w => bring_any s.n4 ((i : Int) + 1) w (by omega) (by omega)
              generalize s.n4 % ((i : Int) + 1) = p at *
              have FIN := Lib.hid (made_fin h2 H.out HSN.out HK.out HMI.out HU.out hm9 HT.out (p := p) ⟨hb0, by omega⟩ hi)
              generalize hG : mdG mi s sn t su me p L = G at *
              generalize hAd : mdA s Au cu Am cm Ax cx = ad at *
              have HGX : Hid (G.exts = L.map xcE ∧ G.host = t) := Lib.hid (by rw [← hG]; exact ⟨rfl, rfl⟩)
              have HGI := Lib.hid (infoGA G ad)
              have HGO := Lib.hid (grtA_one G ad)
              have hw : IntKind.i64.wrap ((i : Int) + 1) = i + 1 := by have := wrap_i64_7 (i + 1) (by omega); simpa using this
              clear hb0 hb1 h2 H2 hG hAd
              have hcs : (¬ (i : Int) < s.ex.length) ∨ ((i : Int) < s.ex.length ∧ ¬ (i : Int) < 9) := by omega
              clear hlt
              rcases hcs with hlt | ⟨hlt, hlt2⟩
              all_goals
                go_wp2_with (first
                  | (go_at_call 21; refine (B18.out _).mono ?_; rintro e w' ⟨rfl, rfl⟩)
                  | (refine wpList_load_row rfl 28 (.tmp 5) rfl q rfl 28 _ (0, 0) _ FIN.out.1 Tryz.underlying28 rfl HGI.out ?_)
                  | (refine wpList_store_row rfl 28 (.tmp 2) (.tmp 122) rfl (w.heap.size + 1) (grtA G ad) rfl rfl 28 _ FIN.out.2.1 HGI.out rfl HGO.out ?_))
                refine bodyPost_ret (results_row_tmp rfl _ _ (w.heap.size + 1) (grtA G ad) (.string ⟨(hB k).toArray⟩) rfl rfl FIN.out.2.2.1 HGI.out) rfl ?_
                obtain ⟨_, _, _, k1, k2, k3, k4, k5, k6⟩ := FIN.out
                exact ⟨G, ad, hB k, rfl, k1, by rw [HGX.out.2]; exact k2, k3, k4, by rw [HGX.out.1]; exact k5, k6⟩

end Go.Proofs.YtiakbmllpnabnaaGreatDoor
