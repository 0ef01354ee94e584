/- Rows that a call owns, of whatever cells: append. The program's writer: number, part. The program's writer: suiteBytes, dataOf, extBytes. -/
import Derived.Test.YtiakbmllpnabnaaGreatDoorJg
import Derived.Test.YtiakbmllpnabnaaGreatDoorJp
namespace Go.Proofs.YtiakbmllpnabnaaGreatDoor
open Go Go.RowKit

/-- 'n' elements of 'sz' cells each, in a block of the call's own -/
structure RowV (sz : Nat) (w : World) (base : Nat) (A : Option Addr) (n c : Nat) (vs : List Value) : Prop where
  len : vs.length = n * sz
  le : n ≤ c
  most : c ≤ maxLen
  at_ : (A = none ∧ c = 0) ∨ ∃ g, A = some ⟨g, 0, none⟩ ∧ base ≤ g ∧ g < w.heap.size ∧ (∀ j, j < c * sz → (w.cell? ⟨g, j, none⟩).isSome = true ∧ w.frozen? ⟨g, j, none⟩ = false) ∧ ∀ j (h : j < vs.length), w.cell? ⟨g, j, none⟩ = some vs[j]
theorem RowV.nil (sz : Nat) (w : World) (base : Nat) : RowV sz w base none 0 0 [] := ⟨by simp, Nat.le_refl _, Nat.zero_le _, .inl ⟨rfl, rfl⟩⟩
theorem RowV.keep {sz : Nat} {w w' : World} {base : Nat} {A : Option Addr} {n c : Nat} {vs : List Value} (h : RowV sz w base A n c vs) (hs : w.heap.size ≤ w'.heap.size) (hb : ∀ g, A = some ⟨g, 0, none⟩ → w'.heap[g]? = w.heap[g]?) : RowV sz w' base A n c vs := by
  refine ⟨h.len, h.le, h.most, ?_⟩
  rcases h.at_ with h1 | ⟨g, rfl, h1, h2, h3, h4⟩
  · exact .inl h1
  · have e := hb g rfl
    refine .inr ⟨g, rfl, h1, Nat.lt_of_lt_of_le h2 hs, fun j hj => ?_, fun j hj => ?_⟩
    · have := h3 j hj
      unfold World.cell? World.frozen? at *
      rw [e]
      exact this
    · have := h4 j hj
      unfold World.cell? at *
      rw [e]
      exact this
theorem RowV.lt {sz : Nat} {w : World} {base : Nat} {A : Option Addr} {n c : Nat} {vs : List Value} (h : RowV sz w base A n c vs) {g : Nat} (e : A = some ⟨g, 0, none⟩) : base ≤ g ∧ g < w.heap.size := by
  rcases h.at_ with ⟨rfl, _⟩ | ⟨g', rfl, h1, h2, _⟩
  · cases e
  · cases e; exact ⟨h1, h2⟩
theorem RowV.below {sz : Nat} {w w' : World} {base : Nat} {A : Option Addr} {n c : Nat} {vs : List Value} (h : RowV sz w base A n c vs) (hb : Below w.heap.size w w') : RowV sz w' base A n c vs :=
  h.keep hb.size fun g e => hb.block g (h.lt e).2
theorem RowV.up {sz : Nat} {w : World} {base base' : Nat} {A : Option Addr} {n c : Nat} {vs : List Value} (h : RowV sz w base A n c vs) (hb : base' ≤ base) : RowV sz w base' A n c vs := by
  refine ⟨h.len, h.le, h.most, ?_⟩
  rcases h.at_ with h1 | ⟨g, e, h1, h2⟩
  · exact .inl h1
  · exact .inr ⟨g, e, Nat.le_trans hb h1, h2⟩
/-- a cell of it -/
theorem RowV.rd {sz : Nat} {w : World} {base : Nat} {A : Option Addr} {n c : Nat} {vs : List Value} (h : RowV sz w base A n c vs) (j : Nat) (hj : j < vs.length) : ∃ g, A = some ⟨g, 0, none⟩ ∧ base ≤ g ∧ g < w.heap.size ∧ w.cell? ⟨g, j, none⟩ = some vs[j] := by
  rcases h.at_ with ⟨rfl, rfl⟩ | ⟨g, rfl, h1, h2, _, h4⟩
  · have h1 := h.len
    have h2 := h.le
    obtain rfl : n = 0 := by omega
    simp at h1
    rw [h1] at hj; simp at hj
  · exact ⟨g, rfl, h1, h2, h4 j hj⟩
theorem run_pushV {sz : Nat} (w : World) (base : Nat) (S E tx ty : TypeId) (i0 : TypeInfo) (z0 : Value) (bz : Nat) (hS : Tryz.prog.underlying S = some (.slice E)) (hi : Tryz.prog.info? E = some i0) (hz0 : i0.zero = some z0) (hz1 : i0.size = sz) (hz2 : i0.bytes = bz) (hzc : z0.cells.size = sz) (hbz : bz ≤ 40)
    (A : Option Addr) (n c m : Nat) (vs news : List Value) (x : Value) (h : RowV sz w base A n c vs) (hx : Src Tryz.prog sz tx x m news w) (hm : news.length = m * sz) (hbase : base ≤ w.heap.size) (hlen : n + m ≤ 1000000000000) :
    ∃ (A' : Option Addr) (c' : Nat) (w' : World), (Builtin.append_ #[S, tx] ty #[.slice A n c, x]).run Tryz.prog w = .ok (.slice A' (n + m) c') w' ∧ RowV sz w' base A' (n + m) c' (vs ++ news) ∧ Below base w w' ∧ (∀ k, k < w.heap.size → A ≠ some ⟨k, 0, none⟩ → w'.heap[k]? = w.heap[k]?) ∧ (A' = A ∨ ∃ k, w.heap.size ≤ k ∧ A' = some ⟨k, 0, none⟩) := by
  have hx' : Src Tryz.prog i0.size tx x m news w := by rw [hz1]; exact hx
  have hvl := h.len
  have hbig : ∀ c0, c0 < n + m → Builtin.nextslicecap (n + m) c0 * i0.bytes ≤ 281474976710656 := fun c0 hc0 => by
    rw [hz2]
    exact growslice_fits hc0 (Nat.le_trans (Nat.mul_le_mul hlen hbz) (by decide))
  have grown : (olds : List Value) → olds = vs → (old : Nat) → old < n + m →
      RowV sz (w.drew.alloc (.cells ((olds ++ news).toArray ++ Builtin.zeroCells z0.cells (grownCap w (n + m) old E - (n + m))) E)) base (some ⟨w.heap.size, 0, none⟩) (n + m) (grownCap w (n + m) old E) (vs ++ news) ∧
      Below base w (w.drew.alloc (.cells ((olds ++ news).toArray ++ Builtin.zeroCells z0.cells (grownCap w (n + m) old E - (n + m))) E)) := by
    intro olds ho old hold
    subst ho
    have hge := grownCap_ge w (n + m) old E
    have hcm : grownCap w (n + m) old E ≤ maxLen := grownCap_le_maxLen w (n + m) old E (by unfold maxLen; omega)
    have hl2 : (olds ++ news).length = (n + m) * sz := by rw [List.length_append, hvl, hm, Nat.add_mul]
    have e : (w.drew.alloc (.cells ((olds ++ news).toArray ++ Builtin.zeroCells z0.cells (grownCap w (n + m) old E - (n + m))) E)).heap[w.heap.size]? = some (.cells ((olds ++ news).toArray ++ Builtin.zeroCells z0.cells (grownCap w (n + m) old E - (n + m))) E) := heap_alloc_new w.drew _
    have hsz : ((olds ++ news).toArray ++ Builtin.zeroCells z0.cells (grownCap w (n + m) old E - (n + m))).size = grownCap w (n + m) old E * sz := by
      rw [Array.size_append, size_zeroCells, hzc, List.size_toArray, hl2, ← Nat.add_mul, Nat.add_sub_of_le hge]
    refine ⟨⟨hl2, hge, hcm, .inr ⟨w.heap.size, rfl, hbase, ?_, fun j hj => ?_, fun j hj => ?_⟩⟩, (below_drewN (Below.refl base w) 1).alloc hbase _⟩
    · show _ < (w.heap.push _).size; simp
    · unfold World.cell? World.frozen?
      rw [e]
      generalize (olds ++ news).toArray ++ Builtin.zeroCells z0.cells (grownCap w (n + m) old E - (n + m)) = arr at *
      have hj' : j < arr.size := by rw [hsz]; exact hj
      simp [hj']
    · unfold World.cell?
      rw [e]
      show (((olds ++ news).toArray ++ _)[j]?) = _
      rw [Array.getElem?_append_left (by simpa using hj)]
      simp only [List.getElem?_toArray]
      rw [List.getElem?_eq_getElem hj]
  rcases h.at_ with ⟨rfl, rfl⟩ | ⟨g, rfl, hb, hlt, hcs, hcl⟩
  · have hn0 : n = 0 := by have := h.le; omega
    subst hn0
    have hl0 : vs = [] := List.eq_nil_of_length_eq_zero (by rw [hvl, Nat.zero_mul])
    subst hl0
    by_cases h0 : m = 0
    · subst h0
      have hz' : news = [] := List.eq_nil_of_length_eq_zero (by rw [hm, Nat.zero_mul])
      subst hz'
      exact ⟨none, 0, w, run_append_nothing (P := Tryz.prog) w S tx ty E i0 hS hi none 0 0 (Nat.le_refl _) x hx', h, Below.refl _ _, fun _ _ _ => rfl, .inl rfl⟩
    · have hr := run_append_grow_src (P := Tryz.prog) w S tx ty E i0 z0 hS hi hz0 none 0 0 [] (by simp [Builtin.firstCells]) x m news hx' (by omega) (by omega) (hbig 0 (by omega))
      obtain ⟨g1, g2⟩ := grown [] rfl 0 (by omega)
      exact ⟨_, _, _, hr, g1, g2, fun k hk _ => heap_alloc_old w.drew _ hk, .inr ⟨w.heap.size, Nat.le_refl _, rfl⟩⟩
  · by_cases hroom : n + m ≤ c
    · have hin : ∀ j, j < news.length → n * sz + j < c * sz := fun j hj => by
        rw [hm] at hj
        have : (n + m) * sz ≤ c * sz := Nat.mul_le_mul_right _ hroom
        rw [Nat.add_mul] at this
        omega
      have hr := run_append_room_src (P := Tryz.prog) w S tx ty E i0 hS hi g 0 n c x m news hx' hroom
        (fun j hj => by rw [hz1, Nat.zero_add]; exact (hcs _ (hin j hj)).1) (fun j hj => by rw [hz1, Nat.zero_add]; exact (hcs _ (hin j hj)).2)
      rw [hz1, Nat.zero_add] at hr
      obtain ⟨s1, s2, s3, s4, s5⟩ := setCells_same g news (n * sz) w
      refine ⟨_, _, _, hr, ⟨by rw [List.length_append, hvl, hm, Nat.add_mul], hroom, h.most, .inr ⟨g, rfl, hb, by rw [s4]; exact hlt, fun j hj => ⟨?_, ?_⟩, fun j hj => ?_⟩⟩, ⟨s1, s2, s3, by rw [s4]; exact Nat.le_refl _, fun k hk => s5 k (by omega)⟩, fun k _ hk => s5 k (fun e => hk (by rw [e])), .inl rfl⟩
      · exact World.isSome_setCells g _ _ w _ (hcs j hj).1
      · rw [World.frozen?_setCells]; exact (hcs j hj).2
      · by_cases hjl : j < vs.length
        · rw [World.cell?_setCells_out g _ _ w _ (fun _ _ => .inl (by show j < n * sz; omega)), hcl j hjl, List.getElem_append_left hjl]
        · have hjz : j - n * sz < news.length := by rw [List.length_append] at hj; omega
          have := World.cell?_setCells_in g news (n * sz) w (fun i hi => (hcs _ (hin i hi)).1) (j - n * sz) hjz
          rw [show n * sz + (j - n * sz) = j by omega] at this
          rw [this, List.getElem_append_right (by omega)]
          simp only [hvl]
    · have hr := run_append_grow_src (P := Tryz.prog) w S tx ty E i0 z0 hS hi hz0 (some ⟨g, 0, none⟩) n c vs
        (by
          rw [hz1]
          exact run_firstCells_some w.drew sz n ⟨g, 0, none⟩ n c vs hvl (fun j u hj => by
            have hjl : j < vs.length := (List.getElem?_eq_some_iff.1 hj).1
            show w.cell? _ = _
            rw [add_pl, Nat.zero_add, hcl j hjl, ← hj, List.getElem?_eq_getElem hjl])) x m news hx' (by omega) (by omega) (hbig c (by omega))
      obtain ⟨g1, g2⟩ := grown _ rfl c (by omega)
      exact ⟨_, _, _, hr, g1, g2, fun k hk _ => heap_alloc_old w.drew _ hk, .inr ⟨w.heap.size, Nat.le_refl _, rfl⟩⟩
theorem wpList_pushV {sz : Nat} {ops : Array Oper} {rest : List Oper} {o : Oper} {a : Act} {Q : Exit → Act → World → Prop} (hgd : o.guard = none) (s x : Operand) (S E tx : TypeId)
    (ho : o.op = .call { callee := .builtin .append, args := #[s, x], argTypes := #[S, tx] }) (i0 : TypeInfo) (z0 : Value) (bz : Nat) (hS : Tryz.prog.underlying S = some (.slice E)) (hi : Tryz.prog.info? E = some i0) (hz0 : i0.zero = some z0) (hz1 : i0.size = sz) (hz2 : i0.bytes = bz) (hzc : z0.cells.size = sz) (hbz : bz ≤ 40)
    (w : World) (base : Nat) (A : Option Addr) (c n m : Nat) (vs news : List Value) (xv : Value) (hm : news.length = m * sz)
    (hs : a.eval s = .slice A n c) (hx : a.eval x = xv) (h : RowV sz w base A n c vs) (hsrc : Src Tryz.prog sz tx xv m news w) (hbase : base ≤ w.heap.size) (hlen : n + m ≤ 1000000000000)
    (hk : ∀ (A' : Option Addr) (c' : Nat) w', RowV sz w' base A' (n + m) c' (vs ++ news) → Below base w w' → (∀ k, k < w.heap.size → A ≠ some ⟨k, 0, none⟩ → w'.heap[k]? = w.heap[k]?) → wpList Tryz.prog ops Q rest (a.put o.dst (.slice A' (n + m) c')) w') :
    wpList Tryz.prog ops Q (o :: rest) a w := by
  refine wpList_plain hgd fun K hK => ?_
  obtain ⟨A', c', w', hr, h2, h3, h4, _⟩ := run_pushV w base S E tx o.type i0 z0 bz hS hi hz0 hz1 hz2 hzc hbz A n c m vs news xv h hsrc hm hbase hlen
  unfold Oper.wp execOp
  simp only [ho, resolve, invoke, builtin, Sem.run_bind, Sem.run_pure, Result.andThen_ok, List.map_toArray, List.map_cons, List.map_nil, hs, hx, hr]
  exact hK _ _ (hk A' c' w' h2 h3 h4)
/-- one element, in a block of its own -/
theorem src_one {sz : Nat} {w : World} {S E : TypeId} (hS : Tryz.prog.underlying S = some (.slice E)) (g : Nat) (vs : List Value) (hl : vs.length = sz) (hc : ∀ j (h : j < vs.length), w.cell? ⟨g, j, none⟩ = some vs[j]) (h1 : ∀ v ∈ vs, v.oneCell' = true) : Src Tryz.prog sz S (.slice (some ⟨g, 0, none⟩) 1 1) 1 vs w :=
  Src.ofSlice w hS ⟨g, 0, none⟩ 1 1 vs (by rw [hl, Nat.one_mul]) (fun j u hj => by
    have hjl : j < vs.length := (List.getElem?_eq_some_iff.1 hj).1
    rw [add_pl, Nat.zero_add, hc j hjl, ← hj, List.getElem?_eq_getElem hjl]) h1
end Go.Proofs.YtiakbmllpnabnaaGreatDoor
namespace Go.Proofs.YtiakbmllpnabnaaGreatDoor
open Go Go.RowKit

/-- What an append to a row leaves: all blocks that there were, but the row's own. -/
structure Gw (base : Nat) (A A' : Option Addr) (w w' : World) : Prop where
  below : Below base w w'
  old : ∀ k, k < w.heap.size → A ≠ some ⟨k, 0, none⟩ → w'.heap[k]? = w.heap[k]?
  at_ : A' = A ∨ ∃ k, w.heap.size ≤ k ∧ A' = some ⟨k, 0, none⟩
theorem Gw.refl (base : Nat) (A : Option Addr) (w : World) : Gw base A A w w := ⟨Below.refl _ _, fun _ _ _ => rfl, .inl rfl⟩
theorem Gw.trans {base : Nat} {A A' A'' : Option Addr} {a b c : World} (h : Gw base A A' a b) (k : Gw base A' A'' b c) : Gw base A A'' a c := by
  refine ⟨h.below.trans k.below, fun i hi hn => ?_, ?_⟩
  · refine (k.old i (Nat.lt_of_lt_of_le hi h.below.size) fun e => ?_).trans (h.old i hi hn)
    rcases h.at_ with rfl | ⟨j, hj, rfl⟩
    · exact hn e
    · cases e; omega
  · rcases k.at_ with rfl | ⟨j, hj, rfl⟩
    · exact h.at_
    · exact .inr ⟨j, Nat.le_trans h.below.size hj, rfl⟩
theorem gw_new {base : Nat} (w : World) (A : Option Addr) (o : Obj) (hb : base ≤ w.heap.size) : Gw base A A w (w.alloc o) := ⟨(Below.refl base w).alloc hb o, fun _ hk _ => heap_alloc_old w o hk, .inl rfl⟩
theorem wpList_pushW {ops : Array Oper} {rest : List Oper} {o : Oper} {a : Act} {Q : Exit → Act → World → Prop} (hgd : o.guard = none) (s x : Operand) (tx : TypeId)
    (ho : o.op = .call { callee := .builtin .append, args := #[s, x], argTypes := #[22, tx] }) (w : World) (base : Nat) (A : Option Addr) (c n m : Nat) (l z : List UInt8) (xv : Value) (hn : l.length = n) (hm : z.length = m)
    (hs : a.eval s = .slice A n c) (hx : a.eval x = xv) (h : RowG w base A c l) (hsrc : Src Tryz.prog 1 tx xv z.length (Lib.byteCells z) w) (hbase : base ≤ w.heap.size) (hlen : n + m ≤ 140737488355328)
    (hk : ∀ (A' : Option Addr) (c' : Nat) w', RowG w' base A' c' (l ++ z) → Gw base A A' w w' → wpList Tryz.prog ops Q rest (a.put o.dst (.slice A' (n + m) c')) w') :
    wpList Tryz.prog ops Q (o :: rest) a w := by
  subst hn hm
  refine wpList_plain hgd fun K hK => ?_
  obtain ⟨A', c', w', hr, h2, h3, h4, h5⟩ := run_pushG w base o.type tx A c l z xv h hsrc hbase hlen
  unfold Oper.wp execOp
  simp only [ho, resolve, invoke, builtin, Sem.run_bind, Sem.run_pure, Result.andThen_ok, List.map_toArray, List.map_cons, List.map_nil, hs, hx, hr]
  exact hK _ _ (hk A' c' w' h2 ⟨h3, h4, h5⟩)
theorem wpList_pushOneW {ops : Array Oper} {rest : List Oper} {o : Oper} {a : Act} {Q : Exit → Act → World → Prop} (hgd : o.guard = none) (s x : Operand)
    (ho : o.op = .call { callee := .builtin .append, args := #[s, x], argTypes := #[22, 22] }) (w : World) (base : Nat) (A : Option Addr) (c n : Nat) (l : List UInt8) (v : Int) (y : UInt8) (hv : v = y.toNat) (hn : l.length = n)
    (hs : a.eval s = .slice A n c) (hx : a.eval x = .slice (some ⟨w.heap.size, 0, none⟩) 1 1) (h : RowG w base A c l) (hbase : base ≤ w.heap.size) (hlen : n + 1 ≤ 140737488355328)
    (hk : ∀ (A' : Option Addr) (c' : Nat) w', RowG w' base A' c' (l ++ [y]) → Gw base A A' w w' → wpList Tryz.prog ops Q rest (a.put o.dst (.slice A' (n + 1) c')) w') :
    wpList Tryz.prog ops Q (o :: rest) a (w.alloc (.cells #[.int .u8 v] 5)) := by
  refine wpList_pushW hgd s x 22 ho _ base A c n 1 l [y] _ hn rfl hs hx (h.below (below_new _ _)) (src_rb (rb_new w v y hv)) (Nat.le_trans hbase (below_new _ _).size) hlen fun A' c' w' h1 h2 => hk A' c' w' h1 ((gw_new w A _ hbase).trans h2)
/-- what is left of an append of 'z' -/
def GrewP (base : Nat) (A : Option Addr) (l z : List UInt8) (w : World) (e : Ending) (w' : World) : Prop := ∃ (A' : Option Addr) (c' : Nat), e = .returned (.slice A' (l.length + z.length) c') ∧ RowG w' base A' c' (l ++ z) ∧ Gw base A A' w w'
set_option maxRecDepth 100000 in
set_option maxHeartbeats 400000 in
theorem number_prog {base : Nat} {A : Option Addr} {c q : Nat} {l : List UInt8} (n k : Nat) {w : World} (hR : RowG w base A c l) (hq : l.length = q) (hbase : base ≤ w.heap.size) (hl : l.length ≤ 100000000000) (hk : k ≤ 3) :
    Calls Tryz.prog 84 #[.slice A q c, .int .i64 k, .int .i64 n] w (GrewP base A l (rowB n k) w) := by
  subst hq
  have HR := Lib.hid hR
  have HB := Lib.hid hbase
  have HL := Lib.hid hl
  have hkl := rowB_len n k
  clear hR hl
  unfold GrewP
  rw [hkl]
  go_enter Tryz.func84, Tryz.ntmps84
  go_wp2_with fail
  go_loopw [0, 7] (fun v i wr => ∃ (m : Nat) (R : List UInt8) (A' : Option Addr) (c' : Nat), m ≤ k ∧ i = .int .i64 (8 * (m : Int) - 8) ∧ v = .slice A' (l.length + R.length) c' ∧ RowG wr base A' c' (l ++ R) ∧ R ++ rowB n m = rowB n k ∧ Gw base A A' w wr) (fun _ i _ => (intOf i + 8).toNat)
  case atStart => exact ⟨k, [], A, c, Nat.le_refl _, congrArg (Value.int .i64) (by omega), rfl, by rw [List.append_nil]; exact HR.out, rfl, Gw.refl _ _ _⟩
  case round =>
    obtain ⟨m, R, A', c', hm, rfl, rfl, hown, hR, hb⟩ := hrel
    have hlen : R.length ≤ 3 := by
      have := congrArg List.length hR
      rw [List.length_append, rowB_len, rowB_len] at this
      omega
    have hLL := HL.out
    have ho := Lib.hid hown
    have hb' := Lib.hid hb
    clear hown hb
    have hbs := hb'.out.below.size
    have hbb : base ≤ wr.heap.size := Nat.le_trans HB.out hbs
    cases m with
    | zero =>
      go_wp2_with fail
      go_ret
      rw [rowB, List.append_nil] at hR
      subst hR
      exact ⟨A', c', by rw [hkl]; rfl, ho.out, hb'.out⟩
    | succ m =>
      have hcases : m = 0 ∨ m = 1 ∨ m = 2 := by omega
      rcases hcases with rfl | rfl | rfl
      · go_wp2_with (at_builtin; refine wpList_pushOneW rfl (.tmp 15) (.tmp 20) rfl _ base A' c' (l.length + R.length) (l ++ R) _ (UInt8.ofNat (n / 256 ^ 0)) ?_ (List.length_append ..) rfl rfl ho.out hbb (by omega) ?_; rotate_left; intro A1 c1 w1 hr1 hb1)
        all_goals first
          | (rw [← byte_at n 0]; simp; done)
          | exact ⟨⟨0, R ++ [UInt8.ofNat (n / 256 ^ 0)], A1, c1, by omega, rfl, by rw [List.length_append]; rfl, by rw [← List.append_assoc]; exact hr1, by rw [← hR, List.append_assoc]; rfl, hb'.out.trans hb1⟩, by simp [intOf]⟩
      · go_wp2_with (at_builtin; refine wpList_pushOneW rfl (.tmp 15) (.tmp 20) rfl _ base A' c' (l.length + R.length) (l ++ R) _ (UInt8.ofNat (n / 256 ^ 1)) ?_ (List.length_append ..) rfl rfl ho.out hbb (by omega) ?_; rotate_left; intro A1 c1 w1 hr1 hb1)
        all_goals first
          | exact byte_at n 1
          | exact ⟨⟨1, R ++ [UInt8.ofNat (n / 256 ^ 1)], A1, c1, by omega, rfl, by rw [List.length_append]; rfl, by rw [← List.append_assoc]; exact hr1, by rw [← hR, List.append_assoc]; rfl, hb'.out.trans hb1⟩, by simp [intOf]⟩
      · go_wp2_with (at_builtin; refine wpList_pushOneW rfl (.tmp 15) (.tmp 20) rfl _ base A' c' (l.length + R.length) (l ++ R) _ (UInt8.ofNat (n / 256 ^ 2)) ?_ (List.length_append ..) rfl rfl ho.out hbb (by omega) ?_; rotate_left; intro A1 c1 w1 hr1 hb1)
        all_goals first
          | exact byte_at n 2
          | exact ⟨⟨2, R ++ [UInt8.ofNat (n / 256 ^ 2)], A1, c1, by omega, rfl, by rw [List.length_append]; rfl, by rw [← List.append_assoc]; exact hr1, by rw [← hR, List.append_assoc]; rfl, hb'.out.trans hb1⟩, by simp [intOf]⟩
/-- bytes that an append to 'A' leaves as they are -/
def Safe (A : Option Addr) (w : World) (F : Option Addr) (fc : Nat) (z : List UInt8) : Prop :=
  ∀ w', w.heap.size ≤ w'.heap.size → (∀ k, k < w.heap.size → A ≠ some ⟨k, 0, none⟩ → w'.heap[k]? = w.heap[k]?) → Rb w'.heap.size w' F fc z
theorem safe_old {base : Nat} {A : Option Addr} {w : World} {F : Option Addr} {fc c : Nat} {l z : List UInt8} (hR : RowG w base A c l) (hz : Rb base w F fc z) (hb : base ≤ w.heap.size) : Safe A w F fc z := fun w' hs hk =>
  (hz.keep fun k hk' => hk k (Nat.lt_of_lt_of_le hk' hb) fun e => by have := (hR.lt e).1; omega).mono (Nat.le_trans hb hs)
theorem safe_row {b2 : Nat} {A : Option Addr} {w : World} {F : Option Addr} {fc : Nat} {z : List UInt8} (hz : RowG w b2 F fc z) (hA : ∀ g, A = some ⟨g, 0, none⟩ → g < b2) : Safe A w F fc z := fun w' hs hk =>
  (hz.keep hs fun g e => hk g (hz.lt e).2 fun e' => by have := hA g e'; have := (hz.lt e).1; omega).rb
set_option maxRecDepth 100000 in
set_option maxHeartbeats 400000 in
theorem part_prog {base : Nat} {A : Option Addr} {c q : Nat} {l : List UInt8} (k : Nat) {F : Option Addr} {fc m : Nat} {z : List UInt8} {w : World} (hR : RowG w base A c l) (hq : l.length = q) (hm : z.length = m) (hbase : base ≤ w.heap.size) (hl : l.length ≤ 10000000000) (hz : z.length ≤ 10000000000) (hk : k ≤ 3) (hF : Safe A w F fc z) :
    Calls Tryz.prog 62 #[.slice A q c, .int .i64 k, .slice F m fc] w (GrewP base A l (fillB z k) w) := by
  subst hq hm
  have CN := Lib.hid (number_prog z.length k hR rfl hbase (by omega) hk)
  have HS : Hid (fillB z k = rowB z.length k ++ z) := Lib.hid rfl
  have HB := Lib.hid hbase
  have HKL := Lib.hid (rowB_len z.length k)
  have HF := Lib.hid hF
  clear hR hF
  unfold GrewP at *
  generalize fillB z k = X at *
  generalize rowB z.length k = Y at *
  go_enter Tryz.func62, Tryz.ntmps62
  go_wp2_with (first
    | (go_at_call 84; refine CN.out.mono ?_; rintro e w1 ⟨A1, c1, rfl, hr1, hb1⟩; have R1 := Lib.hid hr1; have B1 := Lib.hid hb1; clear hr1 hb1)
    | (at_builtin; refine wpList_pushW rfl (.tmp 11) (.tmp 12) 22 rfl w1 base A1 c1 (l.length + Y.length) z.length (l ++ Y) z (.slice F z.length fc) (List.length_append ..) rfl rfl rfl R1.out (src_rb (HF.out w1 B1.out.below.size B1.out.old)) (Nat.le_trans HB.out B1.out.below.size) (by have := HKL.out; omega) ?_; intro A2 c2 w2 hr2 hb2; have R2 := Lib.hid hr2; have B2 := Lib.hid (B1.out.trans hb2); clear hr2 hb2))
  go_ret
  rw [HS.out]
  exact ⟨A2, c2, by rw [List.length_append, ← Nat.add_assoc]; rfl, by rw [← List.append_assoc]; exact R2.out, B2.out⟩
end Go.Proofs.YtiakbmllpnabnaaGreatDoor
namespace Go.Proofs.YtiakbmllpnabnaaGreatDoor
open Go Go.RowKit

theorem encS_take {l : List Int} {k : Nat} (hk : k < l.length) : encS (l.take (k + 1)) = encS (l.take k) ++ rowB l[k].toNat 2 := by
  rw [List.take_succ_eq_append_getElem hk]
  unfold encS
  rw [List.flatMap_append, List.flatMap_singleton]
set_option maxRecDepth 100000 in
set_option maxHeartbeats 400000 in
theorem suiteBytes_prog {w : World} {A : Option Addr} {c n : Nat} {l : List Int} (h : NumsIn w.heap.size w A l) (hn : n = l.length) (hl : l.length ≤ 1000000) (h0 : ∀ z ∈ l, 0 ≤ z) :
    Calls Tryz.prog 85 #[.slice A n c] w (MadeP (encS l) w) := by
  subst hn
  have HN := Lib.hid h
  have H0 : Hid (∀ k (hk : k < l.length), l[k] = ((l[k].toNat : Nat) : Int)) := Lib.hid fun k hk => by have := h0 _ (List.getElem_mem hk); omega
  unfold MadeP
  clear h h0
  go_enter Tryz.func85, Tryz.ntmps85
  go_wp2_with fail
  go_loopw [3, 8] (fun v i wr => ∃ (k : Nat) (A' : Option Addr) (c' : Nat), k ≤ l.length ∧ i = .int .i64 k ∧ v = .slice A' (encS (l.take k)).length c' ∧ RowG wr w.heap.size A' c' (encS (l.take k)) ∧ Below w.heap.size w wr) (fun _ i _ => l.length - (intOf i).toNat)
  case atStart => exact ⟨0, none, 0, Nat.zero_le _, rfl, rfl, RowG.nil _ _, Below.refl _ _⟩
  case round =>
    obtain ⟨k, A', c', hk, rfl, rfl, hown, hb⟩ := hrel
    by_cases hlt : k < l.length
    · obtain ⟨b, off, rfl, _, hc⟩ := HN.out.keep (fun j hj => hb.block j hj) hb.size k hlt
      have q0 : (0 : Int) ≤ k := by omega
      have q1 : (k : Int) < l.length := by omega
      have hel := encS_len (l.take k)
      rw [List.length_take] at hel
      have HS := Lib.hid (encS_take hlt)
      have e0 := H0.out k hlt
      rw [e0] at hc
      have CN := Lib.hid (number_prog l[k].toNat 2 hown rfl hb.size (by omega) (by decide))
      have HB := Lib.hid hb
      have hrl := rowB_len l[k].toNat 2
      clear hown hb hel e0
      unfold GrewP at CN
      generalize l[k].toNat = y at *
      generalize encS (l.take k) = R at *
      go_wp2_with (go_at_call 84; refine CN.out.mono ?_; rintro e w1 ⟨A1, c1, rfl, hr1, hb1⟩; have R1 := Lib.hid hr1; have B1 := Lib.hid hb1; clear hr1 hb1)
      go_roundw
      case rel => exact ⟨k + 1, A1, c1, by omega, by go_num, by rw [HS.out, List.length_append, rowB_len], by rw [HS.out]; exact R1.out, HB.out.trans B1.out.below⟩
      case measure => simp [intOf]; omega
    · obtain rfl : l.length = k := by omega
      rw [List.take_length] at hown
      rw [List.take_length]
      have HW := Lib.hid hown
      have HB := Lib.hid hb
      clear hown hb
      go_wp2_with fail
      go_ret
      exact ⟨A', c', rfl, HW.out, HB.out⟩
theorem rowG_one (w : World) (base : Nat) (n : Int) (y : UInt8) (h : n = y.toNat) (hb : base ≤ w.heap.size) : RowG (w.alloc (.cells #[.int .u8 n] 5)) base (some ⟨w.heap.size, 0, none⟩) 1 [y] := by
  subst h
  refine ⟨Nat.le_refl _, by decide, .inr ⟨w.heap.size, rfl, hb, by simp, fun j hj => ?_, fun j hj => ?_⟩⟩
  · obtain rfl : j = 0 := by omega
    constructor
    · rw [World.cell?_alloc_at _ _ _ _ rfl]; rfl
    · unfold World.frozen?
      rw [show (w.alloc (.cells #[.int .u8 (y.toNat : Int)] 5)).heap[w.heap.size]? = some (.cells #[.int .u8 (y.toNat : Int)] 5) from heap_alloc_new w _]
      rfl
  · obtain rfl : j = 0 := by simpa using hj
    rw [World.cell?_alloc_at _ _ _ _ rfl]; rfl
set_option maxRecDepth 100000 in
set_option maxHeartbeats 400000 in
theorem dataOf_prog (w : World) (h : List UInt8) (hl : h.length ≤ 1000000) :
    Calls Tryz.prog 86 #[.string ⟨h.toArray⟩] w (MadeP (encN h) w) := by
  have HE : Hid (encN h = fillB (0 :: fillB h 2) 2) := Lib.hid rfl
  have hf : (fillB h 2).length = h.length + 2 := by unfold fillB; simp [rowB_len]; omega
  have hsz := mk_size h
  have R0 := Lib.hid (rowG_one w w.heap.size 0 0 rfl (Nat.le_refl _))
  have B0 := Lib.hid (below_new w (.cells #[.int .u8 0] 5))
  have hz0 : (w.alloc (.cells #[.int .u8 0] 5)).heap.size = w.heap.size + 1 := by simp
  have hr1 := conv_rowG (w.alloc (.cells #[.int .u8 0] 5)) h (by omega)
  have hb1 := bytesWorld_below (w.alloc (.cells #[.int .u8 0] 5)) ⟨h.toArray⟩
  have hcv := bytes_conv (w.alloc (.cells #[.int .u8 0] 5)) ⟨h.toArray⟩
  rw [hsz] at hcv
  have R2 := Lib.hid (R0.out.below hb1)
  have B2 := Lib.hid (Below.and B0.out hb1)
  generalize grownCap (w.alloc (.cells #[.int .u8 0] 5)) h.length 0 5 = gc at *
  generalize Lib.bytesWorld (w.alloc (.cells #[.int .u8 0] 5)) 5 ⟨h.toArray⟩ = w2 at *
  rw [hz0] at hcv hr1
  have hl3 : (0 :: fillB h 2).length = h.length + 3 := by rw [List.length_cons, hf]
  have CP : Hid (Calls Tryz.prog 62 #[.slice (some ⟨w.heap.size, 0, none⟩) 1 1, .int .i64 2, .slice (some ⟨w.heap.size + 1, 0, none⟩) h.length gc] w2 fun e w' => ∃ (A' : Option Addr) (c' : Nat), e = .returned (.slice A' (h.length + 3) c') ∧ RowG w' w.heap.size A' c' (0 :: fillB h 2) ∧ Below w.heap.size w2 w') :=
    Lib.hid ((part_prog (A := some ⟨w.heap.size, 0, none⟩) (q := 1) (m := h.length) 2 R2.out rfl rfl B2.out.size (by decide) (by omega) (by decide) (safe_row hr1 fun g e => by cases e; omega)).mono fun e w' hg => by
      obtain ⟨A', c', rfl, h1, h2⟩ := hg
      exact ⟨A', c', by rw [hf, List.length_singleton, show 1 + (h.length + 2) = h.length + 3 by omega], h1, h2.below⟩)
  have C2 : Hid (∀ (w3 : World) (A3 : Option Addr) (c3 : Nat), RowG w3 w.heap.size A3 c3 (0 :: fillB h 2) → Below w.heap.size w w3 → Calls Tryz.prog 62 #[.slice none 0 0, .int .i64 2, .slice A3 (h.length + 3) c3] w3 fun e w' => ∃ (A' : Option Addr) (c' : Nat), e = .returned (.slice A' (encN h).length c') ∧ RowG w' w.heap.size A' c' (encN h) ∧ Below w.heap.size w3 w') :=
    Lib.hid fun w3 A3 c3 hr3 hb3 => (part_prog (A := none) (q := 0) (m := h.length + 3) (l := []) 2 (RowG.nil w3 _) rfl hl3 hb3.size (by decide) (by omega) (by decide) (safe_row hr3 fun g e => by cases e)).mono fun e w' hg => by
      obtain ⟨A', c', rfl, h1, h2⟩ := hg
      rw [List.nil_append, ← HE.out] at h1
      exact ⟨A', c', by rw [List.length_nil, Nat.zero_add, HE.out], h1, h2.below⟩
  clear hsz hr1 hb1 hz0 hl3 hf HE
  unfold MadeP
  go_enter Tryz.func86, Tryz.ntmps86
  go_wp2_with fail
  refine CP.out.mono ?_
  rintro e w3 ⟨A3, c3, rfl, hr3, hb3⟩
  have R3 := Lib.hid hr3
  have B3 := Lib.hid (B2.out.trans hb3)
  clear hr3 hb3
  go_wp2_with fail
  refine (C2.out w3 A3 c3 R3.out B3.out).mono ?_
  rintro e w4 ⟨A4, c4, rfl, hr4, hb4⟩
  have R4 := Lib.hid hr4
  have B4 := Lib.hid (B3.out.trans hb4)
  clear hr4 hb4
  go_wp2_with fail
  go_ret
  exact ⟨A4, c4, rfl, R4.out, B4.out⟩
theorem encX_take {l : List (Int × List UInt8)} {k : Nat} (hk : k < l.length) : encX (l.take (k + 1)) = encX (l.take k) ++ rowB l[k].1.toNat 2 ++ fillB l[k].2 2 := by
  rw [List.take_succ_eq_append_getElem hk, encX_app, encX_cons, encX_nil, List.append_nil]
  unfold encE
  rw [List.append_assoc]
theorem encX_take_le (l : List (Int × List UInt8)) (k : Nat) : (encX (l.take k)).length ≤ (encX l).length := by
  conv => rhs; rw [← List.take_append_drop k l, encX_app, List.length_append]
  omega
theorem encX_data_le {l : List (Int × List UInt8)} {k : Nat} (hk : k < l.length) : l[k].2.length ≤ (encX l).length := by
  have h := encX_take_le l (k + 1)
  rw [encX_take hk] at h
  unfold fillB at h
  simp only [List.length_append] at h
  omega
set_option maxRecDepth 100000 in
set_option maxHeartbeats 400000 in
theorem extBytes_prog {w : World} {A : Option Addr} {c n : Nat} {l : List (Int × List UInt8)} (h : ExtsIn w.heap.size w A l) (hn : n = l.length) (hl : (encX l).length ≤ 1000000) (h0 : ∀ x ∈ l, 0 ≤ x.1) :
    Calls Tryz.prog 87 #[.slice A n c] w (MadeP (encX l) w) := by
  subst hn
  have hll := encX_many l
  have HN := Lib.hid h
  have H0 : Hid (∀ k (hk : k < l.length), l[k].1 = ((l[k].1.toNat : Nat) : Int)) := Lib.hid fun k hk => by have := h0 _ (List.getElem_mem hk); omega
  unfold MadeP
  clear h h0
  go_enter Tryz.func87, Tryz.ntmps87
  go_wp2_with fail
  go_loopw [3, 8] (fun v i wr => ∃ (k : Nat) (A' : Option Addr) (c' : Nat), k ≤ l.length ∧ i = .int .i64 k ∧ v = .slice A' (encX (l.take k)).length c' ∧ RowG wr w.heap.size A' c' (encX (l.take k)) ∧ Below w.heap.size w wr) (fun _ i _ => l.length - (intOf i).toNat)
  case atStart => exact ⟨0, none, 0, Nat.zero_le _, rfl, rfl, RowG.nil _ _, Below.refl _ _⟩
  case round =>
    obtain ⟨k, A', c', hk, rfl, rfl, hown, hb⟩ := hrel
    by_cases hlt : k < l.length
    · obtain ⟨b, off, Ad, cd, rfl, _, hc0, hc1, hd⟩ := HN.out.keep (fun j hj => hb.block j hj) hb.size k hlt
      have q0 : (0 : Int) ≤ k := by omega
      have q1 : (k : Int) < l.length := by omega
      have hel := encX_take_le l k
      have hdl := encX_data_le hlt
      have HS := Lib.hid (encX_take hlt)
      have e0 := H0.out k hlt
      rw [e0] at hc0
      have hwlt : w.heap.size ≤ wr.heap.size := hb.size
      have HD : Hid (Rb w.heap.size wr Ad cd l[k].2) := Lib.hid (by
        obtain ⟨b', off', Ad', cd', _, _, _, hc1', hd'⟩ := HN.out k hlt
        obtain ⟨b2, off2, Ad2, cd2, e2, hl2, _, hc2, _⟩ := HN.out k hlt
        cases e2
        have : wr.cell? ⟨b, off + k * 2 + 1, none⟩ = w.cell? ⟨b, off + k * 2 + 1, none⟩ := by unfold World.cell?; rw [hb.block b hl2]
        rw [this, hc2] at hc1
        have hc1 := Option.some.inj hc1
        cases hc1
        rename_i hdd
        exact hdd.keep fun j hj => hb.block j hj)
      have HW := Lib.hid hown
      have HB := Lib.hid hb
      clear hown hb hd e0
      have hrl := rowB_len l[k].1.toNat 2
      generalize l[k].1.toNat = y at *
      generalize l[k].2 = D at *
      generalize encX (l.take k) = R at *
      have hlt1 : wr.heap.size < (wr.alloc (.cells #[.int .i64 y, .slice Ad D.length cd] 62)).heap.size := by simp
      have HA : Hid (A' ≠ some ⟨wr.heap.size, 0, none⟩) := Lib.hid fun e => by have := (HW.out.lt e).2; omega
      have hbox := Lib.hid (gw_new (base := w.heap.size) wr A' (.cells #[.int .i64 y, .slice Ad D.length cd] 62) hwlt)
      have CN := Lib.hid (number_prog (base := w.heap.size) y 2 (HW.out.below (below_new wr (.cells #[.int .i64 y, .slice Ad D.length cd] 62))) rfl (Nat.le_trans hwlt (below_new wr _).size) (by omega) (by decide))
      have HC : Hid ((wr.alloc (.cells #[.int .i64 y, .slice Ad D.length cd] 62)).cell? ⟨wr.heap.size, 1, none⟩ = some (.slice Ad D.length cd)) := Lib.hid (by rw [World.cell?_alloc_at _ _ _ _ rfl]; rfl)
      unfold GrewP at CN
      go_wp2_with (go_at_call 84; refine CN.out.mono ?_; rintro e w1 ⟨A1, c1, rfl, hr1, hb1⟩; have d1 : w1.cell? ⟨wr.heap.size, 1, none⟩ = some (.slice Ad D.length cd) := (by refine Eq.trans ?_ HC.out; unfold World.cell?; rw [hb1.old _ hlt1 HA.out]); have R1 := Lib.hid hr1; have B1 := Lib.hid (hbox.out.trans hb1); clear hr1 hb1)
      have C2 := Lib.hid (part_prog 2 R1.out (List.length_append ..) rfl (Nat.le_trans hwlt B1.out.below.size) (by rw [List.length_append]; omega) (by omega) (by decide) (safe_old R1.out (HD.out.keep fun j hj => B1.out.below.block j hj) (Nat.le_trans hwlt B1.out.below.size)))
      unfold GrewP at C2
      refine C2.out.mono ?_
      rintro e w2 ⟨A2, c2, rfl, hr2, hb2⟩
      have R2 := Lib.hid hr2
      have B2 := Lib.hid (B1.out.trans hb2)
      clear hr2 hb2
      go_wp2_with fail
      go_roundw
      case rel => exact ⟨k + 1, A2, c2, by omega, by go_num, by rw [HS.out, List.length_append, List.length_append, rowB_len], by rw [HS.out]; exact R2.out, HB.out.trans B2.out.below⟩
      case measure => simp [intOf]; omega
    · obtain rfl : l.length = k := by omega
      rw [List.take_length] at hown
      rw [List.take_length]
      have HW := Lib.hid hown
      have HB := Lib.hid hb
      clear hown hb
      go_wp2_with fail
      go_ret
      exact ⟨A', c', rfl, HW.out, HB.out⟩
end Go.Proofs.YtiakbmllpnabnaaGreatDoor
