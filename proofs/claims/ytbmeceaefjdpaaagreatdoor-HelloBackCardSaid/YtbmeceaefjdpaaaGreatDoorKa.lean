/- Rows that a call owns, of whatever cells: append. -/
import Derived.Test.YtbmeceaefjdpaaaGreatDoorJg
import Derived.Test.YtbmeceaefjdpaaaGreatDoorJp
namespace Go.Proofs.YtbmeceaefjdpaaaGreatDoor
open Go Go.RowKit

/-- 'n' elements of 'sz' cells each, in a block of the call's own -/
structure RowV (sz : Nat) (w : World) (base : Nat) (A : Option Addr) (n c : Nat) (vs : List Value) : Prop where
  len : vs.length = n * sz
  le : n ≤ c
  most : c ≤ maxLen
  at_ : (A = none ∧ c = 0) ∨ ∃ g, A = some ⟨g, 0, none⟩ ∧ base ≤ g ∧ g < w.heap.size ∧ (∀ j, j < c * sz → (w.cell? ⟨g, j, none⟩).isSome = true ∧ w.frozen? ⟨g, j, none⟩ = false) ∧ ∀ j (h : j < vs.length), w.cell? ⟨g, j, none⟩ = some vs[j]
theorem RowV.nil (sz : Nat) (w : World) (base : Nat) : RowV sz w base none 0 0 [] := ⟨by simp, Nat.le_refl _, Nat.zero_le _, .inl ⟨rfl, rfl⟩⟩
theorem RowV.keep {sz : Nat} {w w' : World} {base : Nat} {A : Option Addr} {n c : Nat} {vs : List Value} (h : RowV sz w base A n c vs) (hs : w.heap.size ≤ w'.heap.size) (hb : ∀ g, A = some ⟨g, 0, none⟩ → w'.heap[g]? = w.heap[g]?) : RowV sz w' base A n c vs := by
  refine ⟨h.len, h.le, h.most, ?_⟩
  rcases h.at_ with h1 | ⟨g, rfl, h1, h2, h3, h4⟩
  · exact .inl h1
  · have e := hb g rfl
    refine .inr ⟨g, rfl, h1, Nat.lt_of_lt_of_le h2 hs, fun j hj => ?_, fun j hj => ?_⟩
    · have := h3 j hj
      unfold World.cell? World.frozen? at *
      rw [e]
      exact this
    · have := h4 j hj
      unfold World.cell? at *
      rw [e]
      exact this
theorem RowV.lt {sz : Nat} {w : World} {base : Nat} {A : Option Addr} {n c : Nat} {vs : List Value} (h : RowV sz w base A n c vs) {g : Nat} (e : A = some ⟨g, 0, none⟩) : base ≤ g ∧ g < w.heap.size := by
  rcases h.at_ with ⟨rfl, _⟩ | ⟨g', rfl, h1, h2, _⟩
  · cases e
  · cases e; exact ⟨h1, h2⟩
theorem RowV.below {sz : Nat} {w w' : World} {base : Nat} {A : Option Addr} {n c : Nat} {vs : List Value} (h : RowV sz w base A n c vs) (hb : Below w.heap.size w w') : RowV sz w' base A n c vs :=
  h.keep hb.size fun g e => hb.block g (h.lt e).2
theorem RowV.up {sz : Nat} {w : World} {base base' : Nat} {A : Option Addr} {n c : Nat} {vs : List Value} (h : RowV sz w base A n c vs) (hb : base' ≤ base) : RowV sz w base' A n c vs := by
  refine ⟨h.len, h.le, h.most, ?_⟩
  rcases h.at_ with h1 | ⟨g, e, h1, h2⟩
  · exact .inl h1
  · exact .inr ⟨g, e, Nat.le_trans hb h1, h2⟩
/-- a cell of it -/
theorem RowV.rd {sz : Nat} {w : World} {base : Nat} {A : Option Addr} {n c : Nat} {vs : List Value} (h : RowV sz w base A n c vs) (j : Nat) (hj : j < vs.length) : ∃ g, A = some ⟨g, 0, none⟩ ∧ base ≤ g ∧ g < w.heap.size ∧ w.cell? ⟨g, j, none⟩ = some vs[j] := by
  rcases h.at_ with ⟨rfl, rfl⟩ | ⟨g, rfl, h1, h2, _, h4⟩
  · have h1 := h.len
    have h2 := h.le
    obtain rfl : n = 0 := by omega
    simp at h1
    rw [h1] at hj; simp at hj
  · exact ⟨g, rfl, h1, h2, h4 j hj⟩
theorem run_pushV {sz : Nat} (w : World) (base : Nat) (S E tx ty : TypeId) (i0 : TypeInfo) (z0 : Value) (bz : Nat) (hS : Tryz.prog.underlying S = some (.slice E)) (hi : Tryz.prog.info? E = some i0) (hz0 : i0.zero = some z0) (hz1 : i0.size = sz) (hz2 : i0.bytes = bz) (hzc : z0.cells.size = sz) (hbz : bz ≤ 40)
    (A : Option Addr) (n c m : Nat) (vs news : List Value) (x : Value) (h : RowV sz w base A n c vs) (hx : Src Tryz.prog sz tx x m news w) (hm : news.length = m * sz) (hbase : base ≤ w.heap.size) (hlen : n + m ≤ 1000000000000) :
    ∃ (A' : Option Addr) (c' : Nat) (w' : World), (Builtin.append_ #[S, tx] ty #[.slice A n c, x]).run Tryz.prog w = .ok (.slice A' (n + m) c') w' ∧ RowV sz w' base A' (n + m) c' (vs ++ news) ∧ Below base w w' ∧ (∀ k, k < w.heap.size → A ≠ some ⟨k, 0, none⟩ → w'.heap[k]? = w.heap[k]?) ∧ (A' = A ∨ ∃ k, w.heap.size ≤ k ∧ A' = some ⟨k, 0, none⟩) := by
  have hx' : Src Tryz.prog i0.size tx x m news w := by rw [hz1]; exact hx
  have hvl := h.len
  have hbig : ∀ c0, c0 < n + m → Builtin.nextslicecap (n + m) c0 * i0.bytes ≤ 281474976710656 := fun c0 hc0 => by
    rw [hz2]
    exact growslice_fits hc0 (Nat.le_trans (Nat.mul_le_mul hlen hbz) (by decide))
  have grown : (olds : List Value) → olds = vs → (old : Nat) → old < n + m →
      RowV sz (w.drew.alloc (.cells ((olds ++ news).toArray ++ Builtin.zeroCells z0.cells (grownCap w (n + m) old E - (n + m))) E)) base (some ⟨w.heap.size, 0, none⟩) (n + m) (grownCap w (n + m) old E) (vs ++ news) ∧
      Below base w (w.drew.alloc (.cells ((olds ++ news).toArray ++ Builtin.zeroCells z0.cells (grownCap w (n + m) old E - (n + m))) E)) := by
    intro olds ho old hold
    subst ho
    have hge := grownCap_ge w (n + m) old E
    have hcm : grownCap w (n + m) old E ≤ maxLen := grownCap_le_maxLen w (n + m) old E (by unfold maxLen; omega)
    have hl2 : (olds ++ news).length = (n + m) * sz := by rw [List.length_append, hvl, hm, Nat.add_mul]
    have e : (w.drew.alloc (.cells ((olds ++ news).toArray ++ Builtin.zeroCells z0.cells (grownCap w (n + m) old E - (n + m))) E)).heap[w.heap.size]? = some (.cells ((olds ++ news).toArray ++ Builtin.zeroCells z0.cells (grownCap w (n + m) old E - (n + m))) E) := heap_alloc_new w.drew _
    have hsz : ((olds ++ news).toArray ++ Builtin.zeroCells z0.cells (grownCap w (n + m) old E - (n + m))).size = grownCap w (n + m) old E * sz := by
      rw [Array.size_append, size_zeroCells, hzc, List.size_toArray, hl2, ← Nat.add_mul, Nat.add_sub_of_le hge]
    refine ⟨⟨hl2, hge, hcm, .inr ⟨w.heap.size, rfl, hbase, ?_, fun j hj => ?_, fun j hj => ?_⟩⟩, (below_drewN (Below.refl base w) 1).alloc hbase _⟩
    · show _ < (w.heap.push _).size; simp
    · unfold World.cell? World.frozen?
      rw [e]
      generalize (olds ++ news).toArray ++ Builtin.zeroCells z0.cells (grownCap w (n + m) old E - (n + m)) = arr at *
      have hj' : j < arr.size := by rw [hsz]; exact hj
      simp [hj']
    · unfold World.cell?
      rw [e]
      show (((olds ++ news).toArray ++ _)[j]?) = _
      rw [Array.getElem?_append_left (by simpa using hj)]
      simp only [List.getElem?_toArray]
      rw [List.getElem?_eq_getElem hj]
  rcases h.at_ with ⟨rfl, rfl⟩ | ⟨g, rfl, hb, hlt, hcs, hcl⟩
  · have hn0 : n = 0 := by have := h.le; omega
    subst hn0
    have hl0 : vs = [] := List.eq_nil_of_length_eq_zero (by rw [hvl, Nat.zero_mul])
    subst hl0
    by_cases h0 : m = 0
    · subst h0
      have hz' : news = [] := List.eq_nil_of_length_eq_zero (by rw [hm, Nat.zero_mul])
      subst hz'
      exact ⟨none, 0, w, run_append_nothing (P := Tryz.prog) w S tx ty E i0 hS hi none 0 0 (Nat.le_refl _) x hx', h, Below.refl _ _, fun _ _ _ => rfl, .inl rfl⟩
    · have hr := run_append_grow_src (P := Tryz.prog) w S tx ty E i0 z0 hS hi hz0 none 0 0 [] (by simp [Builtin.firstCells]) x m news hx' (by omega) (by omega) (hbig 0 (by omega))
      obtain ⟨g1, g2⟩ := grown [] rfl 0 (by omega)
      exact ⟨_, _, _, hr, g1, g2, fun k hk _ => heap_alloc_old w.drew _ hk, .inr ⟨w.heap.size, Nat.le_refl _, rfl⟩⟩
  · by_cases hroom : n + m ≤ c
    · have hin : ∀ j, j < news.length → n * sz + j < c * sz := fun j hj => by
        rw [hm] at hj
        have : (n + m) * sz ≤ c * sz := Nat.mul_le_mul_right _ hroom
        rw [Nat.add_mul] at this
        omega
      have hr := run_append_room_src (P := Tryz.prog) w S tx ty E i0 hS hi g 0 n c x m news hx' hroom
        (fun j hj => by rw [hz1, Nat.zero_add]; exact (hcs _ (hin j hj)).1) (fun j hj => by rw [hz1, Nat.zero_add]; exact (hcs _ (hin j hj)).2)
      rw [hz1, Nat.zero_add] at hr
      obtain ⟨s1, s2, s3, s4, s5⟩ := setCells_same g news (n * sz) w
      refine ⟨_, _, _, hr, ⟨by rw [List.length_append, hvl, hm, Nat.add_mul], hroom, h.most, .inr ⟨g, rfl, hb, by rw [s4]; exact hlt, fun j hj => ⟨?_, ?_⟩, fun j hj => ?_⟩⟩, ⟨s1, s2, s3, by rw [s4]; exact Nat.le_refl _, fun k hk => s5 k (by omega)⟩, fun k _ hk => s5 k (fun e => hk (by rw [e])), .inl rfl⟩
      · exact World.isSome_setCells g _ _ w _ (hcs j hj).1
      · rw [World.frozen?_setCells]; exact (hcs j hj).2
      · by_cases hjl : j < vs.length
        · rw [World.cell?_setCells_out g _ _ w _ (fun _ _ => .inl (by show j < n * sz; omega)), hcl j hjl, List.getElem_append_left hjl]
        · have hjz : j - n * sz < news.length := by rw [List.length_append] at hj; omega
          have := World.cell?_setCells_in g news (n * sz) w (fun i hi => (hcs _ (hin i hi)).1) (j - n * sz) hjz
          rw [show n * sz + (j - n * sz) = j by omega] at this
          rw [this, List.getElem_append_right (by omega)]
          simp only [hvl]
    · have hr := run_append_grow_src (P := Tryz.prog) w S tx ty E i0 z0 hS hi hz0 (some ⟨g, 0, none⟩) n c vs
        (by
          rw [hz1]
          exact run_firstCells_some w.drew sz n ⟨g, 0, none⟩ n c vs hvl (fun j u hj => by
            have hjl : j < vs.length := (List.getElem?_eq_some_iff.1 hj).1
            show w.cell? _ = _
            rw [add_pl, Nat.zero_add, hcl j hjl, ← hj, List.getElem?_eq_getElem hjl])) x m news hx' (by omega) (by omega) (hbig c (by omega))
      obtain ⟨g1, g2⟩ := grown _ rfl c (by omega)
      exact ⟨_, _, _, hr, g1, g2, fun k hk _ => heap_alloc_old w.drew _ hk, .inr ⟨w.heap.size, Nat.le_refl _, rfl⟩⟩
theorem wpList_pushV {sz : Nat} {ops : Array Oper} {rest : List Oper} {o : Oper} {a : Act} {Q : Exit → Act → World → Prop} (hgd : o.guard = none) (s x : Operand) (S E tx : TypeId)
    (ho : o.op = .call { callee := .builtin .append, args := #[s, x], argTypes := #[S, tx] }) (i0 : TypeInfo) (z0 : Value) (bz : Nat) (hS : Tryz.prog.underlying S = some (.slice E)) (hi : Tryz.prog.info? E = some i0) (hz0 : i0.zero = some z0) (hz1 : i0.size = sz) (hz2 : i0.bytes = bz) (hzc : z0.cells.size = sz) (hbz : bz ≤ 40)
    (w : World) (base : Nat) (A : Option Addr) (c n m : Nat) (vs news : List Value) (xv : Value) (hm : news.length = m * sz)
    (hs : a.eval s = .slice A n c) (hx : a.eval x = xv) (h : RowV sz w base A n c vs) (hsrc : Src Tryz.prog sz tx xv m news w) (hbase : base ≤ w.heap.size) (hlen : n + m ≤ 1000000000000)
    (hk : ∀ (A' : Option Addr) (c' : Nat) w', RowV sz w' base A' (n + m) c' (vs ++ news) → Below base w w' → (∀ k, k < w.heap.size → A ≠ some ⟨k, 0, none⟩ → w'.heap[k]? = w.heap[k]?) → wpList Tryz.prog ops Q rest (a.put o.dst (.slice A' (n + m) c')) w') :
    wpList Tryz.prog ops Q (o :: rest) a w := by
  refine wpList_plain hgd fun K hK => ?_
  obtain ⟨A', c', w', hr, h2, h3, h4, _⟩ := run_pushV w base S E tx o.type i0 z0 bz hS hi hz0 hz1 hz2 hzc hbz A n c m vs news xv h hsrc hm hbase hlen
  unfold Oper.wp execOp
  simp only [ho, resolve, invoke, builtin, Sem.run_bind, Sem.run_pure, Result.andThen_ok, List.map_toArray, List.map_cons, List.map_nil, hs, hx, hr]
  exact hK _ _ (hk A' c' w' h2 h3 h4)
/-- one element, in a block of its own -/
theorem src_one {sz : Nat} {w : World} {S E : TypeId} (hS : Tryz.prog.underlying S = some (.slice E)) (g : Nat) (vs : List Value) (hl : vs.length = sz) (hc : ∀ j (h : j < vs.length), w.cell? ⟨g, j, none⟩ = some vs[j]) (h1 : ∀ v ∈ vs, v.oneCell' = true) : Src Tryz.prog sz S (.slice (some ⟨g, 0, none⟩) 1 1) 1 vs w :=
  Src.ofSlice w hS ⟨g, 0, none⟩ 1 1 vs (by rw [hl, Nat.one_mul]) (fun j u hj => by
    have hjl : j < vs.length := (List.getElem?_eq_some_iff.1 hj).1
    rw [add_pl, Nat.zero_add, hc j hjl, ← hj, List.getElem?_eq_getElem hjl]) h1
end Go.Proofs.YtbmeceaefjdpaaaGreatDoor
