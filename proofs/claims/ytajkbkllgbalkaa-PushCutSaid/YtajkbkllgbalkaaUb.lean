/- Rows of bytes and of texts: what a slice holds, rows of a call's own, append, CopyBytes, EqBytes. -/
import Derived.Test.YtajkbkllgbalkaaUp
import Derived.Test.YtajkbkllgbalkaaWd
import Derived.Deep.MidRow
import Derived.Lib.ConvBytes
import Derived.Deep.Upon
import Derived.Lib.AppendIntMem
import Derived.Shelf.Bytes.SlEqualAll
namespace Go.Proofs.Ytajkbkllgbalkaa
open Go Go.RowKit

theorem add_pl (b off i : Nat) : (⟨b, off, none⟩ : Addr).add i = ⟨b, off + i, none⟩ := by unfold Addr.add; split <;> simp_all
theorem below_new (w : World) (o : Obj) : Below w.heap.size w (w.alloc o) := (Below.refl _ _).alloc (Nat.le_refl _) o
/-- Bytes that a slice holds, in blocks below 'D'. -/
structure Rb (D : Nat) (w : World) (A : Option Addr) (c : Nat) (x : List UInt8) : Prop where
  cap : x.length ≤ c
  nil : A = none → c = 0
  rd : ∀ i (hi : i < x.length), ∃ b off, A = some ⟨b, off, none⟩ ∧ b < D ∧ w.cell? ⟨b, off + i, none⟩ = some (.int .u8 (x[i].toNat : Int))
theorem Rb.keep {D : Nat} {w w' : World} {A : Option Addr} {c : Nat} {x : List UInt8} (h : Rb D w A c x) (hb : ∀ k, k < D → w'.heap[k]? = w.heap[k]?) : Rb D w' A c x :=
  ⟨h.cap, h.nil, fun i hi => by
    obtain ⟨b, off, e, hl, hc⟩ := h.rd i hi
    refine ⟨b, off, e, hl, Eq.trans ?_ hc⟩
    unfold World.cell?
    rw [hb b hl]⟩
theorem Rb.mono {D D' : Nat} {w : World} {A : Option Addr} {c : Nat} {x : List UInt8} (h : Rb D w A c x) (hD : D ≤ D') : Rb D' w A c x :=
  ⟨h.cap, h.nil, fun i hi => by obtain ⟨b, off, e, hl, hc⟩ := h.rd i hi; exact ⟨b, off, e, Nat.lt_of_lt_of_le hl hD, hc⟩⟩
theorem Rb.take {D : Nat} {w : World} {A : Option Addr} {c : Nat} {x : List UInt8} (h : Rb D w A c x) (k : Nat) : Rb D w A c (x.take k) :=
  ⟨Nat.le_trans (by rw [List.length_take]; omega) h.cap, h.nil, fun i hi => by
    have hi' : i < x.length := by rw [List.length_take] at hi; omega
    obtain ⟨b, off, e, hl, hc⟩ := h.rd i hi'
    exact ⟨b, off, e, hl, hc.trans (by simp)⟩⟩
theorem Rb.drop {D : Nat} {w : World} {A : Option Addr} {c : Nat} {x : List UInt8} (h : Rb D w A c x) (k : Nat) (hk : k ≤ x.length) :
    Rb D w (if c = k then A else A.map fun a => a.add k) (c - k) (x.drop k) := by
  have hc := h.cap
  refine ⟨by rw [List.length_drop]; omega, fun e => ?_, fun i hi => ?_⟩
  · split at e
    · omega
    · have := h.nil (by simpa using e); omega
  · have hi' : k + i < x.length := by rw [List.length_drop] at hi; omega
    obtain ⟨b, off, e, hl, hcl⟩ := h.rd (k + i) hi'
    rw [if_neg (by omega), e]
    refine ⟨b, off + k, by rw [Option.map_some, add_pl], hl, ?_⟩
    rw [Nat.add_assoc, hcl]
    simp
/-- as the shelf has it -/
def ints (x : List UInt8) : List Int := x.map fun c => (c.toNat : Int)
theorem ints_len (x : List UInt8) : (ints x).length = x.length := List.length_map _
theorem ints_of (x : List UInt8) : Lib.bytesOf (ints x) = x := by
  unfold Lib.bytesOf ints
  rw [List.map_map]
  conv => rhs; rw [← List.map_id x]
  refine List.map_congr_left fun c _ => ?_
  simp
theorem ints_range (x : List UInt8) : ∀ n ∈ ints x, 0 ≤ n ∧ n < 256 := fun n hn => by
  obtain ⟨c, _, rfl⟩ := List.mem_map.1 hn
  have := c.toNat_lt
  constructor <;> omega
theorem ints_at (x : List UInt8) (i : Nat) (hi : i < x.length) : (ints x).getD i 0 = (x[i].toNat : Int) := by
  unfold ints
  rw [List.getD_eq_getElem?_getD, List.getElem?_eq_getElem (by rw [List.length_map]; exact hi)]
  simp
theorem Rb.bytesIn {D : Nat} {w : World} {A : Option Addr} {c : Nat} {x : List UInt8} (h : Rb D w A c x) : Lib.BytesIn w A x.length (ints x) := fun hn => by
  obtain ⟨b, off, e, _, _⟩ := h.rd 0 hn
  refine ⟨b, off, e, fun i hi => ?_⟩
  obtain ⟨b', off', e', _, hc⟩ := h.rd i hi
  cases e.symm.trans e'
  rw [hc, ints_at x i hi]
theorem Rb.conv {D : Nat} {w : World} {A : Option Addr} {c : Nat} {x : List UInt8} (h : Rb D w A c x) : (convert 26 9 (.slice A x.length c)).run Try.prog w = .ok (.string ⟨x.toArray⟩) w := by
  have := Lib.BytesIn.convert h.bytesIn (ints_len x) c 26 5 9 Try.underlying26 Try.underlying5 Try.underlying9
  rw [show strOfNums (ints x) = ⟨x.toArray⟩ from congrArg (fun l : List UInt8 => (⟨l.toArray⟩ : ByteArray)) (ints_of x)] at this
  exact this

structure RowG (w : World) (base : Nat) (A : Option Addr) (c : Nat) (l : List UInt8) : Prop where
  le : l.length ≤ c
  most : c ≤ maxLen
  at_ : (A = none ∧ c = 0) ∨ ∃ g, A = some ⟨g, 0, none⟩ ∧ base ≤ g ∧ g < w.heap.size ∧ (∀ j, j < c → (w.cell? ⟨g, j, none⟩).isSome = true ∧ w.frozen? ⟨g, j, none⟩ = false) ∧ ∀ j (h : j < l.length), w.cell? ⟨g, j, none⟩ = some (.int .u8 (l[j].toNat : Int))
theorem RowG.nil (w : World) (base : Nat) : RowG w base none 0 [] := ⟨Nat.le_refl _, Nat.zero_le _, .inl ⟨rfl, rfl⟩⟩
theorem RowG.rb {w : World} {base : Nat} {A : Option Addr} {c : Nat} {l : List UInt8} (h : RowG w base A c l) : Rb w.heap.size w A c l := by
  rcases h.at_ with ⟨rfl, rfl⟩ | ⟨g, rfl, hb, hlt, _, hc⟩
  · have : l = [] := List.eq_nil_of_length_eq_zero (by have := h.le; omega)
    subst this
    exact ⟨Nat.le_refl _, fun _ => rfl, fun i hi => by simp at hi⟩
  · exact ⟨h.le, (fun e => (by cases e)), fun i hi => ⟨g, 0, rfl, hlt, by rw [Nat.zero_add]; exact hc i hi⟩⟩
theorem RowG.keep {w w' : World} {base : Nat} {A : Option Addr} {c : Nat} {l : List UInt8} (h : RowG w base A c l) (hs : w.heap.size ≤ w'.heap.size) (hb : ∀ g, A = some ⟨g, 0, none⟩ → w'.heap[g]? = w.heap[g]?) : RowG w' base A c l := by
  refine ⟨h.le, h.most, ?_⟩
  rcases h.at_ with h1 | ⟨g, rfl, h1, h2, h3, h4⟩
  · exact .inl h1
  · have e := hb g rfl
    refine .inr ⟨g, rfl, h1, Nat.lt_of_lt_of_le h2 hs, fun j hj => ?_, fun j hj => ?_⟩
    · have := h3 j hj
      unfold World.cell? World.frozen? at *
      rw [e]
      exact this
    · have := h4 j hj
      unfold World.cell? at *
      rw [e]
      exact this
theorem RowG.lt {w : World} {base : Nat} {A : Option Addr} {c : Nat} {l : List UInt8} (h : RowG w base A c l) {g : Nat} (e : A = some ⟨g, 0, none⟩) : base ≤ g ∧ g < w.heap.size := by
  rcases h.at_ with ⟨rfl, _⟩ | ⟨g', rfl, h1, h2, _⟩
  · cases e
  · cases e; exact ⟨h1, h2⟩
theorem RowG.below {w w' : World} {base : Nat} {A : Option Addr} {c : Nat} {l : List UInt8} (h : RowG w base A c l) (hb : Below w.heap.size w w') : RowG w' base A c l :=
  h.keep hb.size fun g e => hb.block g (h.lt e).2
theorem RowG.up {w : World} {base base' : Nat} {A : Option Addr} {c : Nat} {l : List UInt8} (h : RowG w base A c l) (hb : base' ≤ base) : RowG w base' A c l := by
  refine ⟨h.le, h.most, ?_⟩
  rcases h.at_ with h1 | ⟨g, e, h1, h2⟩
  · exact .inl h1
  · exact .inr ⟨g, e, Nat.le_trans hb h1, h2⟩
theorem OwnB.rowG {w : World} {base : Nat} {v : Value} {l : List UInt8} (h : OwnB w base v l) : ∃ A c, v = .slice A l.length c ∧ RowG w base A c l := by
  rcases h.2 with ⟨rfl, h0⟩ | ⟨g, cap, cur, rfl, hb, hg, hnc, hcm, hsz, ht⟩
  · have : l = [] := List.eq_nil_of_length_eq_zero h0
    subst this
    exact ⟨none, 0, rfl, RowG.nil _ _⟩
  · refine ⟨_, cap, rfl, hnc, hcm, .inr ⟨g, rfl, hb, (Array.getElem?_eq_some_iff.1 hg).1, fun j hj => ?_, fun j hj => ?_⟩⟩
    · unfold World.cell? World.frozen?
      rw [hg]
      have hj' : j < cur.size := by rw [hsz]; omega
      simp [hj']
    · have := World.ownsRow.cells h (g := g) rfl j (.int .u8 (l[j].toNat : Int)) (by simp [Lib.byteCells, hj])
      rw [add_pl, Nat.zero_add] at this
      exact this
/-- what '[]byte(s)' makes -/
theorem conv_rowG (w : World) (l : List UInt8) (hl : l.length ≤ 140737488355328) : RowG (Lib.bytesWorld w 5 ⟨l.toArray⟩) w.heap.size (some ⟨w.heap.size, 0, none⟩) (grownCap w l.length 0 5) l := by
  have hsz := mk_size l
  have hge := grownCap_ge w l.length 0 5
  refine ⟨hge, grownCap_le_maxLen w l.length 0 5 (by unfold maxLen; omega), .inr ⟨w.heap.size, rfl, Nat.le_refl _, by rw [Lib.bytesWorld_size]; omega, fun j hj => ?_, fun j hj => ?_⟩⟩
  · have hcs : (Lib.bytesCells w 5 ⟨l.toArray⟩).size = grownCap w l.length 0 5 := by
      unfold Lib.bytesCells
      rw [Array.size_append, Array.size_map]
      simp
      rw [hsz]
      omega
    unfold World.cell? World.frozen?
    rw [Lib.bytesWorld_at_new]
    have hj' : j < (Lib.bytesCells w 5 ⟨l.toArray⟩).size := by rw [hcs]; exact hj
    simp [hj']
    omega
  · rw [Lib.bytesWorld_cell w _ _ j (by rw [hsz]; exact hj), mk_toList, List.getD_eq_getElem?_getD, List.getElem?_eq_getElem hj]
    rfl
theorem setCells_same (b : Nat) : ∀ (vs : List Value) (o : Nat) (w : World), (w.setCells b o vs).os = w.os ∧ (w.setCells b o vs).tape = w.tape ∧ (w.setCells b o vs).output = w.output ∧ (w.setCells b o vs).heap.size = w.heap.size ∧ ∀ k, k ≠ b → (w.setCells b o vs).heap[k]? = w.heap[k]?
  | [], _, _ => ⟨rfl, rfl, rfl, rfl, fun _ _ => rfl⟩
  | v :: vs, o, w => by
    obtain ⟨h1, h2, h3, h4, h5⟩ := setCells_same b vs (o + 1) (w.setCell ⟨b, o, none⟩ v)
    exact ⟨h1, h2, h3, h4.trans (by simp), fun k hk => (h5 k hk).trans (Below.heap_setCell _ _ _ _ hk)⟩
/-- 'append(v, ..)', of whatever source -/
theorem run_pushG (w : World) (base : Nat) (ty tx : TypeId) (A : Option Addr) (c : Nat) (l z : List UInt8) (x : Value) (h : RowG w base A c l) (hx : Src Try.prog 1 tx x z.length (Lib.byteCells z) w) (hbase : base ≤ w.heap.size) (hlen : l.length + z.length ≤ 140737488355328) :
    ∃ (A' : Option Addr) (c' : Nat) (w' : World), (Builtin.append_ #[26, tx] ty #[.slice A l.length c, x]).run Try.prog w = .ok (.slice A' (l.length + z.length) c') w' ∧ RowG w' base A' c' (l ++ z) ∧ Below base w w' ∧ (∀ k, k < w.heap.size → A ≠ some ⟨k, 0, none⟩ → w'.heap[k]? = w.heap[k]?) ∧ (A' = A ∨ ∃ k, w.heap.size ≤ k ∧ A' = some ⟨k, 0, none⟩) := by
  obtain ⟨i0, hi, hz0, hz1, hz2⟩ := info_parts info5
  have hx' : Src Try.prog i0.size tx x z.length (Lib.byteCells z) w := by rw [hz1]; exact hx
  have grown : (olds : List Value) → olds = Lib.byteCells l → (old : Nat) → old < l.length + z.length →
      RowG (w.drew.alloc (.cells ((olds ++ Lib.byteCells z).toArray ++ Builtin.zeroCells (Value.int .u8 0).cells (grownCap w (l.length + z.length) old 5 - (l.length + z.length))) 5)) base (some ⟨w.heap.size, 0, none⟩) (grownCap w (l.length + z.length) old 5) (l ++ z) ∧
      Below base w (w.drew.alloc (.cells ((olds ++ Lib.byteCells z).toArray ++ Builtin.zeroCells (Value.int .u8 0).cells (grownCap w (l.length + z.length) old 5 - (l.length + z.length))) 5)) := by
    intro olds ho old hold
    subst ho
    have hge := grownCap_ge w (l.length + z.length) old 5
    have hcm : grownCap w (l.length + z.length) old 5 ≤ maxLen := grownCap_le_maxLen w (l.length + z.length) old 5 (by unfold maxLen; omega)
    refine ⟨⟨by rw [List.length_append]; exact hge, hcm, .inr ⟨w.heap.size, rfl, hbase, ?_, fun j hj => ?_, fun j hj => ?_⟩⟩, ?_⟩
    · show _ < (w.heap.push _).size; simp
    · have e : (w.drew.alloc (.cells ((Lib.byteCells l ++ Lib.byteCells z).toArray ++ Builtin.zeroCells (Value.int .u8 0).cells (grownCap w (l.length + z.length) old 5 - (l.length + z.length))) 5)).heap[w.heap.size]? = some (.cells ((Lib.byteCells l ++ Lib.byteCells z).toArray ++ Builtin.zeroCells (Value.int .u8 0).cells (grownCap w (l.length + z.length) old 5 - (l.length + z.length))) 5) := heap_alloc_new w.drew _
      have hsz : ((Lib.byteCells l ++ Lib.byteCells z).toArray ++ Builtin.zeroCells (Value.int .u8 0).cells (grownCap w (l.length + z.length) old 5 - (l.length + z.length))).size = grownCap w (l.length + z.length) old 5 := by
        rw [Array.size_append, size_zeroCells]
        simp only [List.size_toArray, List.length_append, Lib.byteCells_length]
        show _ + _ * 1 = _
        omega
      unfold World.cell? World.frozen?
      rw [e]
      generalize (Lib.byteCells l ++ Lib.byteCells z).toArray ++ Builtin.zeroCells (Value.int .u8 0).cells (grownCap w (l.length + z.length) old 5 - (l.length + z.length)) = arr at *
      have hj' : j < arr.size := by rw [hsz]; exact hj
      simp [hj']
    · have e : (w.drew.alloc (.cells ((Lib.byteCells l ++ Lib.byteCells z).toArray ++ Builtin.zeroCells (Value.int .u8 0).cells (grownCap w (l.length + z.length) old 5 - (l.length + z.length))) 5)).heap[w.heap.size]? = some (.cells ((Lib.byteCells l ++ Lib.byteCells z).toArray ++ Builtin.zeroCells (Value.int .u8 0).cells (grownCap w (l.length + z.length) old 5 - (l.length + z.length))) 5) := heap_alloc_new w.drew _
      unfold World.cell?
      rw [e]
      have e2 : (Lib.byteCells l ++ Lib.byteCells z) = Lib.byteCells (l ++ z) := by simp [Lib.byteCells]
      rw [e2]
      show (((Lib.byteCells (l ++ z)).toArray ++ _)[j]?) = _
      rw [Array.getElem?_append_left (by simp [Lib.byteCells]; simpa using hj)]
      simp only [List.getElem?_toArray]
      unfold Lib.byteCells
      rw [List.getElem?_map, List.getElem?_eq_getElem hj]
      rfl
    · exact (below_drewN (Below.refl base w) 1).alloc hbase _
  rcases h.at_ with ⟨rfl, rfl⟩ | ⟨g, rfl, hb, hlt, hcs, hcl⟩
  · have hl0 : l = [] := List.eq_nil_of_length_eq_zero (by have := h.le; omega)
    subst hl0
    by_cases h0 : z.length = 0
    · have hz' : z = [] := List.eq_nil_of_length_eq_zero h0
      subst hz'
      exact ⟨none, 0, w, run_append_nothing (P := Try.prog) w 26 tx ty 5 i0 Try.underlying26 hi none 0 0 (Nat.le_refl _) x hx', RowG.nil _ _, Below.refl _ _, fun _ _ _ => rfl, .inl rfl⟩
    · have hr := run_append_grow_src (P := Try.prog) w 26 tx ty 5 i0 (.int .u8 0) Try.underlying26 hi hz0 none 0 0 [] (by simp [Builtin.firstCells]) x z.length (Lib.byteCells z) hx' (by omega) (by omega) (by rw [hz2]; exact growslice_fits (by omega) (by omega))
      obtain ⟨g1, g2⟩ := grown [] rfl 0 (by simp; omega)
      refine ⟨_, _, _, hr, ?_, ?_, fun k hk _ => heap_alloc_old w.drew _ hk, .inr ⟨w.heap.size, Nat.le_refl _, rfl⟩⟩
      · exact g1
      · exact g2
  · by_cases hroom : l.length + z.length ≤ c
    · have hbl := Lib.byteCells_length z
      have hr := run_append_room_src (P := Try.prog) w 26 tx ty 5 i0 Try.underlying26 hi g 0 l.length c x z.length (Lib.byteCells z) hx' hroom
        (fun j hj => by rw [hz1, Nat.zero_add, Nat.mul_one]; exact (hcs _ (by omega)).1) (fun j hj => by rw [hz1, Nat.zero_add, Nat.mul_one]; exact (hcs _ (by omega)).2)
      rw [hz1, Nat.zero_add, Nat.mul_one] at hr
      obtain ⟨s1, s2, s3, s4, s5⟩ := setCells_same g (Lib.byteCells z) l.length w
      refine ⟨_, _, _, hr, ⟨by rw [List.length_append]; exact hroom, h.most, .inr ⟨g, rfl, hb, by rw [s4]; exact hlt, fun j hj => ⟨?_, ?_⟩, fun j hj => ?_⟩⟩, ⟨s1, s2, s3, by rw [s4]; exact Nat.le_refl _, fun k hk => s5 k (by omega)⟩, fun k _ hk => s5 k (fun e => hk (by rw [e])), .inl rfl⟩
      · exact World.isSome_setCells g _ _ w _ (hcs j hj).1
      · rw [World.frozen?_setCells]; exact (hcs j hj).2
      · by_cases hjl : j < l.length
        · rw [World.cell?_setCells_out g _ _ w _ (fun _ _ => .inl hjl), hcl j hjl, List.getElem_append_left hjl]
        · have hjz : j - l.length < (Lib.byteCells z).length := by rw [hbl]; rw [List.length_append] at hj; omega
          have := World.cell?_setCells_in g (Lib.byteCells z) l.length w (fun i hi => (hcs _ (by omega)).1) (j - l.length) hjz
          rw [show l.length + (j - l.length) = j by omega] at this
          rw [this, List.getElem_append_right (by omega)]
          simp [Lib.byteCells]
    · have hr := run_append_grow_src (P := Try.prog) w 26 tx ty 5 i0 (.int .u8 0) Try.underlying26 hi hz0 (some ⟨g, 0, none⟩) l.length c (Lib.byteCells l)
        (by
          rw [hz1]
          exact run_firstCells_some w.drew 1 l.length ⟨g, 0, none⟩ l.length c (Lib.byteCells l) (by rw [Lib.byteCells_length, Nat.mul_one]) (fun j u hj => by
            have hjl : j < l.length := by
              have := (List.getElem?_eq_some_iff.1 hj).1
              rwa [Lib.byteCells_length] at this
            show w.cell? _ = _
            rw [add_pl, Nat.zero_add, hcl j hjl, ← hj]
            unfold Lib.byteCells
            rw [List.getElem?_map, List.getElem?_eq_getElem hjl]
            rfl)) x z.length (Lib.byteCells z) hx' (by omega) (by omega) (by rw [hz2]; exact growslice_fits (by omega) (by omega))
      obtain ⟨g1, g2⟩ := grown _ rfl c (by omega)
      refine ⟨_, _, _, hr, g1, g2, fun k hk _ => heap_alloc_old w.drew _ hk, .inr ⟨w.heap.size, Nat.le_refl _, rfl⟩⟩

theorem src_rb {D : Nat} {w : World} {A : Option Addr} {c : Nat} {z : List UInt8} (hz : Rb D w A c z) : Src Try.prog 1 26 (.slice A z.length c) z.length (Lib.byteCells z) w := by
  cases A with
  | none =>
    have hc : c = 0 := hz.nil rfl
    have hz0' : z = [] := List.eq_nil_of_length_eq_zero (by have := hz.cap; omega)
    subst hz0' hc
    exact Src.ofNil w Try.underlying26 0
  | some ad =>
    refine Src.ofSlice w Try.underlying26 ad z.length c (Lib.byteCells z) (by rw [Lib.byteCells_length, Nat.mul_one]) (fun j u hj => ?_) (fun u hu => by unfold Lib.byteCells at hu; obtain ⟨y, _, rfl⟩ := List.mem_map.1 hu; rfl)
    have hjl : j < z.length := by
      have := (List.getElem?_eq_some_iff.1 hj).1
      rwa [Lib.byteCells_length] at this
    obtain ⟨b, off, e, _, hcl⟩ := hz.rd j hjl
    have e := Option.some.inj e
    rw [e, add_pl, hcl, ← hj]
    unfold Lib.byteCells
    rw [List.getElem?_map, List.getElem?_eq_getElem hjl]
    rfl
theorem src_str (w : World) (z : List UInt8) : Src Try.prog 1 9 (.string ⟨z.toArray⟩) z.length (Lib.byteCells z) w := by
  have h := Src.ofString (P := Try.prog) w Try.underlying9 ⟨z.toArray⟩
  have e : byteCells ⟨z.toArray⟩ = Lib.byteCells z := by simp [byteCells, Lib.byteCells]
  rw [mk_size, e] at h
  exact h
theorem wpList_pushG {ops : Array Oper} {rest : List Oper} {o : Oper} {a : Act} {Q : Exit → Act → World → Prop} (hgd : o.guard = none) (s x : Operand) (tx : TypeId)
    (ho : o.op = .call { callee := .builtin .append, args := #[s, x], argTypes := #[26, tx] }) (w : World) (base : Nat) (A : Option Addr) (c n m : Nat) (l z : List UInt8) (xv : Value) (hn : l.length = n) (hm : z.length = m)
    (hs : a.eval s = .slice A n c) (hx : a.eval x = xv) (h : RowG w base A c l) (hsrc : Src Try.prog 1 tx xv z.length (Lib.byteCells z) w) (hbase : base ≤ w.heap.size) (hlen : n + m ≤ 140737488355328)
    (hk : ∀ (A' : Option Addr) (c' : Nat) w', RowG w' base A' c' (l ++ z) → Below base w w' → (∀ k, k < w.heap.size → A ≠ some ⟨k, 0, none⟩ → w'.heap[k]? = w.heap[k]?) → wpList Try.prog ops Q rest (a.put o.dst (.slice A' (n + m) c')) w') :
    wpList Try.prog ops Q (o :: rest) a w := by
  subst hn hm
  refine wpList_plain hgd fun K hK => ?_
  obtain ⟨A', c', w', hr, h2, h3, h4, _⟩ := run_pushG w base o.type tx A c l z xv h hsrc hbase hlen
  unfold Oper.wp execOp
  simp only [ho, resolve, invoke, builtin, Sem.run_bind, Sem.run_pure, Result.andThen_ok, List.map_toArray, List.map_cons, List.map_nil, hs, hx, hr]
  exact hK _ _ (hk A' c' w' h2 h3 h4)
/-- what a slice of bytes, just made, is -/
def MadeP (l : List UInt8) (w : World) (e : Ending) (w' : World) : Prop := ∃ (A : Option Addr) (c : Nat), e = .returned (.slice A l.length c) ∧ RowG w' w.heap.size A c l ∧ Below w.heap.size w w'
set_option maxHeartbeats 1000000 in
theorem copyB_any {w : World} {A : Option Addr} {c n : Nat} {z : List UInt8} (h : Rb w.heap.size w A c z) (hn : n = z.length) (hz : z.length ≤ 140737488355328) :
    Calls Try.prog 22 #[.slice A n c] w (MadeP z w) := by
  subst hn
  have HZ := Lib.hid hz
  have S := Lib.hid (src_rb h)
  clear h hz
  go_enter Try.func22, Try.ntmps22
  go_wp2_with (at_builtin; refine wpList_pushG rfl (.tmp 4) (.tmp 5) 26 rfl w w.heap.size none 0 0 z.length [] z (.slice A z.length c) rfl rfl rfl rfl (RowG.nil _ _) S.out (Nat.le_refl _) (by have := HZ.out; omega) ?_; intro A1 c1 w1 hr1 hb1 _; have R1 := Lib.hid hr1; have B1 := Lib.hid hb1; clear hr1 hb1)
  go_ret
  exact ⟨A1, c1, rfl, R1.out, B1.out⟩

theorem eqBytes_rb {w : World} {A B : Option Addr} {c d : Nat} {x y : List UInt8} (h1 : Rb w.heap.size w A c x) (h2 : Rb w.heap.size w B d y) :
    Calls Try.prog 17 #[.slice A x.length c, .slice B y.length d] w fun e w' => e = .returned (.bool (x == y)) ∧ w' = w := by
  have c1 := h1.conv
  have c2 := h2.conv
  clear h1 h2
  generalize x.length = n at *
  generalize y.length = m at *
  go_enter Try.func17, Try.ntmps17
  go_wp2_with fail
  go_ret
  exact ⟨rfl, rfl⟩
theorem byte_at (n m : Nat) : (n : Int) / ((256 ^ m : Nat) : Int) % 256 = ((UInt8.ofNat (n / 256 ^ m)).toNat : Int) := by
  rw [UInt8.toNat_ofNat']
  show _ = ((n / 256 ^ m % 256 : Nat) : Int)
  rw [Int.natCast_emod, Int.natCast_ediv]; rfl
/-- a row of one byte, just made -/
theorem rb_new (w : World) (n : Int) (y : UInt8) (h : n = y.toNat) : Rb (w.heap.size + 1) (w.alloc (.cells #[.int .u8 n] 5)) (some ⟨w.heap.size, 0, none⟩) 1 [y] := by
  subst h
  refine ⟨Nat.le_refl _, (fun e => by cases e), fun i hi => ⟨w.heap.size, 0, rfl, Nat.lt_succ_self _, ?_⟩⟩
  obtain rfl : i = 0 := by simpa using hi
  rw [World.cell?_alloc_at _ _ _ _ rfl]; rfl
theorem wpList_pushOne {ops : Array Oper} {rest : List Oper} {o : Oper} {a : Act} {Q : Exit → Act → World → Prop} (hgd : o.guard = none) (s x : Operand)
    (ho : o.op = .call { callee := .builtin .append, args := #[s, x], argTypes := #[26, 26] }) (w : World) (base : Nat) (A : Option Addr) (c n : Nat) (l : List UInt8) (v : Int) (y : UInt8) (hv : v = y.toNat) (hn : l.length = n)
    (hs : a.eval s = .slice A n c) (hx : a.eval x = .slice (some ⟨w.heap.size, 0, none⟩) 1 1) (h : RowG w base A c l) (hbase : base ≤ w.heap.size) (hlen : n + 1 ≤ 140737488355328)
    (hk : ∀ (A' : Option Addr) (c' : Nat) w', RowG w' base A' c' (l ++ [y]) → Below base w w' → wpList Try.prog ops Q rest (a.put o.dst (.slice A' (n + 1) c')) w') :
    wpList Try.prog ops Q (o :: rest) a (w.alloc (.cells #[.int .u8 v] 5)) := by
  have hb := (Below.refl base w).alloc hbase (.cells #[.int .u8 v] 5)
  refine wpList_pushG hgd s x 26 ho _ base A c n 1 l [y] _ hn rfl hs hx (h.below (below_new _ _)) (src_rb (rb_new w v y hv)) (Nat.le_trans hbase (below_new _ _).size) hlen fun A' c' w' h1 h2 _ => hk A' c' w' h1 (hb.trans h2)
/-- What an append to a row leaves: all blocks that there were, but the row's own. -/
structure Gw (base : Nat) (A A' : Option Addr) (w w' : World) : Prop where
  below : Below base w w'
  old : ∀ k, k < w.heap.size → A ≠ some ⟨k, 0, none⟩ → w'.heap[k]? = w.heap[k]?
  at_ : A' = A ∨ ∃ k, w.heap.size ≤ k ∧ A' = some ⟨k, 0, none⟩
theorem Gw.refl (base : Nat) (A : Option Addr) (w : World) : Gw base A A w w := ⟨Below.refl _ _, fun _ _ _ => rfl, .inl rfl⟩
theorem Gw.trans {base : Nat} {A A' A'' : Option Addr} {a b c : World} (h : Gw base A A' a b) (k : Gw base A' A'' b c) : Gw base A A'' a c := by
  refine ⟨h.below.trans k.below, fun i hi hn => ?_, ?_⟩
  · refine (k.old i (Nat.lt_of_lt_of_le hi h.below.size) fun e => ?_).trans (h.old i hi hn)
    rcases h.at_ with rfl | ⟨j, hj, rfl⟩
    · exact hn e
    · cases e; omega
  · rcases k.at_ with rfl | ⟨j, hj, rfl⟩
    · exact h.at_
    · exact .inr ⟨j, Nat.le_trans h.below.size hj, rfl⟩
theorem gw_new {base : Nat} (w : World) (A : Option Addr) (o : Obj) (hb : base ≤ w.heap.size) : Gw base A A w (w.alloc o) := ⟨(Below.refl base w).alloc hb o, fun _ hk _ => heap_alloc_old w o hk, .inl rfl⟩
theorem wpList_pushW {ops : Array Oper} {rest : List Oper} {o : Oper} {a : Act} {Q : Exit → Act → World → Prop} (hgd : o.guard = none) (s x : Operand) (tx : TypeId)
    (ho : o.op = .call { callee := .builtin .append, args := #[s, x], argTypes := #[26, tx] }) (w : World) (base : Nat) (A : Option Addr) (c n m : Nat) (l z : List UInt8) (xv : Value) (hn : l.length = n) (hm : z.length = m)
    (hs : a.eval s = .slice A n c) (hx : a.eval x = xv) (h : RowG w base A c l) (hsrc : Src Try.prog 1 tx xv z.length (Lib.byteCells z) w) (hbase : base ≤ w.heap.size) (hlen : n + m ≤ 140737488355328)
    (hk : ∀ (A' : Option Addr) (c' : Nat) w', RowG w' base A' c' (l ++ z) → Gw base A A' w w' → wpList Try.prog ops Q rest (a.put o.dst (.slice A' (n + m) c')) w') :
    wpList Try.prog ops Q (o :: rest) a w := by
  subst hn hm
  refine wpList_plain hgd fun K hK => ?_
  obtain ⟨A', c', w', hr, h2, h3, h4, h5⟩ := run_pushG w base o.type tx A c l z xv h hsrc hbase hlen
  unfold Oper.wp execOp
  simp only [ho, resolve, invoke, builtin, Sem.run_bind, Sem.run_pure, Result.andThen_ok, List.map_toArray, List.map_cons, List.map_nil, hs, hx, hr]
  exact hK _ _ (hk A' c' w' h2 ⟨h3, h4, h5⟩)
theorem wpList_pushOneW {ops : Array Oper} {rest : List Oper} {o : Oper} {a : Act} {Q : Exit → Act → World → Prop} (hgd : o.guard = none) (s x : Operand)
    (ho : o.op = .call { callee := .builtin .append, args := #[s, x], argTypes := #[26, 26] }) (w : World) (base : Nat) (A : Option Addr) (c n : Nat) (l : List UInt8) (v : Int) (y : UInt8) (hv : v = y.toNat) (hn : l.length = n)
    (hs : a.eval s = .slice A n c) (hx : a.eval x = .slice (some ⟨w.heap.size, 0, none⟩) 1 1) (h : RowG w base A c l) (hbase : base ≤ w.heap.size) (hlen : n + 1 ≤ 140737488355328)
    (hk : ∀ (A' : Option Addr) (c' : Nat) w', RowG w' base A' c' (l ++ [y]) → Gw base A A' w w' → wpList Try.prog ops Q rest (a.put o.dst (.slice A' (n + 1) c')) w') :
    wpList Try.prog ops Q (o :: rest) a (w.alloc (.cells #[.int .u8 v] 5)) := by
  refine wpList_pushW hgd s x 26 ho _ base A c n 1 l [y] _ hn rfl hs hx (h.below (below_new _ _)) (src_rb (rb_new w v y hv)) (Nat.le_trans hbase (below_new _ _).size) hlen fun A' c' w' h1 h2 => hk A' c' w' h1 ((gw_new w A _ hbase).trans h2)
/-- what is left of an append of 'z' -/
def GrewP (base : Nat) (A : Option Addr) (l z : List UInt8) (w : World) (e : Ending) (w' : World) : Prop := ∃ (A' : Option Addr) (c' : Nat), e = .returned (.slice A' (l.length + z.length) c') ∧ RowG w' base A' c' (l ++ z) ∧ Gw base A A' w w'
end Go.Proofs.Ytajkbkllgbalkaa
