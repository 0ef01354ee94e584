/- What stands in memory while a message's bytes are read: the listed variables, slices of bytes, the reader's cells; and what a call of the reader's leaves as it was. -/
import Derived.Test.YthniggdimfldhaaGreatDoorHo
import Derived.Test.YthniggdimfldhaaGreatDoorNp
import Derived.Shelf.Bytes.SlCut
import Derived.Shelf.Bytes.SlEqualAll
import Derived.Shelf.Unicode.DecodeSlow
import Derived.Lib.AppendIntMem
namespace Go.Proofs.YthniggdimfldhaaGreatDoor
open Go Go.RowKit

/-- The variables that the program reads. -/
structure Gl (w : World) : Prop where
  size : 9 ≤ w.heap.size
  e0 : w.cell? ⟨0, 0, none⟩ = some (strV nCL)
  e1 : w.cell? ⟨0, 1, none⟩ = some (strV nTE)
  e2 : w.cell? ⟨0, 2, none⟩ = some (strV nCo)
  ml : ∃ m : Int, w.cell? ⟨2, 0, none⟩ = some (.int .i64 m)
  pw : Lib.TabIs Tryz.prog w "internal/strconv.uint64pow10" .u64 Lib.pow10Tab
  tz : w.cell? ⟨4, 15, none⟩ = some (.int .u8 4)
  u8 : Lib.Utf8Tabs 7 8 w
  es : ∃ tp p, w.cell? ⟨5, 0, none⟩ = some (.iface tp p)
theorem pow_global : Tryz.prog.globalNamed "internal/strconv.uint64pow10" = some 1 := by kernel_rfl
theorem Gl.kept {w w' : World} (h : Gl w) (hs : w.heap.size ≤ w'.heap.size) (hb : ∀ k, k < 9 → w'.heap[k]? = w.heap[k]?) : Gl w' := by
  have hc : ∀ k j, k < 9 → w'.cell? ⟨k, j, none⟩ = w.cell? ⟨k, j, none⟩ := fun k j hk => by unfold World.cell?; rw [hb k hk]
  obtain ⟨m, hm⟩ := h.ml
  obtain ⟨tp, p, hp⟩ := h.es
  refine ⟨Nat.le_trans h.size hs, (hc _ _ (by decide)).trans h.e0, (hc _ _ (by decide)).trans h.e1, (hc _ _ (by decide)).trans h.e2, ⟨m, (hc _ _ (by decide)).trans hm⟩, ?_, (hc _ _ (by decide)).trans h.tz,
    ⟨fun c hc' => (hc _ _ (by decide)).trans (h.u8.1 c hc'), fun i hi => ⟨(hc _ _ (by decide)).trans (h.u8.2 i hi).1, (hc _ _ (by decide)).trans (h.u8.2 i hi).2⟩⟩, ⟨tp, p, (hc _ _ (by decide)).trans hp⟩⟩
  have := h.pw
  unfold Lib.TabIs World.var? at *
  rw [pow_global, Option.bind_some] at this ⊢
  rw [hb _ (by decide)]
  exact this
theorem Gl.below {w w' : World} (h : Gl w) {B : Nat} (hB : 9 ≤ B) (hb : Below B w w') : Gl w' := h.kept hb.size fun k hk => hb.block k (by omega)
theorem Gl.fresh {w w' : World} (h : Gl w) (hb : Below w.heap.size w w') : Gl w' := h.below h.size hb
theorem Gl.drewN {w : World} (h : Gl w) (n : Nat) : Gl (w.drewN n) := h.kept (Nat.le_refl _) fun _ _ => rfl

/-- Bytes that a slice holds, in blocks below 'D'. -/
structure Rb (D : Nat) (w : World) (A : Option Addr) (c : Nat) (x : List UInt8) : Prop where
  cap : x.length ≤ c
  nil : A = none → c = 0
  rd : ∀ i (hi : i < x.length), ∃ b off, A = some ⟨b, off, none⟩ ∧ b < D ∧ w.cell? ⟨b, off + i, none⟩ = some (.int .u8 (x[i].toNat : Int))
theorem Rb.keep {D : Nat} {w w' : World} {A : Option Addr} {c : Nat} {x : List UInt8} (h : Rb D w A c x) (hb : ∀ k, k < D → w'.heap[k]? = w.heap[k]?) : Rb D w' A c x :=
  ⟨h.cap, h.nil, fun i hi => by
    obtain ⟨b, off, e, hl, hc⟩ := h.rd i hi
    refine ⟨b, off, e, hl, Eq.trans ?_ hc⟩
    unfold World.cell?
    rw [hb b hl]⟩
theorem Rb.mono {D D' : Nat} {w : World} {A : Option Addr} {c : Nat} {x : List UInt8} (h : Rb D w A c x) (hD : D ≤ D') : Rb D' w A c x :=
  ⟨h.cap, h.nil, fun i hi => by obtain ⟨b, off, e, hl, hc⟩ := h.rd i hi; exact ⟨b, off, e, Nat.lt_of_lt_of_le hl hD, hc⟩⟩
theorem Rb.take {D : Nat} {w : World} {A : Option Addr} {c : Nat} {x : List UInt8} (h : Rb D w A c x) (k : Nat) : Rb D w A c (x.take k) :=
  ⟨Nat.le_trans (by rw [List.length_take]; omega) h.cap, h.nil, fun i hi => by
    have hi' : i < x.length := by rw [List.length_take] at hi; omega
    obtain ⟨b, off, e, hl, hc⟩ := h.rd i hi'
    exact ⟨b, off, e, hl, hc.trans (by simp)⟩⟩
theorem Rb.drop {D : Nat} {w : World} {A : Option Addr} {c : Nat} {x : List UInt8} (h : Rb D w A c x) (k : Nat) (hk : k ≤ x.length) :
    Rb D w (if c = k then A else A.map fun a => a.add k) (c - k) (x.drop k) := by
  have hc := h.cap
  refine ⟨by rw [List.length_drop]; omega, fun e => ?_, fun i hi => ?_⟩
  · split at e
    · omega
    · have := h.nil (by simpa using e); omega
  · have hi' : k + i < x.length := by rw [List.length_drop] at hi; omega
    obtain ⟨b, off, e, hl, hcl⟩ := h.rd (k + i) hi'
    rw [if_neg (by omega), e]
    refine ⟨b, off + k, by rw [Option.map_some, add_pl], hl, ?_⟩
    rw [Nat.add_assoc, hcl]
    simp
/-- as the shelf has it -/
def ints (x : List UInt8) : List Int := x.map fun c => (c.toNat : Int)
theorem ints_len (x : List UInt8) : (ints x).length = x.length := List.length_map _
theorem ints_of (x : List UInt8) : Lib.bytesOf (ints x) = x := by
  unfold Lib.bytesOf ints
  rw [List.map_map]
  conv => rhs; rw [← List.map_id x]
  refine List.map_congr_left fun c _ => ?_
  simp
theorem ints_range (x : List UInt8) : ∀ n ∈ ints x, 0 ≤ n ∧ n < 256 := fun n hn => by
  obtain ⟨c, _, rfl⟩ := List.mem_map.1 hn
  have := c.toNat_lt
  constructor <;> omega
theorem ints_at (x : List UInt8) (i : Nat) (hi : i < x.length) : (ints x).getD i 0 = (x[i].toNat : Int) := by
  unfold ints
  rw [List.getD_eq_getElem?_getD, List.getElem?_eq_getElem (by rw [List.length_map]; exact hi)]
  simp
theorem Rb.bytesIn {D : Nat} {w : World} {A : Option Addr} {c : Nat} {x : List UInt8} (h : Rb D w A c x) : Lib.BytesIn w A x.length (ints x) := fun hn => by
  obtain ⟨b, off, e, _, _⟩ := h.rd 0 hn
  refine ⟨b, off, e, fun i hi => ?_⟩
  obtain ⟨b', off', e', _, hc⟩ := h.rd i hi
  cases e.symm.trans e'
  rw [hc, ints_at x i hi]
theorem Rb.conv {D : Nat} {w : World} {A : Option Addr} {c : Nat} {x : List UInt8} (h : Rb D w A c x) : (convert 23 9 (.slice A x.length c)).run Tryz.prog w = .ok (.string ⟨x.toArray⟩) w := by
  have := Lib.BytesIn.convert h.bytesIn (ints_len x) c 23 5 9 Tryz.underlying23 Tryz.underlying5 Tryz.underlying9
  rw [show strOfNums (ints x) = ⟨x.toArray⟩ from congrArg (fun l : List UInt8 => (⟨l.toArray⟩ : ByteArray)) (ints_of x)] at this
  exact this
theorem OwnB.rb {w : World} {base : Nat} {v : Value} {l : List UInt8} (h : OwnB w base v l) : ∃ A c, v = .slice A l.length c ∧ Rb w.heap.size w A c l := by
  obtain ⟨A, c, e, hc, hn, hr⟩ := Rd.own h
  refine ⟨A, c, e, hc, hn, fun i hi => ?_⟩
  obtain ⟨b, off, e', hl, hcl⟩ := hr i (by rw [Lib.byteCells_length]; exact hi)
  refine ⟨b, off, e', hl, hcl.trans ?_⟩
  simp [Lib.byteCells]

/-- Cells of one block, that may be written. -/
structure Cs (w : World) (g : Nat) (l : List Value) : Prop where
  lt : g < w.heap.size
  cell : ∀ j, j < l.length → w.cell? ⟨g, j, none⟩ = l[j]?
  free : ∀ j, j < l.length → w.frozen? ⟨g, j, none⟩ = false
theorem Cs.set {w : World} {g : Nat} {l : List Value} (h : Cs w g l) (k : Nat) (hk : k < l.length) (v : Value) : Cs (w.setCell ⟨g, k, none⟩ v) g (l.set k v) := by
  refine ⟨by simpa using h.lt, fun j hj => ?_, fun j hj => by simpa using h.free j (by simpa using hj)⟩
  rw [List.length_set] at hj
  by_cases e : j = k
  · subst e
    rw [World.cell?_setCell_same _ _ _ ((h.cell j hj).trans (List.getElem?_eq_getElem hj)), List.getElem?_set_self hj]
  · rw [World.cell?_setCell_other _ _ _ _ (fun x => e (by simpa using x.symm)), h.cell j hj, List.getElem?_set_ne (fun x => e x.symm)]
theorem Cs.keep {w w' : World} {g : Nat} {l : List Value} (h : Cs w g l) (hs : w.heap.size ≤ w'.heap.size) (hb : w'.heap[g]? = w.heap[g]?) : Cs w' g l :=
  ⟨Nat.lt_of_lt_of_le h.lt hs, fun j hj => by unfold World.cell?; rw [hb]; exact h.cell j hj, fun j hj => by unfold World.frozen?; rw [hb]; exact h.free j hj⟩
theorem Cs.below {w w' : World} {g : Nat} {l : List Value} (h : Cs w g l) (hb : Below w.heap.size w w') : Cs w' g l := h.keep hb.size (hb.block g h.lt)

/-- The reader's cells: what is left to read, a message, how the body comes. -/
structure RSt (w : World) (g D : Nat) (A : Option Addr) (c : Nat) (x : List UInt8) (a p : List UInt8) (n : Int) (hV bV : Value) (ch : Bool) (k : Int) : Prop where
  cs : Cs w g [.slice A x.length c, strV a, strV p, .int .i64 n, hV, bV, .bool ch, .int .i64 k]
  d9 : 9 ≤ D
  dg : D ≤ g
  rb : Rb D w A c x
  gl : Gl w
/-- What a call of the reader's leaves as it was: all below a block, but the reader's own. -/
structure Kp (g B : Nat) (w w' : World) : Prop where
  os : w'.os = w.os
  tape : w'.tape = w.tape
  output : w'.output = w.output
  size : w.heap.size ≤ w'.heap.size
  block : ∀ k, k < B → k ≠ g → w'.heap[k]? = w.heap[k]?
theorem Kp.refl (g B : Nat) (w : World) : Kp g B w w := ⟨rfl, rfl, rfl, Nat.le_refl _, fun _ _ _ => rfl⟩
theorem Kp.trans {g B : Nat} {a b c : World} (h : Kp g B a b) (k : Kp g B b c) : Kp g B a c :=
  ⟨k.os.trans h.os, k.tape.trans h.tape, k.output.trans h.output, Nat.le_trans h.size k.size, fun i hi hn => (k.block i hi hn).trans (h.block i hi hn)⟩
theorem Kp.mono {g B B' : Nat} {w w' : World} (h : Kp g B w w') (hB : B' ≤ B) : Kp g B' w w' := ⟨h.os, h.tape, h.output, h.size, fun k hk => h.block k (Nat.lt_of_lt_of_le hk hB)⟩
theorem kp_below {g B : Nat} {w w' : World} (h : Below B w w') : Kp g B w w' := ⟨h.os, h.tape, h.output, h.size, fun k hk _ => h.block k hk⟩
theorem kp_fresh {g B : Nat} {w w' : World} (hB : B ≤ w.heap.size) (h : Below w.heap.size w w') : Kp g B w w' := kp_below (h.mono hB)
theorem kp_set {g B : Nat} (w : World) (k : Nat) (v : Value) : Kp g B w (w.setCell ⟨g, k, none⟩ v) := ⟨rfl, rfl, rfl, by simp [World.setCell], fun j _ hn => Below.heap_setCell _ _ _ _ hn⟩
theorem Kp.to {g B : Nat} {w w' : World} (h : Kp g B w w') {D : Nat} (h1 : D ≤ g) (h2 : D ≤ B) : Below D w w' := ⟨h.os, h.tape, h.output, h.size, fun k hk => h.block k (by omega) (by omega)⟩
theorem kp_drewN {g B : Nat} {a w : World} (h : Kp g B a w) (n : Nat) : Kp g B a (w.drewN n) := ⟨h.os, h.tape, h.output, h.size, h.block⟩
section
variable {w w' : World} {g D : Nat} {A : Option Addr} {c : Nat} {x a p : List UInt8} {n : Int} {hV bV : Value} {ch : Bool} {k : Int}
theorem RSt.fresh (h : RSt w g D A c x a p n hV bV ch k) (hb : Below w.heap.size w w') : RSt w' g D A c x a p n hV bV ch k :=
  ⟨h.cs.below hb, h.d9, h.dg, h.rb.keep fun j hj => hb.block j (by have := h.dg; have := h.cs.lt; omega), h.gl.fresh hb⟩
/-- kept by what writes from a block behind the reader's on -/
theorem RSt.low (h : RSt w g D A c x a p n hV bV ch k) {B : Nat} (hB : g < B) (hb : Below B w w') : RSt w' g D A c x a p n hV bV ch k := by
  have h1 := h.dg
  have h2 := h.d9
  exact ⟨h.cs.keep hb.size (hb.block g hB), h.d9, h.dg, h.rb.keep fun j hj => hb.block j (by omega), h.gl.below (by omega) hb⟩
theorem RSt.drewN (h : RSt w g D A c x a p n hV bV ch k) (q : Nat) : RSt (w.drewN q) g D A c x a p n hV bV ch k :=
  ⟨h.cs.keep (Nat.le_refl _) rfl, h.d9, h.dg, h.rb.keep fun _ _ => rfl, h.gl.drewN q⟩
theorem RSt.c0 (h : RSt w g D A c x a p n hV bV ch k) : w.cell? ⟨g, 0, none⟩ = some (.slice A x.length c) := h.cs.cell 0 (by simp)
theorem RSt.c1 (h : RSt w g D A c x a p n hV bV ch k) : w.cell? ⟨g, 1, none⟩ = some (strV a) := h.cs.cell 1 (by simp)
theorem RSt.c2 (h : RSt w g D A c x a p n hV bV ch k) : w.cell? ⟨g, 2, none⟩ = some (strV p) := h.cs.cell 2 (by simp)
theorem RSt.c3 (h : RSt w g D A c x a p n hV bV ch k) : w.cell? ⟨g, 3, none⟩ = some (.int .i64 n) := h.cs.cell 3 (by simp)
theorem RSt.c4 (h : RSt w g D A c x a p n hV bV ch k) : w.cell? ⟨g, 4, none⟩ = some hV := h.cs.cell 4 (by simp)
theorem RSt.c5 (h : RSt w g D A c x a p n hV bV ch k) : w.cell? ⟨g, 5, none⟩ = some bV := h.cs.cell 5 (by simp)
theorem RSt.c6 (h : RSt w g D A c x a p n hV bV ch k) : w.cell? ⟨g, 6, none⟩ = some (.bool ch) := h.cs.cell 6 (by simp)
theorem RSt.c7 (h : RSt w g D A c x a p n hV bV ch k) : w.cell? ⟨g, 7, none⟩ = some (.int .i64 k) := h.cs.cell 7 (by simp)
theorem RSt.f (h : RSt w g D A c x a p n hV bV ch k) (j : Nat) (hj : j < 8) : w.frozen? ⟨g, j, none⟩ = false := h.cs.free j (by simpa using hj)
theorem RSt.set0 (h : RSt w g D A c x a p n hV bV ch k) {A' : Option Addr} {c' : Nat} {x' : List UInt8} (hr : Rb D w A' c' x') : RSt (w.setCell ⟨g, 0, none⟩ (.slice A' x'.length c')) g D A' c' x' a p n hV bV ch k := by
  have h1 := h.dg
  have h2 := h.d9
  exact ⟨h.cs.set 0 (by simp) _, h.d9, h.dg, hr.keep fun j hj => Below.heap_setCell _ _ _ _ (by show j ≠ g; omega), h.gl.kept (by simp) fun j hj => Below.heap_setCell _ _ _ _ (by show j ≠ g; omega)⟩
theorem RSt.cells (h : RSt w g D A c x a p n hV bV ch k) (j : Nat) (v : Value) {a' p' : List UInt8} {n' : Int} {hV' bV' : Value} {ch' : Bool} {k' : Int} (_h0 : 0 < j) (hj : j < 8)
    (e : [.slice A x.length c, strV a, strV p, .int .i64 n, hV, bV, .bool ch, .int .i64 k].set j v = [.slice A x.length c, strV a', strV p', .int .i64 n', hV', bV', .bool ch', .int .i64 k']) :
    RSt (w.setCell ⟨g, j, none⟩ v) g D A c x a' p' n' hV' bV' ch' k' := by
  have h1 := h.dg
  have h2 := h.d9
  have hc := h.cs.set j (by simpa using hj) v
  rw [e] at hc
  exact ⟨hc, h.d9, h.dg, h.rb.keep fun j hj => Below.heap_setCell _ _ _ _ (by show j ≠ g; omega), h.gl.kept (by simp) fun j hj => Below.heap_setCell _ _ _ _ (by show j ≠ g; omega)⟩
theorem RSt.set1 (h : RSt w g D A c x a p n hV bV ch k) (a' : List UInt8) : RSt (w.setCell ⟨g, 1, none⟩ (strV a')) g D A c x a' p n hV bV ch k := h.cells 1 _ (by decide) (by decide) rfl
theorem RSt.set2 (h : RSt w g D A c x a p n hV bV ch k) (p' : List UInt8) : RSt (w.setCell ⟨g, 2, none⟩ (strV p')) g D A c x a p' n hV bV ch k := h.cells 2 _ (by decide) (by decide) rfl
theorem RSt.set3 (h : RSt w g D A c x a p n hV bV ch k) (n' : Int) : RSt (w.setCell ⟨g, 3, none⟩ (.int .i64 n')) g D A c x a p n' hV bV ch k := h.cells 3 _ (by decide) (by decide) rfl
theorem RSt.set4 (h : RSt w g D A c x a p n hV bV ch k) (v : Value) : RSt (w.setCell ⟨g, 4, none⟩ v) g D A c x a p n v bV ch k := h.cells 4 _ (by decide) (by decide) rfl
theorem RSt.set5 (h : RSt w g D A c x a p n hV bV ch k) (v : Value) : RSt (w.setCell ⟨g, 5, none⟩ v) g D A c x a p n hV v ch k := h.cells 5 _ (by decide) (by decide) rfl
theorem RSt.set6 (h : RSt w g D A c x a p n hV bV ch k) (q : Bool) : RSt (w.setCell ⟨g, 6, none⟩ (.bool q)) g D A c x a p n hV bV q k := h.cells 6 _ (by decide) (by decide) rfl
theorem RSt.set7 (h : RSt w g D A c x a p n hV bV ch k) (q : Int) : RSt (w.setCell ⟨g, 7, none⟩ (.int .i64 q)) g D A c x a p n hV bV ch q := h.cells 7 _ (by decide) (by decide) rfl
end
end Go.Proofs.YthniggdimfldhaaGreatDoor
