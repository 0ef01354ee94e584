/- What a slice holds; rows of bytes and of headers that a call owns; names, values and what is asked of them, as plain functions. -/
import Derived.Test.YthniggdimfldhaaGreatDoorProg
import Derived.Test.YthniggdimfldhaaGreatDoorHp
import Derived.WalkKit
import Derived.Lib.Hide
import Derived.Deep.QuietTactic
import Derived.BigQuiet
import Derived.WalkSpells
import Derived.WalkLawsBesides
import Derived.WalkSmall
import Derived.BigCall
import Derived.RegionTactic
import Derived.Deep.AppendLies
import Derived.Deep.RegionHeld3
import Derived.Laws.OwnMore
import Derived.Maps.AppendAt
import Derived.Lib.AppendStr
import Derived.Lib.BufferRead
import Derived.Lib.CutLaws
namespace Go.Proofs.YthniggdimfldhaaGreatDoor
open Go Go.RowKit

theorem ret_int {k : IntKind} {a b : Int} (h : a = b) : Ending.returned (.int k a) = .returned (.int k b) := by rw [h]
theorem ret_str {a b : ByteArray} (h : a = b) : Ending.returned (.string a) = .returned (.string b) := by rw [h]
theorem ret_bool {a b : Bool} (h : a = b) : Ending.returned (.bool a) = .returned (.bool b) := by rw [h]
def strV (l : List UInt8) : Value := .string ⟨l.toArray⟩
theorem mk_toList (l : List UInt8) : (⟨l.toArray⟩ : ByteArray).data.toList = l := by simp
theorem mk_size (l : List UInt8) : (⟨l.toArray⟩ : ByteArray).size = l.length := by rw [Lib.size_eq, mk_toList]
theorem strV_data (s : ByteArray) : strV s.data.toList = .string s := by unfold strV; congr 1
theorem info9 : (Tryz.prog.info? 9).map (fun i => (i.zero, i.size, i.bytes)) = some (some (.string ⟨#[]⟩), 1, 16) := by kernel_rfl
theorem info5 : (Tryz.prog.info? 5).map (fun i => (i.zero, i.size, i.bytes)) = some (some (.int .u8 0), 1, 1) := by kernel_rfl
theorem infoH : (Tryz.prog.info? 41).map (fun i => (i.zero, i.size, i.bytes)) = some (some (.agg #[.string ⟨#[]⟩, .string ⟨#[]⟩]), 2, 32) := by kernel_rfl

/-- The cells that a slice holds, nil or not, in whatever block. -/
def Rd (w : World) (A : Option Addr) (vs : List Value) : Prop :=
  ∀ i (hi : i < vs.length), ∃ b off, A = some ⟨b, off, none⟩ ∧ b < w.heap.size ∧ w.cell? ⟨b, off + i, none⟩ = some vs[i]
theorem Rd.below {w w' : World} {A : Option Addr} {vs : List Value} (h : Rd w A vs) (hb : Below w.heap.size w w') : Rd w' A vs := fun i hi => by
  obtain ⟨b, off, e, hl, hc⟩ := h i hi
  exact ⟨b, off, e, Nat.lt_of_lt_of_le hl hb.size, (hb.cell (p := ⟨b, off + i, none⟩) hl).trans hc⟩
theorem Rd.drewN {w : World} {A : Option Addr} {vs : List Value} (h : Rd w A vs) (n : Nat) : Rd (w.drewN n) A vs := h
theorem Rd.nil (w : World) (A : Option Addr) : Rd w A [] := fun i h => by simp at h
theorem Rd.cut {w : World} {A : Option Addr} {vs : List Value} (h : Rd w A vs) (k : Nat) : Rd w A (vs.take k) := fun i hi => by
  have hi' : i < vs.length := by rw [List.length_take] at hi; omega
  obtain ⟨b, off, e, hl, hc⟩ := h i hi'
  exact ⟨b, off, e, hl, hc.trans (by simp)⟩
theorem Rd.made (w : World) (vs : List Value) (t : TypeId) : Rd (w.alloc (.cells vs.toArray t)) (some ⟨w.heap.size, 0, none⟩) vs := fun i hi =>
  ⟨w.heap.size, 0, rfl, by simp, by rw [World.cell?_alloc_at _ _ _ _ rfl]; simp [hi]⟩
theorem add_pl (b off i : Nat) : (⟨b, off, none⟩ : Addr).add i = ⟨b, off + i, none⟩ := by unfold Addr.add; split <;> simp_all
theorem Rd.own {w : World} {base size : Nat} {e : TypeId} {v : Value} {n : Nat} {vs : List Value} (h : w.ownsRow base e size v n vs) : ∃ A c, v = .slice A n c ∧ n ≤ c ∧ (A = none → c = 0) ∧ Rd w A vs := by
  rcases h.2 with ⟨rfl, hn⟩ | ⟨g, cap, cur, rfl, hb, hg, hnc, _, hsz, ht⟩
  · subst hn
    have hl : vs = [] := List.eq_nil_of_length_eq_zero (by simpa using h.1)
    subst hl
    exact ⟨none, 0, rfl, Nat.le_refl _, fun _ => rfl, Rd.nil _ _⟩
  · refine ⟨_, cap, rfl, hnc, fun e => (by cases e), fun i hi => ⟨g, 0, rfl, (Array.getElem?_eq_some_iff.1 hg).1, ?_⟩⟩
    have := h.cells (g := g) rfl i vs[i] (List.getElem?_eq_getElem hi)
    rw [add_pl] at this
    exact this
theorem below_new (w : World) (o : Obj) : Below w.heap.size w (w.alloc o) := (Below.refl _ _).alloc (Nat.le_refl _) o
theorem Below.and {a b c : World} (h : Below a.heap.size a b) (k : Below b.heap.size b c) : Below a.heap.size a c := h.trans (k.mono h.size)
theorem below_drewN {B : Nat} {a w : World} (h : Below B a w) (n : Nat) : Below B a (w.drewN n) := ⟨h.os, h.tape, h.output, h.size, h.block⟩
theorem grownBy_below {w w' : World} (h : Below w.heap.size w w') (r : Option Nat) : w.grownBy w' r := ⟨h.os, h.tape, h.output, h.size, fun k hk _ => h.block k hk⟩
theorem row_below {w W : World} {base size n : Nat} {e : TypeId} {v : Value} {xs : List Value} (h : w.ownsRow base e size v n xs) (hb : Below w.heap.size w W) : W.ownsRow base e size v n xs :=
  h.kept (grownBy_below hb none) (Classical.em _)

/-! Bytes. -/
def OwnB (w : World) (base : Nat) (v : Value) (l : List UInt8) : Prop := w.ownsRow base 5 1 v l.length (Lib.byteCells l)
theorem OwnB.nil (w : World) (base : Nat) : OwnB w base (.slice none 0 0) [] := World.ownsRow_nil w base 5 1
theorem OwnB.below {w w' : World} {base : Nat} {v : Value} {l : List UInt8} (h : OwnB w base v l) (hb : Below w.heap.size w w') : OwnB w' base v l := row_below h hb
theorem wpList_pushb {ops : Array Oper} {rest : List Oper} {o : Oper} {a : Act} {Q : Exit → Act → World → Prop} (hgd : o.guard = none) (s x : Operand)
    (ho : o.op = .call { callee := .builtin .append, args := #[s, x], argTypes := #[23, 23] }) (w : World) (base : Nat) (v : Value) (l : List UInt8) (n : Int) (c : UInt8) (hn : n = c.toNat)
    (hs : a.eval s = v) (hown : OwnB w base v l) (hx : a.eval x = .slice (some ⟨w.heap.size, 0, none⟩) 1 1) (hbase : base ≤ w.heap.size) (hlen : l.length ≤ 1000000000)
    (h : ∀ v' w', OwnB w' base v' (l ++ [c]) → Below base w w' → wpList Tryz.prog ops Q rest (a.put o.dst v') w') :
    wpList Tryz.prog ops Q (o :: rest) a (w.alloc (.cells #[.int .u8 n] 5)) := by
  obtain ⟨i0, hi, hz0, hz1, hz2⟩ := info_parts info5
  subst hn
  refine wpList_append_own _ hgd s x 23 ho base 5 i0 (.int .u8 0) 1 1 Tryz.underlying23 hi hz0 hz1 hz2 rfl (by decide) v l.length (Lib.byteCells l) hs (World.ownsRow.alloc hown _)
    ⟨w.heap.size, 0, none⟩ 1 1 [.int .u8 c.toNat] hx rfl ?_ ?_ (by unfold maxLen; omega) (by omega) (by simp; omega) ?_
  · intro j u hj
    match j, hj with
    | 0, hj => simp at hj; subst hj; simp [Addr.add]
    | j + 1, hj => simp at hj
  · intro u hu; simp at hu; subst hu; rfl
  · intro v' w' ho' hg _
    refine h v' w' ?_ ?_
    · unfold OwnB; rw [List.length_append]; simpa [Lib.byteCells] using ho'
    · exact ((Below.refl base w).alloc hbase _).grown hg (by simp; omega) (fun k hk => (World.ownsRow.lt hown k hk).1)
theorem OwnB.conv {w : World} {base : Nat} {v : Value} {l : List UInt8} (h : OwnB w base v l) : (convert 23 9 v).run Tryz.prog w = .ok (.string ⟨l.toArray⟩) w := by
  rcases h.2 with ⟨rfl, h0⟩ | ⟨g, cap, cur, rfl, _, hg, _, _, _, ht⟩
  · have : l = [] := List.eq_nil_of_length_eq_zero h0
    subst this
    exact Lib.run_convert_nil_bytes w 23 9 5 0 Tryz.underlying23 Tryz.underlying5 Tryz.underlying9
  · rw [Nat.mul_one] at ht
    exact run_convert_bytes_back w 23 9 5 ⟨g, 0, none⟩ cap l Tryz.underlying23 Tryz.underlying5 Tryz.underlying9 (Lib.bytes_of_row hg ht)

/-! Headers. -/
def hv (l : List Hd) : List Value := l.flatMap fun h => [strV h.1, strV h.2]
theorem hv_len : ∀ l : List Hd, (hv l).length = l.length * 2
  | [] => rfl
  | h :: l => by
    have := hv_len l
    unfold hv at this ⊢
    rw [List.flatMap_cons, List.length_append, this]
    simp
    omega
theorem hv_snoc (l : List Hd) (h : Hd) : hv (l ++ [h]) = hv l ++ [strV h.1, strV h.2] := by simp [hv]
theorem hv_at : ∀ (l : List Hd) (i : Nat) (hi : i < l.length), (hv l)[i * 2]? = some (strV l[i].1) ∧ (hv l)[i * 2 + 1]? = some (strV l[i].2)
  | h :: l, 0, _ => by simp [hv]
  | h :: l, i + 1, hi => by
    have ih := hv_at l i (by simpa using hi)
    have e : hv (h :: l) = [strV h.1, strV h.2] ++ hv l := by simp [hv]
    rw [e, show (i + 1) * 2 = i * 2 + 2 by omega]
    constructor
    · rw [List.getElem?_append_right (by simp)]
      simpa using ih.1
    · rw [List.getElem?_append_right (by simp)]
      simpa using ih.2
theorem Rd.head {w : World} {A : Option Addr} {l : List Hd} (h : Rd w A (hv l)) (i : Nat) (hi : i < l.length) : ∃ b off, A = some ⟨b, off, none⟩ ∧ b < w.heap.size ∧
    w.cell? ⟨b, off + i * 2, none⟩ = some (.string ⟨l[i].1.toArray⟩) ∧ w.cell? ⟨b, off + i * 2 + 1, none⟩ = some (.string ⟨l[i].2.toArray⟩) := by
  obtain ⟨h1, h2⟩ := hv_at l i hi
  obtain ⟨b, off, e, hl, hc⟩ := h (i * 2) (by rw [hv_len]; omega)
  obtain ⟨b', off', e', _, hc'⟩ := h (i * 2 + 1) (by rw [hv_len]; omega)
  cases e.symm.trans e'
  refine ⟨b, off, e, hl, ?_, ?_⟩
  · rw [hc, ← List.getElem?_eq_getElem]; exact h1
  · rw [show off + i * 2 + 1 = off + (i * 2 + 1) by omega, hc', ← List.getElem?_eq_getElem]; exact h2
/-- A row of headers that the call owns from block 'base' on. -/
def OwnH (w : World) (base : Nat) (v : Value) (l : List Hd) : Prop := w.ownsRow base 41 2 v l.length (hv l)
theorem OwnH.nil (w : World) (base : Nat) : OwnH w base (.slice none 0 0) [] := World.ownsRow_nil w base 41 2
theorem OwnH.below {w w' : World} {base : Nat} {v : Value} {l : List Hd} (h : OwnH w base v l) (hb : Below w.heap.size w w') : OwnH w' base v l := row_below h hb
/-- A slice value that holds these headers. -/
def Hs (w : World) (v : Value) (l : List Hd) : Prop := ∃ A c, v = .slice A l.length c ∧ l.length ≤ c ∧ (A = none → c = 0) ∧ Rd w A (hv l)
theorem Hs.below {w w' : World} {v : Value} {l : List Hd} (h : Hs w v l) (hb : Below w.heap.size w w') : Hs w' v l := by
  obtain ⟨A, c, e, hc, hn, h⟩ := h
  exact ⟨A, c, e, hc, hn, h.below hb⟩
theorem Hs.nil (w : World) : Hs w (.slice none 0 0) [] := ⟨none, 0, rfl, Nat.le_refl _, fun _ => rfl, Rd.nil _ _⟩
theorem OwnH.hs {w : World} {base : Nat} {v : Value} {l : List Hd} (h : OwnH w base v l) : Hs w v l := Rd.own h
theorem wpList_pushh {ops : Array Oper} {rest : List Oper} {o : Oper} {a : Act} {Q : Exit → Act → World → Prop} (hgd : o.guard = none) (s x : Operand)
    (ho : o.op = .call { callee := .builtin .append, args := #[s, x], argTypes := #[22, 22] }) (w : World) (base : Nat) (v : Value) (l : List Hd) (p q : ByteArray) (z y : List UInt8) (hp : p = ⟨z.toArray⟩) (hq : q = ⟨y.toArray⟩)
    (hs : a.eval s = v) (hown : OwnH w base v l) (hx : a.eval x = .slice (some ⟨w.heap.size, 0, none⟩) 1 1) (hbase : base ≤ w.heap.size) (hlen : l.length ≤ 1000000000)
    (h : ∀ v' w', OwnH w' base v' (l ++ [(z, y)]) → Below base w w' → wpList Tryz.prog ops Q rest (a.put o.dst v') w') :
    wpList Tryz.prog ops Q (o :: rest) a (w.alloc (.cells #[.string p, .string q] 41)) := by
  obtain ⟨i0, hi, hz0, hz1, hz2⟩ := info_parts infoH
  subst hp hq
  refine wpList_append_own _ hgd s x 22 ho base 41 i0 (.agg #[.string ⟨#[]⟩, .string ⟨#[]⟩]) 2 32 Tryz.underlying22 hi hz0 hz1 hz2 rfl (by decide) v l.length (hv l) hs (World.ownsRow.alloc hown _)
    ⟨w.heap.size, 0, none⟩ 1 1 [strV z, strV y] hx rfl ?_ ?_ (by unfold maxLen; omega) (by omega) (by simp; omega) ?_
  · intro j u hj
    match j, hj with
    | 0, hj => simp at hj; subst hj; simp [Addr.add, strV]
    | 1, hj => simp at hj; subst hj; simp [Addr.add, strV]
    | j + 2, hj => simp at hj
  · intro u hu
    simp at hu
    rcases hu with rfl | rfl <;> rfl
  · intro v' w' ho' hg _
    refine h v' w' ?_ ?_
    · unfold OwnH; rw [List.length_append, hv_snoc]; exact ho'
    · exact ((Below.refl base w).alloc hbase _).grown hg (by simp; omega) (fun k hk => (World.ownsRow.lt hown k hk).1)

end Go.Proofs.YthniggdimfldhaaGreatDoor
