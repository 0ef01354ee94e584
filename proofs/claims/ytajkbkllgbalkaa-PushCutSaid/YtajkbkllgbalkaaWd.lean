/- Rows of bytes that a call owns; texts that a slice holds; the walks of both functions Join, of word and of EqTexts. -/
import Derived.Test.YtajkbkllgbalkaaWb
import Derived.Lib.AppendStr
import Derived.Lib.BufferRead
namespace Go.Proofs.Ytajkbkllgbalkaa
open Go Go.RowKit

def OwnB (w : World) (base : Nat) (v : Value) (l : List UInt8) : Prop := w.ownsRow base 5 1 v l.length (Lib.byteCells l)
theorem OwnB.nil (w : World) (base : Nat) : OwnB w base (.slice none 0 0) [] := World.ownsRow_nil w base 5 1
theorem OwnB.below {w w' : World} {base : Nat} {v : Value} {l : List UInt8} (h : OwnB w base v l) (hb : Below w.heap.size w w') : OwnB w' base v l :=
  World.ownsRow.kept (row := none) h ⟨hb.os, hb.tape, hb.output, hb.size, fun k hk _ => hb.block k hk⟩ (by cases v.ownBlock <;> simp)

theorem wpList_pushb {ops : Array Oper} {rest : List Oper} {o : Oper} {a : Act} {Q : Exit → Act → World → Prop} (hgd : o.guard = none) (s x : Operand)
    (ho : o.op = .call { callee := .builtin .append, args := #[s, x], argTypes := #[26, 26] }) (w : World) (base : Nat) (v : Value) (l : List UInt8) (n : Int) (c : UInt8) (hn : n = c.toNat)
    (hs : a.eval s = v) (hown : OwnB w base v l) (hx : a.eval x = .slice (some ⟨w.heap.size, 0, none⟩) 1 1) (hbase : base ≤ w.heap.size) (hlen : l.length ≤ 1000000000)
    (h : ∀ v' w', OwnB w' base v' (l ++ [c]) → Below base w w' → wpList Try.prog ops Q rest (a.put o.dst v') w') :
    wpList Try.prog ops Q (o :: rest) a (w.alloc (.cells #[.int .u8 n] 5)) := by
  obtain ⟨i0, hi, hz0, hz1, hz2⟩ := info_parts info5
  subst hn
  refine wpList_append_own _ hgd s x 26 ho base 5 i0 (.int .u8 0) 1 1 Try.underlying26 hi hz0 hz1 hz2 rfl (by decide) v l.length (Lib.byteCells l) hs (World.ownsRow.alloc hown _)
    ⟨w.heap.size, 0, none⟩ 1 1 [.int .u8 c.toNat] hx rfl ?_ ?_ (by unfold maxLen; omega) (by omega) (by simp; omega) ?_
  · intro j u hj
    match j, hj with
    | 0, hj => simp at hj; subst hj; simp [Addr.add]
    | j + 1, hj => simp at hj
  · intro u hu; simp at hu; subst hu; rfl
  · intro v' w' ho' hg _
    refine h v' w' ?_ ?_
    · unfold OwnB; rw [List.length_append]; simpa [Lib.byteCells] using ho'
    · exact ((Below.refl base w).alloc hbase _).grown hg (by simp; omega) (fun k hk => (World.ownsRow.lt hown k hk).1)

theorem wpList_pushs {ops : Array Oper} {rest : List Oper} {o : Oper} {a : Act} {Q : Exit → Act → World → Prop} (hgd : o.guard = none) (s x : Operand)
    (ho : o.op = .call { callee := .builtin .append, args := #[s, x], argTypes := #[26, 9] }) (w : World) (base : Nat) (v : Value) (l : List UInt8) (y : ByteArray)
    (hs : a.eval s = v) (hown : OwnB w base v l) (hx : a.eval x = .string y) (hbase : base ≤ w.heap.size) (hlen : l.length + y.size ≤ 1000000000)
    (h : ∀ v' w', OwnB w' base v' (l ++ y.data.toList) → Below base w w' → wpList Try.prog ops Q rest (a.put o.dst v') w') :
    wpList Try.prog ops Q (o :: rest) a w := by
  obtain ⟨i0, hi, hz0, hz1, hz2⟩ := info_parts info5
  refine Lib.wpList_append_own_string _ hgd s x 26 9 ho base 5 i0 Try.underlying26 Try.underlying9 hi hz0 hz1 hz2 v l.length (Lib.byteCells l) hs hown y hx (by unfold maxLen; omega) (by omega) hbase ?_
  intro v' w' ho' hg _
  refine h v' w' ?_ ?_
  · unfold OwnB; rw [List.length_append, ← Lib.size_eq]; simpa [Lib.byteCells, Lib.strCells] using ho'
  · exact (Below.refl base w).grown hg hbase (fun k hk => (World.ownsRow.lt hown k hk).1)

theorem OwnB.conv {w : World} {base : Nat} {v : Value} {l : List UInt8} (h : OwnB w base v l) : (convert 26 9 v).run Try.prog w = .ok (.string ⟨l.toArray⟩) w := by
  rcases h.2 with ⟨rfl, h0⟩ | ⟨g, cap, cur, rfl, _, hg, _, _, _, ht⟩
  · have : l = [] := List.eq_nil_of_length_eq_zero h0
    subst this
    exact Lib.run_convert_nil_bytes w 26 9 5 0 Try.underlying26 Try.underlying5 Try.underlying9
  · rw [Nat.mul_one] at ht
    exact run_convert_bytes_back w 26 9 5 ⟨g, 0, none⟩ cap l Try.underlying26 Try.underlying5 Try.underlying9 (Lib.bytes_of_row hg ht)

/-- The texts that a slice at A holds. -/
def Txt (w : World) (A : Option Addr) (ws : List (List UInt8)) : Prop :=
  ∀ i (h : i < ws.length), ∃ b o, A = some ⟨b, o, none⟩ ∧ b < w.heap.size ∧ w.cell? ⟨b, o + i, none⟩ = some (.string ⟨ws[i].toArray⟩)
theorem Txt.below {w w' : World} {A : Option Addr} {ws : List (List UInt8)} (h : Txt w A ws) (hb : Below w.heap.size w w') : Txt w' A ws := fun i hi => by
  obtain ⟨b, o, e, hlt, hc⟩ := h i hi
  exact ⟨b, o, e, Nat.lt_of_lt_of_le hlt hb.size, (hb.cell (p := ⟨b, o + i, none⟩) hlt).trans hc⟩
theorem Txt.drewN {w : World} {A : Option Addr} {ws : List (List UInt8)} (h : Txt w A ws) (n : Nat) : Txt (w.drewN n) A ws := h
theorem Txt.nil (w : World) (A : Option Addr) : Txt w A [] := fun i h => by simp at h
theorem Own.txt {w : World} {base : Nat} {v : Value} {ws : List (List UInt8)} (h : Own w base v ws) : ∃ A c, v = .slice A ws.length c ∧ Txt w A ws := by
  rcases h.2 with ⟨rfl, h0⟩ | ⟨g, cap, cur, rfl, hb, hg, hn, hc, hsz, ht⟩
  · have : ws = [] := List.eq_nil_of_length_eq_zero h0
    subst this
    exact ⟨none, 0, rfl, Txt.nil _ _⟩
  · refine ⟨_, _, rfl, fun i hi => ⟨g, 0, rfl, ?_, ?_⟩⟩
    · rcases Nat.lt_or_ge g w.heap.size with hlt | hge
      · exact hlt
      · rw [Array.getElem?_eq_none hge] at hg; cases hg
    · have := h.cells (g := g) rfl i (strV ws[i]) (by simp [hi])
      rw [show (⟨g, 0, none⟩ : Addr).add i = ⟨g, 0 + i, none⟩ by unfold Addr.add; split <;> simp_all] at this
      exact this

def JoinLeft (w : World) (ws : List (List UInt8)) (e : Ending) (w' : World) : Prop :=
  (ws.all Pl.isWd = true ∧ e = .returned (.tuple #[.string ⟨(Pl.join ws).toArray⟩, .int .i64 0]) ∧ Below w.heap.size w w') ∨
  (ws.all Pl.isWd = false ∧ e = .returned (.tuple #[.string ⟨#[]⟩, .int .i64 4]) ∧ Below w.heap.size w w')

theorem join_len (ws : List (List UInt8)) (m : Nat) (h : ∀ w ∈ ws, w.length ≤ m) : (Pl.join ws).length ≤ ws.length * (m + 1) := by
  induction ws with
  | nil => simp [Pl.join]
  | cons w ws ih =>
    have h1 := ih fun v hv => h v (by simp [hv])
    have h2 := h w (by simp)
    rw [Pl.join, List.length_cons, Nat.succ_mul]
    by_cases he : ws.isEmpty <;> simp [he] <;> omega
theorem alls_step {ws : List (List UInt8)} {k : Nat} (h : k < ws.length) (ha : (ws.take k).all Pl.isWd = true) (hb : Pl.isWd ws[k] = true) : (ws.take (k + 1)).all Pl.isWd = true := by
  rw [List.take_succ_eq_append_getElem h, List.all_append, ha]; simp [hb]
theorem alls_stop {ws : List (List UInt8)} {k : Nat} (h : k < ws.length) (hb : Pl.isWd ws[k] = false) : ws.all Pl.isWd = false := by
  rw [List.all_eq_false]; exact ⟨ws[k], List.getElem_mem h, by simp [hb]⟩

/-- EqTexts -/
theorem eqTexts_any (A B : Option Addr) (c d : Nat) (xs ys : List (List UInt8)) (w : World) (hx : Txt w A xs) (hy : Txt w B ys) (hn : xs.length ≤ 1000000000) (hm : ys.length ≤ 1000000000) :
    Calls Try.prog 51 #[.slice A xs.length c, .slice B ys.length d] w fun e w' => e = .returned (.bool (decide (xs = ys))) ∧ ∃ n, w' = w.drewN n := by
  have HX := Lib.hid hx
  have HY := Lib.hid hy
  clear hx hy
  by_cases hl : xs.length = ys.length
  · have hl' : ((xs.length : Int) != ys.length) = false := by simp; omega
    go_enter Try.func51, Try.ntmps51
    go_wp2
    go_loopw [5] (fun i wr => ∃ k n : Nat, k ≤ xs.length ∧ i = .int .i64 k ∧ Hid (xs.take k = ys.take k) ∧ wr = w.drewN n) (fun i _ => xs.length - (intOf i).toNat)
    case atStart => exact ⟨0, 0, Nat.zero_le _, rfl, by simp [Hid], rfl⟩
    case round =>
      obtain ⟨k, n, hk, rfl, heq, rfl⟩ := hrel
      by_cases hlt : k < xs.length
      · obtain ⟨b, o, rfl, hbl, hcell⟩ := HX.out k hlt
        obtain ⟨b2, o2, rfl, hbl2, hcell2⟩ := HY.out k (by omega)
        have c1 : (0 : Int) ≤ k := by omega
        have c2 : (k : Int) < xs.length := by omega
        have c3 : (k : Int) < ys.length := by omega
        by_cases hw : xs[k] = ys[k]'(by omega)
        · have hs1 : (xs[k] == ys[k]'(by omega)) = true := by rw [beq_iff_eq]; exact hw
          have heq' : Hid (xs.take (k + 1) = ys.take (k + 1)) := by
            show _ = _
            rw [List.take_succ_eq_append_getElem hlt, List.take_succ_eq_append_getElem (by omega), heq.out, hw]
          clear hw
          go_wp2
          go_quiet (fail)
          go_wp2
          go_roundw
          case rel => exact ⟨k + 1, _, by omega, by go_num, heq', rfl⟩
          case measure => simp [intOf]; omega
        · have hs1 : (xs[k] == ys[k]'(by omega)) = false := by rw [beq_eq_false_iff_ne]; exact hw
          have hfin : Hid (decide (xs = ys) = false) := decide_eq_false (by rintro rfl; exact hw rfl)
          clear hw
          go_wp2
          go_quiet (fail)
          go_wp2
          go_ret
          exact ⟨ret_bool hfin.out.symm, _, World.drewN_drewN _ _ _⟩
      · have e1 : xs.take k = xs := List.take_of_length_le (by omega)
        have e2 : ys.take k = ys := List.take_of_length_le (by omega)
        have hfin : Hid (decide (xs = ys) = true) := decide_eq_true (by have := heq.out; rwa [e1, e2] at this)
        clear e1 e2
        go_wp2
        go_ret
        exact ⟨ret_bool hfin.out.symm, _, rfl⟩
  · have hl' : ((xs.length : Int) != ys.length) = true := by simp; omega
    have hne : decide (xs = ys) = false := decide_eq_false (fun e => hl (by rw [e]))
    rw [hne]
    go_enter Try.func51, Try.ntmps51
    go_wp2
    go_ret
    exact ⟨rfl, 0, rfl⟩

/-- a statement's word: its bytes brought to be a word's -/
def wByte (c : UInt8) : UInt8 := UInt8.ofNat (33 + c.toNat % 94)
def wordTo (l : List UInt8) (k : Nat) : List UInt8 := 119 :: (l.take k).map wByte
theorem wByte_nat (c : UInt8) : (wByte c).toNat = 33 + c.toNat % 94 := by
  unfold wByte; rw [UInt8.toNat_ofNat']; exact Nat.mod_eq_of_lt (by have := Nat.mod_lt c.toNat (y := 94) (by decide); omega)
theorem wByte_wb (c : UInt8) : Pl.wb (wByte c) = true := Pl.wb_true (by rw [wByte_nat]; omega) (by rw [wByte_nat]; have := Nat.mod_lt c.toNat (y := 94) (by decide); omega)
theorem wordTo_isWd (l : List UInt8) (k : Nat) : Pl.isWd (wordTo l k) = true := by
  refine Pl.isWd_mk ?_ (by simp [wordTo])
  rw [List.all_eq_true]; intro c hc
  simp only [wordTo, List.mem_cons, List.mem_map] at hc
  rcases hc with rfl | ⟨d, _, rfl⟩
  · decide
  · exact wByte_wb d
theorem wordTo_step (s : ByteArray) (k : Nat) (h : k < s.size) : wordTo s.data.toList (k + 1) = wordTo s.data.toList k ++ [wByte s[k]] := by
  unfold wordTo
  rw [List.take_succ_eq_append_getElem (by rw [← Lib.size_eq]; exact h), List.map_append, at_list s k h]; rfl
theorem wordTo_len (l : List UInt8) (k : Nat) : (wordTo l k).length ≤ k + 1 := by simp [wordTo]; omega
theorem OwnB.made (w : World) (c : UInt8) : OwnB (w.alloc (.cells #[.int .u8 c.toNat] 5)) w.heap.size (.slice (some ⟨w.heap.size, 0, none⟩) 1 1) [c] :=
  ⟨rfl, .inr ⟨w.heap.size, 1, #[.int .u8 c.toNat], rfl, Nat.le_refl _, heap_alloc_new w _, Nat.le_refl _, by decide, rfl, rfl⟩⟩

end Go.Proofs.Ytajkbkllgbalkaa
