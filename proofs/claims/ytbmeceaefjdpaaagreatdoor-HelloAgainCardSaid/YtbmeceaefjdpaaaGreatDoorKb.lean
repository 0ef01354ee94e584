/- The program's writer: number, part. -/
import Derived.Test.YtbmeceaefjdpaaaGreatDoorKa
namespace Go.Proofs.YtbmeceaefjdpaaaGreatDoor
open Go Go.RowKit

/-- What an append to a row leaves: all blocks that there were, but the row's own. -/
structure Gw (base : Nat) (A A' : Option Addr) (w w' : World) : Prop where
  below : Below base w w'
  old : ∀ k, k < w.heap.size → A ≠ some ⟨k, 0, none⟩ → w'.heap[k]? = w.heap[k]?
  at_ : A' = A ∨ ∃ k, w.heap.size ≤ k ∧ A' = some ⟨k, 0, none⟩
theorem Gw.refl (base : Nat) (A : Option Addr) (w : World) : Gw base A A w w := ⟨Below.refl _ _, fun _ _ _ => rfl, .inl rfl⟩
theorem Gw.trans {base : Nat} {A A' A'' : Option Addr} {a b c : World} (h : Gw base A A' a b) (k : Gw base A' A'' b c) : Gw base A A'' a c := by
  refine ⟨h.below.trans k.below, fun i hi hn => ?_, ?_⟩
  · refine (k.old i (Nat.lt_of_lt_of_le hi h.below.size) fun e => ?_).trans (h.old i hi hn)
    rcases h.at_ with rfl | ⟨j, hj, rfl⟩
    · exact hn e
    · cases e; omega
  · rcases k.at_ with rfl | ⟨j, hj, rfl⟩
    · exact h.at_
    · exact .inr ⟨j, Nat.le_trans h.below.size hj, rfl⟩
theorem gw_new {base : Nat} (w : World) (A : Option Addr) (o : Obj) (hb : base ≤ w.heap.size) : Gw base A A w (w.alloc o) := ⟨(Below.refl base w).alloc hb o, fun _ hk _ => heap_alloc_old w o hk, .inl rfl⟩
theorem wpList_pushW {ops : Array Oper} {rest : List Oper} {o : Oper} {a : Act} {Q : Exit → Act → World → Prop} (hgd : o.guard = none) (s x : Operand) (tx : TypeId)
    (ho : o.op = .call { callee := .builtin .append, args := #[s, x], argTypes := #[22, tx] }) (w : World) (base : Nat) (A : Option Addr) (c n m : Nat) (l z : List UInt8) (xv : Value) (hn : l.length = n) (hm : z.length = m)
    (hs : a.eval s = .slice A n c) (hx : a.eval x = xv) (h : RowG w base A c l) (hsrc : Src Tryz.prog 1 tx xv z.length (Lib.byteCells z) w) (hbase : base ≤ w.heap.size) (hlen : n + m ≤ 140737488355328)
    (hk : ∀ (A' : Option Addr) (c' : Nat) w', RowG w' base A' c' (l ++ z) → Gw base A A' w w' → wpList Tryz.prog ops Q rest (a.put o.dst (.slice A' (n + m) c')) w') :
    wpList Tryz.prog ops Q (o :: rest) a w := by
  subst hn hm
  refine wpList_plain hgd fun K hK => ?_
  obtain ⟨A', c', w', hr, h2, h3, h4, h5⟩ := run_pushG w base o.type tx A c l z xv h hsrc hbase hlen
  unfold Oper.wp execOp
  simp only [ho, resolve, invoke, builtin, Sem.run_bind, Sem.run_pure, Result.andThen_ok, List.map_toArray, List.map_cons, List.map_nil, hs, hx, hr]
  exact hK _ _ (hk A' c' w' h2 ⟨h3, h4, h5⟩)
theorem wpList_pushOneW {ops : Array Oper} {rest : List Oper} {o : Oper} {a : Act} {Q : Exit → Act → World → Prop} (hgd : o.guard = none) (s x : Operand)
    (ho : o.op = .call { callee := .builtin .append, args := #[s, x], argTypes := #[22, 22] }) (w : World) (base : Nat) (A : Option Addr) (c n : Nat) (l : List UInt8) (v : Int) (y : UInt8) (hv : v = y.toNat) (hn : l.length = n)
    (hs : a.eval s = .slice A n c) (hx : a.eval x = .slice (some ⟨w.heap.size, 0, none⟩) 1 1) (h : RowG w base A c l) (hbase : base ≤ w.heap.size) (hlen : n + 1 ≤ 140737488355328)
    (hk : ∀ (A' : Option Addr) (c' : Nat) w', RowG w' base A' c' (l ++ [y]) → Gw base A A' w w' → wpList Tryz.prog ops Q rest (a.put o.dst (.slice A' (n + 1) c')) w') :
    wpList Tryz.prog ops Q (o :: rest) a (w.alloc (.cells #[.int .u8 v] 5)) := by
  refine wpList_pushW hgd s x 22 ho _ base A c n 1 l [y] _ hn rfl hs hx (h.below (below_new _ _)) (src_rb (rb_new w v y hv)) (Nat.le_trans hbase (below_new _ _).size) hlen fun A' c' w' h1 h2 => hk A' c' w' h1 ((gw_new w A _ hbase).trans h2)
/-- what is left of an append of 'z' -/
def GrewP (base : Nat) (A : Option Addr) (l z : List UInt8) (w : World) (e : Ending) (w' : World) : Prop := ∃ (A' : Option Addr) (c' : Nat), e = .returned (.slice A' (l.length + z.length) c') ∧ RowG w' base A' c' (l ++ z) ∧ Gw base A A' w w'
set_option maxRecDepth 100000 in
set_option maxHeartbeats 400000 in
theorem number_prog {base : Nat} {A : Option Addr} {c q : Nat} {l : List UInt8} (n k : Nat) {w : World} (hR : RowG w base A c l) (hq : l.length = q) (hbase : base ≤ w.heap.size) (hl : l.length ≤ 100000000000) (hk : k ≤ 3) :
    Calls Tryz.prog 83 #[.slice A q c, .int .i64 k, .int .i64 n] w (GrewP base A l (rowB n k) w) := by
  subst hq
  have HR := Lib.hid hR
  have HB := Lib.hid hbase
  have HL := Lib.hid hl
  have hkl := rowB_len n k
  clear hR hl
  unfold GrewP
  rw [hkl]
  go_enter Tryz.func83, Tryz.ntmps83
  go_wp2_with fail
  go_loopw [0, 7] (fun v i wr => ∃ (m : Nat) (R : List UInt8) (A' : Option Addr) (c' : Nat), m ≤ k ∧ i = .int .i64 (8 * (m : Int) - 8) ∧ v = .slice A' (l.length + R.length) c' ∧ RowG wr base A' c' (l ++ R) ∧ R ++ rowB n m = rowB n k ∧ Gw base A A' w wr) (fun _ i _ => (intOf i + 8).toNat)
  case atStart => exact ⟨k, [], A, c, Nat.le_refl _, congrArg (Value.int .i64) (by omega), rfl, by rw [List.append_nil]; exact HR.out, rfl, Gw.refl _ _ _⟩
  case round =>
    obtain ⟨m, R, A', c', hm, rfl, rfl, hown, hR, hb⟩ := hrel
    have hlen : R.length ≤ 3 := by
      have := congrArg List.length hR
      rw [List.length_append, rowB_len, rowB_len] at this
      omega
    have hLL := HL.out
    have ho := Lib.hid hown
    have hb' := Lib.hid hb
    clear hown hb
    have hbs := hb'.out.below.size
    have hbb : base ≤ wr.heap.size := Nat.le_trans HB.out hbs
    cases m with
    | zero =>
      go_wp2_with fail
      go_ret
      rw [rowB, List.append_nil] at hR
      subst hR
      exact ⟨A', c', by rw [hkl]; rfl, ho.out, hb'.out⟩
    | succ m =>
      have hcases : m = 0 ∨ m = 1 ∨ m = 2 := by omega
      rcases hcases with rfl | rfl | rfl
      · go_wp2_with (at_builtin; refine wpList_pushOneW rfl (.tmp 15) (.tmp 20) rfl _ base A' c' (l.length + R.length) (l ++ R) _ (UInt8.ofNat (n / 256 ^ 0)) ?_ (List.length_append ..) rfl rfl ho.out hbb (by omega) ?_; rotate_left; intro A1 c1 w1 hr1 hb1)
        all_goals first
          | (rw [← byte_at n 0]; simp; done)
          | exact ⟨⟨0, R ++ [UInt8.ofNat (n / 256 ^ 0)], A1, c1, by omega, rfl, by rw [List.length_append]; rfl, by rw [← List.append_assoc]; exact hr1, by rw [← hR, List.append_assoc]; rfl, hb'.out.trans hb1⟩, by simp [intOf]⟩
      · go_wp2_with (at_builtin; refine wpList_pushOneW rfl (.tmp 15) (.tmp 20) rfl _ base A' c' (l.length + R.length) (l ++ R) _ (UInt8.ofNat (n / 256 ^ 1)) ?_ (List.length_append ..) rfl rfl ho.out hbb (by omega) ?_; rotate_left; intro A1 c1 w1 hr1 hb1)
        all_goals first
          | exact byte_at n 1
          | exact ⟨⟨1, R ++ [UInt8.ofNat (n / 256 ^ 1)], A1, c1, by omega, rfl, by rw [List.length_append]; rfl, by rw [← List.append_assoc]; exact hr1, by rw [← hR, List.append_assoc]; rfl, hb'.out.trans hb1⟩, by simp [intOf]⟩
      · go_wp2_with (at_builtin; refine wpList_pushOneW rfl (.tmp 15) (.tmp 20) rfl _ base A' c' (l.length + R.length) (l ++ R) _ (UInt8.ofNat (n / 256 ^ 2)) ?_ (List.length_append ..) rfl rfl ho.out hbb (by omega) ?_; rotate_left; intro A1 c1 w1 hr1 hb1)
        all_goals first
          | exact byte_at n 2
          | exact ⟨⟨2, R ++ [UInt8.ofNat (n / 256 ^ 2)], A1, c1, by omega, rfl, by rw [List.length_append]; rfl, by rw [← List.append_assoc]; exact hr1, by rw [← hR, List.append_assoc]; rfl, hb'.out.trans hb1⟩, by simp [intOf]⟩
/-- bytes that an append to 'A' leaves as they are -/
def Safe (A : Option Addr) (w : World) (F : Option Addr) (fc : Nat) (z : List UInt8) : Prop :=
  ∀ w', w.heap.size ≤ w'.heap.size → (∀ k, k < w.heap.size → A ≠ some ⟨k, 0, none⟩ → w'.heap[k]? = w.heap[k]?) → Rb w'.heap.size w' F fc z
theorem safe_old {base : Nat} {A : Option Addr} {w : World} {F : Option Addr} {fc c : Nat} {l z : List UInt8} (hR : RowG w base A c l) (hz : Rb base w F fc z) (hb : base ≤ w.heap.size) : Safe A w F fc z := fun w' hs hk =>
  (hz.keep fun k hk' => hk k (Nat.lt_of_lt_of_le hk' hb) fun e => by have := (hR.lt e).1; omega).mono (Nat.le_trans hb hs)
theorem safe_row {b2 : Nat} {A : Option Addr} {w : World} {F : Option Addr} {fc : Nat} {z : List UInt8} (hz : RowG w b2 F fc z) (hA : ∀ g, A = some ⟨g, 0, none⟩ → g < b2) : Safe A w F fc z := fun w' hs hk =>
  (hz.keep hs fun g e => hk g (hz.lt e).2 fun e' => by have := hA g e'; have := (hz.lt e).1; omega).rb
set_option maxRecDepth 100000 in
set_option maxHeartbeats 400000 in
theorem part_prog {base : Nat} {A : Option Addr} {c q : Nat} {l : List UInt8} (k : Nat) {F : Option Addr} {fc m : Nat} {z : List UInt8} {w : World} (hR : RowG w base A c l) (hq : l.length = q) (hm : z.length = m) (hbase : base ≤ w.heap.size) (hl : l.length ≤ 10000000000) (hz : z.length ≤ 10000000000) (hk : k ≤ 3) (hF : Safe A w F fc z) :
    Calls Tryz.prog 61 #[.slice A q c, .int .i64 k, .slice F m fc] w (GrewP base A l (fillB z k) w) := by
  subst hq hm
  have CN := Lib.hid (number_prog z.length k hR rfl hbase (by omega) hk)
  have HS : Hid (fillB z k = rowB z.length k ++ z) := Lib.hid rfl
  have HB := Lib.hid hbase
  have HKL := Lib.hid (rowB_len z.length k)
  have HF := Lib.hid hF
  clear hR hF
  unfold GrewP at *
  generalize fillB z k = X at *
  generalize rowB z.length k = Y at *
  go_enter Tryz.func61, Tryz.ntmps61
  go_wp2_with (first
    | (go_at_call 83; refine CN.out.mono ?_; rintro e w1 ⟨A1, c1, rfl, hr1, hb1⟩; have R1 := Lib.hid hr1; have B1 := Lib.hid hb1; clear hr1 hb1)
    | (at_builtin; refine wpList_pushW rfl (.tmp 11) (.tmp 12) 22 rfl w1 base A1 c1 (l.length + Y.length) z.length (l ++ Y) z (.slice F z.length fc) (List.length_append ..) rfl rfl rfl R1.out (src_rb (HF.out w1 B1.out.below.size B1.out.old)) (Nat.le_trans HB.out B1.out.below.size) (by have := HKL.out; omega) ?_; intro A2 c2 w2 hr2 hb2; have R2 := Lib.hid hr2; have B2 := Lib.hid (B1.out.trans hb2); clear hr2 hb2))
  go_ret
  rw [HS.out]
  exact ⟨A2, c2, by rw [List.length_append, ← Nat.add_assoc]; rfl, by rw [← List.append_assoc]; exact R2.out, B2.out⟩
end Go.Proofs.YtbmeceaefjdpaaaGreatDoor
