/- Packets in memory; the program's fieldsOf, numberIn, within, leastVersion, areLines. -/
import Derived.Test.YtajkbkllgbalkaaUc
namespace Go.Proofs.Ytajkbkllgbalkaa
open Go Go.RowKit

/-- texts that a slice holds, in blocks below 'D' -/
structure Ts (D : Nat) (w : World) (A : Option Addr) (c : Nat) (l : List Bs) : Prop where
  cap : l.length ≤ c
  nil : A = none → c = 0
  rd : ∀ i (hi : i < l.length), ∃ b off, A = some ⟨b, off, none⟩ ∧ b < D ∧ w.cell? ⟨b, off + i, none⟩ = some (.string ⟨l[i].toArray⟩)
theorem Ts.keep {D : Nat} {w w' : World} {A : Option Addr} {c : Nat} {l : List Bs} (h : Ts D w A c l) (hb : ∀ k, k < D → w'.heap[k]? = w.heap[k]?) : Ts D w' A c l :=
  ⟨h.cap, h.nil, fun i hi => by
    obtain ⟨b, off, e, hl, hc⟩ := h.rd i hi
    refine ⟨b, off, e, hl, Eq.trans ?_ hc⟩
    unfold World.cell?
    rw [hb b hl]⟩
theorem Ts.mono {D D' : Nat} {w : World} {A : Option Addr} {c : Nat} {l : List Bs} (h : Ts D w A c l) (hD : D ≤ D') : Ts D' w A c l :=
  ⟨h.cap, h.nil, fun i hi => by obtain ⟨b, off, e, hl, hc⟩ := h.rd i hi; exact ⟨b, off, e, Nat.lt_of_lt_of_le hl hD, hc⟩⟩
theorem Ts.below {w w' : World} {A : Option Addr} {c : Nat} {l : List Bs} (h : Ts w.heap.size w A c l) (hb : Below w.heap.size w w') : Ts w'.heap.size w' A c l := (h.keep fun k hk => hb.block k hk).mono hb.size
theorem Ts.take {D : Nat} {w : World} {A : Option Addr} {c : Nat} {l : List Bs} (h : Ts D w A c l) (k : Nat) : Ts D w A c (l.take k) :=
  ⟨Nat.le_trans (by rw [List.length_take]; omega) h.cap, h.nil, fun i hi => by
    have hi' : i < l.length := by rw [List.length_take] at hi; omega
    obtain ⟨b, off, e, hl, hc⟩ := h.rd i hi'
    exact ⟨b, off, e, hl, hc.trans (by simp)⟩⟩
theorem Ts.drop {D : Nat} {w : World} {A : Option Addr} {c : Nat} {l : List Bs} (h : Ts D w A c l) (k : Nat) (hk : k ≤ l.length) :
    Ts D w (if c = k then A else A.map fun a => a.add k) (c - k) (l.drop k) := by
  have hc := h.cap
  refine ⟨by rw [List.length_drop]; omega, fun e => ?_, fun i hi => ?_⟩
  · split at e
    · omega
    · have := h.nil (by simpa using e); omega
  · have hi' : k + i < l.length := by rw [List.length_drop] at hi; omega
    obtain ⟨b, off, e, hl, hcl⟩ := h.rd (k + i) hi'
    rw [if_neg (by omega), e]
    refine ⟨b, off + k, by rw [Option.map_some, add_pl], hl, ?_⟩
    rw [Nat.add_assoc, hcl]
    simp
theorem Ts.isNil {D : Nat} {w : World} {c : Nat} {l : List Bs} (h : Ts D w Option.none c l) : l = [] ∧ c = 0 := by
  have h1 := h.nil rfl
  have h2 := h.cap
  exact ⟨List.eq_nil_of_length_eq_zero (by omega), h1⟩
theorem Ts.empty (D : Nat) (w : World) : Ts D w none 0 [] := ⟨Nat.le_refl _, fun _ => rfl, fun i hi => by simp at hi⟩
theorem Own.ts {w : World} {base : Nat} {v : Value} {l : List Bs} (h : Own w base v l) : ∃ A c, v = .slice A l.length c ∧ Ts w.heap.size w A c l := by
  rcases h.2 with ⟨rfl, h0⟩ | ⟨g, cap, cur, rfl, hb, hg, hn, hc, hsz, ht⟩
  · have : l = [] := List.eq_nil_of_length_eq_zero h0
    subst this
    exact ⟨_, 0, rfl, Ts.empty _ _⟩
  · refine ⟨_, _, rfl, hn, (fun e => by cases e), fun i hi => ⟨g, 0, rfl, ?_, ?_⟩⟩
    · rcases Nat.lt_or_ge g w.heap.size with hlt | hge
      · exact hlt
      · rw [Array.getElem?_eq_none hge] at hg; cases hg
    · have := h.cells (g := g) rfl i (strV l[i]) (by simp [hi])
      rw [show (⟨g, 0, none⟩ : Addr).add i = ⟨g, 0 + i, none⟩ by unfold Addr.add; split <;> simp_all] at this
      exact this
/-- a packet's cells -/
def pshA (p : Psh) (A : Option Addr) (n c : Nat) : Array Value := #[.int .i64 p.kind, .int .i64 p.ver, .int .i64 p.frm, .int .i64 p.node, .int .i64 p.tick, .int .i64 p.head, .int .i64 p.tail, .string ⟨p.text.toArray⟩, .slice A n c]
/-- a packet whose lines lie in blocks below 'D' -/
structure PsIn (D : Nat) (w : World) (p : Psh) (A : Option Addr) (n c : Nat) : Prop where
  len : n = p.lines.length
  ts : Ts D w A c p.lines
  few : p.lines.length ≤ 1000000
  short : ∀ s ∈ p.lines, s.length ≤ 1000000
  txt : p.text.length ≤ 1000000000
theorem PsIn.keep {D : Nat} {w w' : World} {p : Psh} {A : Option Addr} {n c : Nat} (h : PsIn D w p A n c) (hb : ∀ k, k < D → w'.heap[k]? = w.heap[k]?) : PsIn D w' p A n c := ⟨h.len, h.ts.keep hb, h.few, h.short, h.txt⟩
theorem PsIn.mono {D D' : Nat} {w : World} {p : Psh} {A : Option Addr} {n c : Nat} (h : PsIn D w p A n c) (hD : D ≤ D') : PsIn D' w p A n c := ⟨h.len, h.ts.mono hD, h.few, h.short, h.txt⟩
theorem PsIn.below {w w' : World} {p : Psh} {A : Option Addr} {n c : Nat} (h : PsIn w.heap.size w p A n c) (hb : Below w.heap.size w w') : PsIn w'.heap.size w' p A n c := ⟨h.len, h.ts.below hb, h.few, h.short, h.txt⟩
theorem zero_in (D : Nat) (w : World) : PsIn D w zeroP none 0 0 := ⟨rfl, Ts.empty _ _, by decide, (fun s h => by cases h), by decide⟩
/-- a number's bit -/
def bitI (k : Nat) : Int := ((2 ^ k : Nat) : Int)
set_option maxRecDepth 100000 in
theorem fieldsOf_any (k : Int) (w : World) : Calls Try.prog 35 #[.int .i64 k] w fun e w' => e = .returned (.int .i64 (fldN k)) ∧ w = w' := by
  by_cases h1 : k = 1
  · subst h1
    go_enter Try.func35, Try.ntmps35
    go_wp2_with fail
    go_ret
    exact ⟨rfl, rfl⟩
  by_cases h2 : k = 2
  · subst h2
    go_enter Try.func35, Try.ntmps35
    go_wp2_with fail
    go_ret
    exact ⟨rfl, rfl⟩
  by_cases h3 : k = 3
  · subst h3
    go_enter Try.func35, Try.ntmps35
    go_wp2_with fail
    go_ret
    exact ⟨rfl, rfl⟩
  by_cases h4 : k = 4
  · subst h4
    go_enter Try.func35, Try.ntmps35
    go_wp2_with fail
    go_ret
    exact ⟨rfl, rfl⟩
  by_cases h5 : k = 5
  · subst h5
    go_enter Try.func35, Try.ntmps35
    go_wp2_with fail
    go_ret
    exact ⟨rfl, rfl⟩
  · have HF : Hid (fldN k = 0) := Lib.hid (by unfold fldN; simp [h1, h2, h3, h4, h5])
    go_enter Try.func35, Try.ntmps35
    go_wp2_with fail
    go_ret
    rw [HF.out]
    exact ⟨rfl, rfl⟩
set_option maxRecDepth 100000 in
theorem numberIn_0 (g : Nat) (w : World) : Calls Try.prog 69 #[.pointer (some ⟨g, 0, none⟩), .int .i64 1] w fun e w' => e = .returned (.pointer (some ⟨g, 1, none⟩)) ∧ w = w' := by
  go_enter Try.func69, Try.ntmps69
  go_wp2_with fail
  go_ret
  exact ⟨rfl, rfl⟩
set_option maxRecDepth 100000 in
theorem numberIn_1 (g : Nat) (w : World) : Calls Try.prog 69 #[.pointer (some ⟨g, 0, none⟩), .int .i64 2] w fun e w' => e = .returned (.pointer (some ⟨g, 2, none⟩)) ∧ w = w' := by
  go_enter Try.func69, Try.ntmps69
  go_wp2_with fail
  go_ret
  exact ⟨rfl, rfl⟩
set_option maxRecDepth 100000 in
theorem numberIn_2 (g : Nat) (w : World) : Calls Try.prog 69 #[.pointer (some ⟨g, 0, none⟩), .int .i64 4] w fun e w' => e = .returned (.pointer (some ⟨g, 3, none⟩)) ∧ w = w' := by
  go_enter Try.func69, Try.ntmps69
  go_wp2_with fail
  go_ret
  exact ⟨rfl, rfl⟩
set_option maxRecDepth 100000 in
theorem numberIn_3 (g : Nat) (w : World) : Calls Try.prog 69 #[.pointer (some ⟨g, 0, none⟩), .int .i64 8] w fun e w' => e = .returned (.pointer (some ⟨g, 4, none⟩)) ∧ w = w' := by
  go_enter Try.func69, Try.ntmps69
  go_wp2_with fail
  go_ret
  exact ⟨rfl, rfl⟩
set_option maxRecDepth 100000 in
theorem numberIn_4 (g : Nat) (w : World) : Calls Try.prog 69 #[.pointer (some ⟨g, 0, none⟩), .int .i64 16] w fun e w' => e = .returned (.pointer (some ⟨g, 5, none⟩)) ∧ w = w' := by
  go_enter Try.func69, Try.ntmps69
  go_wp2_with fail
  go_ret
  exact ⟨rfl, rfl⟩
set_option maxRecDepth 100000 in
theorem numberIn_5 (g : Nat) (w : World) : Calls Try.prog 69 #[.pointer (some ⟨g, 0, none⟩), .int .i64 32] w fun e w' => e = .returned (.pointer (some ⟨g, 6, none⟩)) ∧ w = w' := by
  go_enter Try.func69, Try.ntmps69
  go_wp2_with fail
  go_ret
  exact ⟨rfl, rfl⟩
set_option maxRecDepth 100000 in
theorem within_any (n a b : Int) (w : World) : Calls Try.prog 71 #[.int .i64 n, .int .i64 a, .int .i64 b] w fun e w' => e = .returned (.bool (inR n a b)) ∧ w = w' := by
  by_cases h1 : a ≤ n
  · by_cases h2 : n ≤ b
    · have HR : Hid (inR n a b = true) := Lib.hid ((inR_iff n a b).2 ⟨h1, h2⟩)
      go_enter Try.func71, Try.ntmps71
      go_wp2_with fail
      go_ret
      rw [HR.out]
      exact ⟨rfl, rfl⟩
    · have HR : Hid (inR n a b = false) := Lib.hid (by unfold inR; simp [h2])
      go_enter Try.func71, Try.ntmps71
      go_wp2_with fail
      go_ret
      rw [HR.out]
      exact ⟨rfl, rfl⟩
  · have HR : Hid (inR n a b = false) := Lib.hid (by unfold inR; simp [h1])
    go_enter Try.func71, Try.ntmps71
    go_wp2_with fail
    go_ret
    rw [HR.out]
    exact ⟨rfl, rfl⟩
set_option maxRecDepth 100000 in
theorem leastV_any (k : Int) (w : World) : Calls Try.prog 72 #[.int .i64 k] w fun e w' => e = .returned (.int .i64 (leastV k)) ∧ w = w' := by
  by_cases h1 : k = 4
  · subst h1
    go_enter Try.func72, Try.ntmps72
    go_wp2_with fail
    go_ret
    exact ⟨rfl, rfl⟩
  by_cases h2 : k = 5
  · subst h2
    go_enter Try.func72, Try.ntmps72
    go_wp2_with fail
    go_ret
    exact ⟨rfl, rfl⟩
  · have HR : Hid (leastV k = 1) := Lib.hid (by unfold leastV; simp [h1, h2])
    have q1 : (k == 4 || k == 5) = false := by simp [h1, h2]
    go_enter Try.func72, Try.ntmps72
    go_wp2_with fail
    go_ret
    rw [HR.out]
    exact ⟨rfl, rfl⟩
end Go.Proofs.Ytajkbkllgbalkaa
