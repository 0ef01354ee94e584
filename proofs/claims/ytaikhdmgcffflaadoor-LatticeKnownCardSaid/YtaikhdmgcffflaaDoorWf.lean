/- Rows of numbers that a slice holds: Up, Down, EqInts, Bring. -/
import Derived.Test.YtaikhdmgcffflaaDoorWe
import Derived.Deep.AppendLies
import Derived.Laws.OwnMore
namespace Go.Proofs.YtaikhdmgcffflaaDoor
open Go Go.RowKit Go.Shelf

/-- The cells that a slice holds, nil or not, in whatever block. -/
def Rd (w : World) (A : Option Addr) (vs : List Value) : Prop :=
  ∀ i (hi : i < vs.length), ∃ b off, A = some ⟨b, off, none⟩ ∧ b < w.heap.size ∧ w.cell? ⟨b, off + i, none⟩ = some vs[i]
theorem Rd.below {w w' : World} {A : Option Addr} {vs : List Value} (h : Rd w A vs) (hb : Below w.heap.size w w') : Rd w' A vs := fun i hi => by
  obtain ⟨b, off, e, hl, hc⟩ := h i hi
  exact ⟨b, off, e, Nat.lt_of_lt_of_le hl hb.size, (hb.cell (p := ⟨b, off + i, none⟩) hl).trans hc⟩
theorem Rd.drewN {w : World} {A : Option Addr} {vs : List Value} (h : Rd w A vs) (n : Nat) : Rd (w.drewN n) A vs := h
theorem Rd.nil (w : World) (A : Option Addr) : Rd w A [] := fun i h => by simp at h
theorem add_pl (b off i : Nat) : (⟨b, off, none⟩ : Addr).add i = ⟨b, off + i, none⟩ := by unfold Addr.add; split <;> simp_all
theorem Rd.own {w : World} {base size : Nat} {e : TypeId} {v : Value} {n : Nat} {vs : List Value} (h : w.ownsRow base e size v n vs) : ∃ A c, v = .slice A n c ∧ Rd w A vs := by
  rcases Nat.eq_zero_or_pos n with h0 | h0
  · subst h0
    have hl : vs = [] := List.eq_nil_of_length_eq_zero (by simpa using h.1)
    subst hl
    rcases h.2 with ⟨rfl, _⟩ | ⟨g, cap, cur, rfl, _⟩
    · exact ⟨none, 0, rfl, Rd.nil _ _⟩
    · exact ⟨_, cap, rfl, Rd.nil _ _⟩
  · obtain ⟨g, cap, rfl, _, hlt⟩ := h.form h0
    refine ⟨_, cap, rfl, fun i hi => ⟨g, 0, rfl, hlt, ?_⟩⟩
    have := h.cells (g := g) rfl i vs[i] (List.getElem?_eq_getElem hi)
    rw [add_pl] at this
    exact this
/-- A row of numbers. -/
def nv (l : List Nat) : List Value := l.map fun x => Value.int .i64 (x : Nat)
theorem nv_len (l : List Nat) : (nv l).length = l.length := by simp [nv]
theorem nv_snoc (l : List Nat) (x : Nat) : nv (l ++ [x]) = nv l ++ [.int .i64 (x : Nat)] := by simp [nv]
theorem iv_nv (s : Nat) : iv (elsE s) = nv (els s) := by
  rw [← elsE_val]
  simp [iv, nv]
theorem elsE_len (s : Nat) : (elsE s).length = (els s).length := by rw [← elsE_val, List.length_map]
/-- A slice value that holds these numbers. -/
def Ns (w : World) (v : Value) (l : List Nat) : Prop := ∃ A c, v = .slice A l.length c ∧ Rd w A (nv l)
theorem Ns.below {w w' : World} {v : Value} {l : List Nat} (h : Ns w v l) (hb : Below w.heap.size w w') : Ns w' v l := by
  obtain ⟨A, c, e, h⟩ := h
  exact ⟨A, c, e, h.below hb⟩
theorem Ns.own {w : World} {base : Nat} {e : TypeId} {v : Value} {l : List Nat} (h : w.ownsRow base e 1 v l.length (nv l)) : Ns w v l := Rd.own h
theorem Ns.nil (w : World) : Ns w (.slice none 0 0) [] := ⟨none, 0, rfl, Rd.nil _ _⟩

theorem below_new (w : World) (o : Obj) : Below w.heap.size w (w.alloc o) := (Below.refl _ _).alloc (Nat.le_refl _) o
theorem Below.and {a b c : World} (h : Below a.heap.size a b) (k : Below b.heap.size b c) : Below a.heap.size a c := h.trans (k.mono h.size)
theorem below_drewN {B : Nat} {a w : World} (h : Below B a w) (n : Nat) : Below B a (w.drewN n) := ⟨h.os, h.tape, h.output, h.size, h.block⟩

/-- What Up and Down leave: a row of numbers, and all that lay as it was. -/
def NsPost (l : List Nat) (w : World) (e : Ending) (w' : World) : Prop := ∃ v, e = .returned v ∧ Ns w' v l ∧ Below w.heap.size w w'
/-- The same, of a row of the call's own. -/
def OwnPost (l : List Nat) (w : World) (e : Ending) (w' : World) : Prop := ∃ v, e = .returned v ∧ ∃ base, w.heap.size ≤ base ∧ w'.ownsRow base 3 1 v l.length (nv l) ∧ Below w.heap.size w w'
theorem OwnPost.ns {l : List Nat} {w w' : World} {e : Ending} (h : OwnPost l w e w') : NsPost l w e w' := by
  obtain ⟨v, he, base, _, hr, hb⟩ := h
  exact ⟨v, he, Ns.own hr, hb⟩
theorem down_own (b n : Nat) (A : Nat → Nat) (g : Good n A) (a : Nat) (ha : a < n) (w : World) (hT : Tab w) (h : IsOrd w b n A) :
    Calls Tryd.prog 55 #[.pointer (some ⟨b, 0, none⟩), .int .i64 a] w (OwnPost (dnL n A a) w) := by
  have hn := g.le16
  go_enter Tryd.func55, Tryd.ntmps55
  go_wp2_with fail
  refine (has_yes b n A _ _ h ha).mono ?_
  rintro e w' ⟨rfl, rfl⟩
  go_wp2_with fail
  refine (down_any b n A g.small a (by omega) _ hT h).mono ?_
  rintro e w1 ⟨rfl, hb1⟩
  go_wp2_with fail
  refine (elements_any _ _).mono ?_
  rintro e w2 ⟨rfl, rfl⟩
  have hb2 := Below.and hb1 (below_new w1 (.cells #[.int .u16 (clo A a : Nat)] 110))
  have T2 := hT.below hb2 hT.lt
  have X2 := Boxed.new w1 110 (.int .u16 (clo A a : Nat))
  clear hb1
  generalize w1.alloc (.cells #[.int .u16 (clo A a : Nat)] 110) = w2 at *
  go_wp2_with fail
  refine (collect_any _ _ (clo_lt g.small (by omega)) _ T2 X2).mono ?_
  rintro e w3 ⟨v, rfl, hr, hb3⟩
  rw [iv_nv, elsE_len, els_down g ha] at hr
  go_wp2_with fail
  go_ret
  exact ⟨v, rfl, _, hb2.size, hr, Below.and hb2 hb3⟩
theorem down_yes (b n : Nat) (A : Nat → Nat) (g : Good n A) (a : Nat) (ha : a < n) (w : World) (hT : Tab w) (h : IsOrd w b n A) :
    Calls Tryd.prog 55 #[.pointer (some ⟨b, 0, none⟩), .int .i64 a] w (NsPost (dnL n A a) w) :=
  (down_own b n A g a ha w hT h).mono fun _ _ hp => hp.ns
theorem down_no (b n : Nat) (A : Nat → Nat) (a : Int) (ha : ¬ (0 ≤ a ∧ a < n)) (w : World) (h : IsOrd w b n A) :
    Calls Tryd.prog 55 #[.pointer (some ⟨b, 0, none⟩), .int .i64 a] w fun e w' => e = .returned (.slice none 0 0) ∧ w = w' := by
  go_enter Tryd.func55, Tryd.ntmps55
  go_wp2_with fail
  refine (has_out b n A _ _ h ha).mono ?_
  rintro e w' ⟨rfl, rfl⟩
  go_wp2_with fail
  go_ret
  exact ⟨rfl, rfl⟩

theorem Rd.nat {w : World} {A : Option Addr} {l : List Nat} (h : Rd w A (nv l)) (i : Nat) (hi : i < l.length) : ∃ b off, A = some ⟨b, off, none⟩ ∧ b < w.heap.size ∧ w.cell? ⟨b, off + i, none⟩ = some (.int .i64 (l[i] : Nat)) := by
  obtain ⟨b, off, e, hl, hc⟩ := h i (by rw [nv_len]; exact hi)
  refine ⟨b, off, e, hl, hc.trans ?_⟩
  simp [nv]

/-- A number brought to be from 0 to below n. -/
def bring (i : Int) (n : Nat) : Nat := (i % (n : Int)).toNat
theorem bring_lt (i : Int) {n : Nat} (hn : 1 ≤ n) : bring i n < n := by
  unfold bring
  have := Int.emod_lt_of_pos i (show (0 : Int) < n by omega)
  omega
theorem tmod_parts (i : Int) (n : Nat) (h1 : 1 ≤ n) : -(n : Int) < i.tmod n ∧ i.tmod n < n ∧ i % (n : Int) = (i.tmod n) % (n : Int) := by
  refine ⟨Int.lt_tmod_of_pos _ (by omega), Int.tmod_lt_of_pos _ (by omega), ?_⟩
  have h := Int.mul_tdiv_add_tmod i n
  rw [← h, Int.mul_add_emod_self_left, h]
theorem bring_neg {i : Int} {n : Nat} (h1 : 1 ≤ n) (h : i.tmod n < 0) : i.tmod n + n = ((bring i n : Nat) : Int) := by
  obtain ⟨h2, h3, h4⟩ := tmod_parts i n h1
  unfold bring
  rw [h4, ← Int.add_emod_right, Int.emod_eq_of_lt (by omega) (by omega)]
  omega
theorem bring_pos {i : Int} {n : Nat} (h1 : 1 ≤ n) (h : 0 ≤ i.tmod n) : i.tmod n = ((bring i n : Nat) : Int) := by
  obtain ⟨h2, h3, h4⟩ := tmod_parts i n h1
  unfold bring
  rw [h4, Int.emod_eq_of_lt (by omega) (by omega)]
  omega
theorem bring_any (i : Int) (n : Nat) (h1 : 1 ≤ n) (h2 : n ≤ 16) (w : World) :
    Calls Tryd.prog 15 #[.int .i64 i, .int .i64 n] w fun e w' => e = .returned (.int .i64 (bring i n : Nat)) ∧ w = w' := by
  have hnz : ((n : Int) == 0) = false := by rw [beq_eq_false_iff_ne]; omega
  have hm1 : ((n : Int) == -1) = false := by rw [beq_eq_false_iff_ne]; omega
  obtain ⟨h3, h4, _⟩ := tmod_parts i n h1
  rcases (show i.tmod n < 0 ∨ 0 ≤ i.tmod n by omega) with h | h
  · have HB := Lib.hid (bring_neg h1 h)
    go_enter Tryd.func15, Tryd.ntmps15
    go_wp2
    go_ret
    exact ⟨ret_int HB.out, rfl⟩
  · have HB := Lib.hid (bring_pos h1 h)
    go_enter Tryd.func15, Tryd.ntmps15
    go_wp2
    go_ret
    exact ⟨ret_int HB.out, rfl⟩
end Go.Proofs.YtaikhdmgcffflaaDoor
