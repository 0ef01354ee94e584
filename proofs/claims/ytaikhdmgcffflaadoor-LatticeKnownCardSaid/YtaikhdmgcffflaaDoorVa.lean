/- A lattice in memory; walks of its small methods. -/
import Derived.Test.YtaikhdmgcffflaaDoorWd
import Derived.Test.YtaikhdmgcffflaaDoorQa
namespace Go.Proofs.YtaikhdmgcffflaaDoor
open Go Go.RowKit

/-- A block of m cells. -/
def Blk (w : World) (b : Nat) (t : TypeId) (m : Nat) (f : Nat → Value) : Prop := w.heap[b]? = some (.cells ((List.range m).map f).toArray t (0, 0))
section
variable {w w' : World} {b m : Nat} {t : TypeId} {f : Nat → Value}
theorem Blk.lt (h : Blk w b t m f) : b < w.heap.size := (Array.getElem?_eq_some_iff.1 h).1
theorem Blk.below (h : Blk w b t m f) {B : Nat} (hb : Below B w w') (hB : b < B) : Blk w' b t m f := (hb.block b hB).trans h
theorem Blk.kept (h : Blk w b t m f) {row : Option Nat} (hg : w.grownBy w' row) (hne : some b ≠ row) : Blk w' b t m f := (hg.block b h.lt hne).trans h
theorem Blk.cell (h : Blk w b t m f) {i : Nat} (hi : i < m) : w.cell? ⟨b, i, none⟩ = some (f i) := by
  simp [World.cell?, show w.heap[b]? = _ from h, hi]
theorem Blk.free (h : Blk w b t m f) (i : Nat) : w.frozen? ⟨b, i, none⟩ = false := by
  simp [World.frozen?, show w.heap[b]? = _ from h]
theorem Blk.set (h : Blk w b t m f) (i : Nat) (v : Value) : Blk (w.setCell ⟨b, i, none⟩ v) b t m (fun j => if j = i then v else f j) := by
  obtain ⟨hlt, hk⟩ := Array.getElem?_eq_some_iff.1 h
  show (w.heap.modify b _)[b]? = _
  rw [Array.getElem?_eq_getElem (by rw [Array.size_modify]; exact hlt), Array.getElem_modify_self, hk]
  congr 1
  simp only [Option.isSome_none, Bool.false_eq_true, if_false]
  congr 1
  apply Array.ext
  · simp
  · intro j h1 h2
    simp only [List.setIfInBounds_toArray, List.getElem_toArray, List.getElem_set, List.getElem_map, List.getElem_range]
    by_cases e : i = j
    · subst e; simp
    · rw [if_neg e, if_neg (fun e' => e e'.symm)]
theorem Blk.congr (h : Blk w b t m f) {g : Nat → Value} (e : ∀ i, i < m → f i = g i) : Blk w b t m g := by
  have : (List.range m).map f = (List.range m).map g := List.map_congr_left fun i hi => e i (List.mem_range.1 hi)
  unfold Blk
  rw [← this]
  exact h
theorem Blk.drewN (h : Blk w b t m f) (k : Nat) : Blk (w.drewN k) b t m f := h
theorem Blk.new (w : World) {cs : Array Value} (hc : cs = ((List.range m).map f).toArray) : Blk (w.alloc (.cells cs t)) w.heap.size t m f := by
  subst hc; exact World.alloc_heap_new w _
end

def strV (l : List UInt8) : Value := .string ⟨l.toArray⟩
theorem mk_toList (l : List UInt8) : (⟨l.toArray⟩ : ByteArray).data.toList = l := by simp
theorem strV_data (s : ByteArray) : strV s.data.toList = .string s := by
  unfold strV
  congr 1

/-- The cells of a lattice. -/
def latF (n : Nat) (nm : Nat → Value) (C : Nat → Nat) (lo hi : Nat) (d s : Int) (J M : Nat → Nat) (i : Nat) : Value :=
  if i = 0 then .int .i64 n else if i < 11 then nm (i - 1) else if i < 21 then .int .i64 (C (i - 11) : Nat) else if i = 21 then .int .i64 lo else if i = 22 then .int .i64 hi else
  if i = 23 then .int .u32 d else if i = 24 then .int .i32 s else if i = 25 then .int .u32 0 else if i < 126 then .int .i64 (J (i - 26) : Nat) else .int .i64 (M (i - 126) : Nat)
def nmF (N : List (List UInt8)) (i : Nat) : Value := strV (N.getD i [])
def cdF (n : Nat) (A : Nat → Nat) (i : Nat) : Nat := if i < n then clo A i else 0
/-- Joins and meets, as far as they are laid. -/
def jT (n : Nat) (A : Nat → Nat) (m k : Nat) : Nat := if k < m ∧ k % 10 < n then joinP n A (k / 10) (k % 10) else 0
def mT (n : Nat) (A : Nat → Nat) (m k : Nat) : Nat := if k < m ∧ k % 10 < n then meetP n A (k / 10) (k % 10) else 0
/-- A lattice whose names and codes are laid, with so many joins and meets. -/
def LatM (w : World) (b n : Nat) (N : List (List UInt8)) (A : Nat → Nat) (lo hi : Nat) (d s : Int) (j m : Nat) : Prop :=
  Blk w b 76 226 (latF n (nmF N) (cdF n A) lo hi d s (jT n A j) (mT n A m))

section
variable {w : World} {b n : Nat} {N : List (List UInt8)} {A : Nat → Nat} {lo hi : Nat} {d s : Int} {j m : Nat}
theorem LatM.many (h : LatM w b n N A lo hi d s j m) : w.cell? ⟨b, 0, none⟩ = some (.int .i64 n) := (Blk.cell h (by omega)).trans (by simp [latF])
theorem LatM.name (h : LatM w b n N A lo hi d s j m) {i : Nat} (hi : i < 10) : w.cell? ⟨b, 1 + i, none⟩ = some (.string ⟨(N.getD i []).toArray⟩) := by
  refine (Blk.cell h (by omega)).trans ?_
  unfold latF
  rw [if_neg (by omega), if_pos (by omega), show 1 + i - 1 = i by omega]
  rfl
theorem LatM.code (h : LatM w b n N A lo hi d s j m) {i : Nat} (hi : i < 10) (hn : i < n) : w.cell? ⟨b, 11 + i, none⟩ = some (.int .i64 (clo A i : Nat)) := by
  refine (Blk.cell h (by omega)).trans ?_
  unfold latF
  rw [if_neg (by omega), if_neg (by omega), if_pos (by omega), show 11 + i - 11 = i by omega, cdF, if_pos hn]
theorem LatM.low (h : LatM w b n N A lo hi d s j m) : w.cell? ⟨b, 21, none⟩ = some (.int .i64 lo) := (Blk.cell h (by omega)).trans (by simp [latF])
theorem LatM.high (h : LatM w b n N A lo hi d s j m) : w.cell? ⟨b, 22, none⟩ = some (.int .i64 hi) := (Blk.cell h (by omega)).trans (by simp [latF])
theorem LatM.done (h : LatM w b n N A lo hi d s j m) : w.cell? ⟨b, 23, none⟩ = some (.int .u32 d) := (Blk.cell h (by omega)).trans (by simp [latF])
theorem LatM.state (h : LatM w b n N A lo hi d s j m) : w.cell? ⟨b, 24, none⟩ = some (.int .i32 s) := (Blk.cell h (by omega)).trans (by simp [latF])
theorem LatM.join (h : LatM w b n N A lo hi d s j m) {x y : Nat} (hx : x < 10) (hy : y < 10) : w.cell? ⟨b, 26 + x * 10 + y, none⟩ = some (.int .i64 (jT n A j (x * 10 + y) : Nat)) := by
  refine (Blk.cell h (by omega)).trans ?_
  unfold latF
  rw [if_neg (by omega), if_neg (by omega), if_neg (by omega), if_neg (by omega), if_neg (by omega), if_neg (by omega), if_neg (by omega), if_neg (by omega), if_pos (by omega), show 26 + x * 10 + y - 26 = x * 10 + y by omega]
theorem LatM.meet (h : LatM w b n N A lo hi d s j m) {x y : Nat} (hx : x < 10) (hy : y < 10) : w.cell? ⟨b, 126 + x * 10 + y, none⟩ = some (.int .i64 (mT n A m (x * 10 + y) : Nat)) := by
  refine (Blk.cell h (by omega)).trans ?_
  unfold latF
  rw [if_neg (by omega), if_neg (by omega), if_neg (by omega), if_neg (by omega), if_neg (by omega), if_neg (by omega), if_neg (by omega), if_neg (by omega), if_neg (by omega), show 126 + x * 10 + y - 126 = x * 10 + y by omega]
end

theorem LatM.drewN {w : World} {b n : Nat} {N : List (List UInt8)} {A : Nat → Nat} {lo hi : Nat} {d s : Int} {j m : Nat} (h : LatM w b n N A lo hi d s j m) (k : Nat) : LatM (w.drewN k) b n N A lo hi d s j m := h

/-! Many, Low, High, has. -/
theorem latMany_nil (w : World) : Calls Tryd.prog 19 #[.pointer none] w fun e w' => e = .returned (.int .i64 0) ∧ w = w' := by
  go_enter Tryd.func19, Tryd.ntmps19
  go_wp2
  go_ret
  exact ⟨rfl, rfl⟩
theorem latMany_any (b n : Nat) (w : World) (hm : w.cell? ⟨b, 0, none⟩ = some (.int .i64 n)) : Calls Tryd.prog 19 #[.pointer (some ⟨b, 0, none⟩)] w fun e w' => e = .returned (.int .i64 n) ∧ w = w' := by
  go_enter Tryd.func19, Tryd.ntmps19
  go_wp2
  go_ret
  exact ⟨rfl, rfl⟩
theorem latLow_nil (w : World) : Calls Tryd.prog 20 #[.pointer none] w fun e w' => e = .returned (.int .i64 0) ∧ w = w' := by
  go_enter Tryd.func20, Tryd.ntmps20
  go_wp2
  go_ret
  exact ⟨rfl, rfl⟩
theorem latLow_any (b n : Nat) (w : World) (hm : w.cell? ⟨b, 21, none⟩ = some (.int .i64 n)) : Calls Tryd.prog 20 #[.pointer (some ⟨b, 0, none⟩)] w fun e w' => e = .returned (.int .i64 n) ∧ w = w' := by
  go_enter Tryd.func20, Tryd.ntmps20
  go_wp2
  go_ret
  exact ⟨rfl, rfl⟩
theorem latHigh_nil (w : World) : Calls Tryd.prog 21 #[.pointer none] w fun e w' => e = .returned (.int .i64 0) ∧ w = w' := by
  go_enter Tryd.func21, Tryd.ntmps21
  go_wp2
  go_ret
  exact ⟨rfl, rfl⟩
theorem latHigh_any (b n : Nat) (w : World) (hm : w.cell? ⟨b, 22, none⟩ = some (.int .i64 n)) : Calls Tryd.prog 21 #[.pointer (some ⟨b, 0, none⟩)] w fun e w' => e = .returned (.int .i64 n) ∧ w = w' := by
  go_enter Tryd.func21, Tryd.ntmps21
  go_wp2
  go_ret
  exact ⟨rfl, rfl⟩

theorem latHas_neg (p : Option Addr) (a : Int) (w : World) (h : a < 0) : Calls Tryd.prog 46 #[.pointer p, .int .i64 a] w fun e w' => e = .returned (.bool false) ∧ w = w' := by
  go_enter Tryd.func46, Tryd.ntmps46
  go_wp2_with fail
  go_ret
  exact ⟨rfl, rfl⟩
theorem latHas_any (b n : Nat) (a : Int) (w : World) (hm : w.cell? ⟨b, 0, none⟩ = some (.int .i64 n)) : Calls Tryd.prog 46 #[.pointer (some ⟨b, 0, none⟩), .int .i64 a] w fun e w' => e = .returned (.bool (decide (0 ≤ a ∧ a < n))) ∧ w = w' := by
  by_cases h0 : 0 ≤ a
  · go_enter Tryd.func46, Tryd.ntmps46
    go_wp2_with (go_at_call 19; refine (latMany_any b n _ hm).mono ?_; rintro e w' ⟨rfl, rfl⟩)
    go_ret
    exact ⟨ret_bool (by simp [h0]), rfl⟩
  · refine (latHas_neg _ a w (by omega)).mono fun e w' ⟨he, hw⟩ => ⟨he.trans (ret_bool (by simp; omega)), hw⟩
theorem latHas_nil (a : Int) (w : World) : Calls Tryd.prog 46 #[.pointer none, .int .i64 a] w fun e w' => e = .returned (.bool false) ∧ w = w' := by
  by_cases h0 : 0 ≤ a
  · go_enter Tryd.func46, Tryd.ntmps46
    go_wp2_with (go_at_call 19; refine (latMany_nil _).mono ?_; rintro e w' ⟨rfl, rfl⟩)
    go_ret
    exact ⟨ret_bool (by simp; omega), rfl⟩
  · exact latHas_neg _ a w (by omega)
theorem latHas_yes (b n a : Nat) (w : World) (hm : w.cell? ⟨b, 0, none⟩ = some (.int .i64 n)) (ha : a < n) : Calls Tryd.prog 46 #[.pointer (some ⟨b, 0, none⟩), .int .i64 a] w fun e w' => e = .returned (.bool true) ∧ w = w' :=
  (latHas_any b n a w hm).mono fun _ _ ⟨he, hw⟩ => ⟨he.trans (ret_bool (by simp; omega)), hw⟩
theorem latHas_no (b n : Nat) (a : Int) (w : World) (hm : w.cell? ⟨b, 0, none⟩ = some (.int .i64 n)) (ha : ¬ (0 ≤ a ∧ a < n)) : Calls Tryd.prog 46 #[.pointer (some ⟨b, 0, none⟩), .int .i64 a] w fun e w' => e = .returned (.bool false) ∧ w = w' :=
  (latHas_any b n a w hm).mono fun _ _ ⟨he, hw⟩ => ⟨he.trans (ret_bool (by simpa using ha)), hw⟩

/-! Numbers of ten bits. -/
theorem ofInt_i64 (a : Nat) (ha : a < 1048576) : (BitVec.ofInt 64 (a : Int)).toNat = a := by
  rw [BitVec.ofInt_natCast, BitVec.toNat_ofNat]; exact Nat.mod_eq_of_lt (by omega)
theorem wrap_i64_small (a : Nat) (ha : a < 1048576) : IntKind.i64.wrap (a : Int) = a := by
  simp [IntKind.wrap, IntKind.bits, IntKind.signed]
  omega
theorem i64_and_nat (a b : Nat) (ha : a < 1048576) (hb : b < 1048576) : bits .and .i64 (a : Int) (b : Int) = ((a &&& b : Nat) : Int) := by
  show IntKind.i64.wrap ((BitVec.ofInt 64 (a : Int) &&& BitVec.ofInt 64 (b : Int)).toNat : Int) = _
  rw [BitVec.toNat_and, ofInt_i64 a ha, ofInt_i64 b hb]
  exact wrap_i64_small _ (Nat.lt_of_le_of_lt Nat.and_le_left ha)
theorem i64_or_nat (a b : Nat) (ha : a < 1048576) (hb : b < 1048576) : bits .or .i64 (a : Int) (b : Int) = ((a ||| b : Nat) : Int) := by
  show IntKind.i64.wrap ((BitVec.ofInt 64 (a : Int) ||| BitVec.ofInt 64 (b : Int)).toNat : Int) = _
  rw [BitVec.toNat_or, ofInt_i64 a ha, ofInt_i64 b hb]
  exact wrap_i64_small _ (Nat.or_lt_two_pow (n := 20) ha hb)
theorem tb_not64 (b i : Nat) (hb : b < 18446744073709551616) : (2 ^ 64 - 1 - b).testBit i = (decide (i < 64) && !b.testBit i) := by
  rw [show 2 ^ 64 - 1 - b = 2 ^ 64 - (b + 1) by omega, Nat.testBit_two_pow_sub_succ (by omega)]
theorem i64_andNot_nat (a b : Nat) (ha : a < 1048576) (hb : b < 1048576) : (bits .andNot .i64 (a : Int) (b : Int) == 0) = (a &&& b == a) := by
  have e : bits .andNot .i64 (a : Int) (b : Int) = ((a &&& (2 ^ 64 - 1 - b) : Nat) : Int) := by
    show IntKind.i64.wrap ((BitVec.ofInt 64 (a : Int) &&& ~~~BitVec.ofInt 64 (b : Int)).toNat : Int) = _
    rw [BitVec.toNat_and, BitVec.toNat_not, ofInt_i64 a ha, ofInt_i64 b hb]
    exact wrap_i64_small _ (Nat.lt_of_le_of_lt Nat.and_le_left ha)
  rw [e, Bool.eq_iff_iff, beq_iff_eq, beq_iff_eq, Int.natCast_eq_zero]
  constructor
  · intro h
    apply Nat.eq_of_testBit_eq
    intro i
    have := congrArg (fun s => s.testBit i) h
    simp only [Nat.testBit_and, tb_not64 b i (by omega), Nat.zero_testBit] at this
    rw [Nat.testBit_and]
    cases h1 : a.testBit i with
    | false => rfl
    | true =>
      have hi : i < 64 := by
        rcases Nat.lt_or_ge i 64 with h2 | h2
        · exact h2
        · rw [Nat.testBit_lt_two_pow] at h1
          · cases h1
          · exact Nat.lt_of_lt_of_le ha (Nat.le_trans (by decide) (Nat.pow_le_pow_right (n := 2) (by omega) h2))
      simpa [h1, hi] using this
  · intro h
    apply Nat.eq_of_testBit_eq
    intro i
    have := congrArg (fun s => s.testBit i) h
    simp only [Nat.testBit_and] at this
    rw [Nat.testBit_and, tb_not64 b i (by omega), Nat.zero_testBit]
    cases h1 : a.testBit i <;> cases h2 : b.testBit i <;> simp_all
theorem clo_lt10 {n : Nat} {A : Nat → Nat} (g : Good n A) (hn : n ≤ 10) {a : Nat} (ha : a < n) : clo A a < 1024 := by
  apply Nat.lt_pow_two_of_testBit (n := 10)
  intro j hj
  cases h : (clo A a).testBit j with
  | false => rfl
  | true => have := g.le_lt ha h; omega
theorem within_any (a b : Nat) (ha : a < 1048576) (hb : b < 1048576) (w : World) : Calls Tryd.prog 49 #[.int .i64 a, .int .i64 b] w fun e w' => e = .returned (.bool (a &&& b == a)) ∧ w = w' := by
  have h := i64_andNot_nat a b ha hb
  go_enter Tryd.func49, Tryd.ntmps49
  go_wp2
  go_ret
  exact ⟨rfl, rfl⟩
end Go.Proofs.YtaikhdmgcffflaaDoor
