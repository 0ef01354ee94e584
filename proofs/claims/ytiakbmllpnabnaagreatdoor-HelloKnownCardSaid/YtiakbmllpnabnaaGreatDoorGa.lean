/- The program's small functions of layer 6 (fitsHost, isPort, isLabel), and the library's Cut at one byte. -/
import Derived.Test.YtiakbmllpnabnaaGreatDoorGp
import Derived.Test.YtiakbmllpnabnaaGreatDoorGs
import Derived.Test.YtiakbmllpnabnaaGreatDoorWa
import Derived.RegionTactic
import Derived.ChangeAlike
namespace Go.Proofs.YtiakbmllpnabnaaGreatDoor
open Go Go.RowKit Pl

theorem below_new (w : World) (o : Obj) : Below w.heap.size w (w.alloc o) := (Below.refl _ _).alloc (Nat.le_refl _) o
def NormP (l : List UInt8) (w : World) (e : Ending) (w' : World) : Prop := e = .returned (normV (normP l)) ∧ Below w.heap.size w w'
theorem add_pl (b off i : Nat) : (⟨b, off, none⟩ : Addr).add i = ⟨b, off + i, none⟩ := by unfold Addr.add; split <;> simp_all
def BoolP (b : Bool) (w : World) (e : Ending) (w' : World) : Prop := e = .returned (.bool b) ∧ Below w.heap.size w w'
theorem Below.and {a b c : World} (h : Below a.heap.size a b) (k : Below b.heap.size b c) : Below a.heap.size a c := h.trans (k.mono h.size)
theorem below_drewN {B : Nat} {a w : World} (h : Below B a w) (n : Nat) : Below B a (w.drewN n) := ⟨h.os, h.tape, h.output, h.size, h.block⟩
theorem grownBy_below {w w' : World} (h : Below w.heap.size w w') (r : Option Nat) : w.grownBy w' r := ⟨h.os, h.tape, h.output, h.size, fun k hk _ => h.block k hk⟩
theorem mk_data (s : ByteArray) : (⟨s.data.toList.toArray⟩ : ByteArray) = s := by simp
theorem size_mk (l : List UInt8) : (⟨l.toArray⟩ : ByteArray).size = l.length := by rw [Lib.size_eq]
theorem hdC_piece (c : UInt8) (s : ByteArray) : s.extract 0 (hdC c s.data.toList).length = ⟨(hdC c s.data.toList).toArray⟩ := by
  rw [Lib.extract_eq]; simp only [List.drop_zero, Nat.sub_zero]; rw [take_hdC]
theorem tlC_piece (c : UInt8) (s : ByteArray) : s.extract ((hdC c s.data.toList).length + 1) s.size = ⟨(tlC c s.data.toList).toArray⟩ := by
  rw [Lib.extract_eq, drop_hdC, List.take_of_length_le]
  rw [← drop_hdC, List.length_drop, ← Lib.size_eq]; exact Nat.le_refl _

theorem fits_any (c : UInt8) (w : World) :
    Calls Tryz.prog 93 #[.int .u8 (c.toNat : Int)] w fun e w' => e = .returned (.bool (fitB c)) ∧ w = w' := by
  have hb : c.toNat < 256 := c.toNat_lt
  generalize hr : (c.toNat : Int) = r
  have e : fitB c = (((decide (97 ≤ r) && decide (r ≤ 122)) || (decide (48 ≤ r) && decide (r ≤ 57))) || decide (r = 45) || decide (r = 46)) := by
    rw [Bool.eq_iff_iff, fitB_iff]
    simp only [Bool.or_eq_true, Bool.and_eq_true, decide_eq_true_iff]
    omega
  rw [e]
  clear e hr hb
  have H1 : (r == 45) = decide (r = 45) := rfl
  have H2 : (r == 46) = decide (r = 46) := rfl
  by_cases h1 : 97 ≤ r <;> by_cases h2 : r ≤ 122 <;> by_cases h3 : 48 ≤ r <;> by_cases h4 : r ≤ 57 <;> by_cases h5 : r = 45 <;> by_cases h6 : r = 46 <;> first
    | (exfalso; omega)
    | (go_enter Tryz.func93, Tryz.ntmps93
       go_wp2
       go_ret
       exact ⟨ret_bool (by simp [*]), rfl⟩)

theorem isPort_any (n : Int) (w : World) :
    Calls Tryz.prog 77 #[.int .i64 n] w fun e w' => e = .returned (.bool (isP n)) ∧ w = w' := by
  unfold isP
  by_cases h1 : 1 ≤ n <;> by_cases h2 : n ≤ 65535
  all_goals
    go_enter Tryz.func77, Tryz.ntmps77
    go_wp2
    go_ret
    exact ⟨ret_bool (by simp [h1, h2]), rfl⟩

/-- internal/stringslite.Cut at one byte -/
theorem litecut_any (c : UInt8) (s : ByteArray) (w : World) (hs : s.size ≤ maxLen) :
    Calls Tryz.prog 90 #[.string s, .string ⟨#[c]⟩] w fun e w' => e = .returned (.tuple #[.string ⟨(hdC c s.data.toList).toArray⟩, .string ⟨(tlC c s.data.toList).toArray⟩, .bool (hasC c s.data.toList)]) ∧ ∃ n, w' = w.drewN n := by
  unfold maxLen at hs
  by_cases h : c ∈ s.data.toList
  · have hdd := Lib.hid (show hasC c s.data.toList = true from decide_eq_true h)
    have hlt := hdC_lt h
    rw [← Lib.size_eq] at hlt
    have hix := Lib.hid (indexByteC c s.data.toList)
    have hp := Lib.hid (hdC_piece c s)
    have ht := Lib.hid (tlC_piece c s)
    rw [if_pos h] at hix
    generalize hdC c s.data.toList = hd at *
    generalize tlC c s.data.toList = tl at *
    obtain ⟨k, hk⟩ : ∃ k, k = hd.length := ⟨_, rfl⟩
    rw [← hk] at hix hp ht hlt
    rw [← hp.out, ← ht.out]
    clear hp ht hk
    have c1 : (0 : Int) ≤ ↑k := by omega
    have c2 : (↑k : Int) ≤ ↑s.size := by omega
    have c3 : (0 : Int) ≤ ↑k + 1 := by omega
    have c4 : (↑k + 1 : Int) ≤ ↑s.size := by omega
    go_enter Tryz.func90, Tryz.ntmps90
    go_wp2_with (go_at_call 101; refine (Tryz.stringslite_Index_one _ _ _).mono ?_; rintro e w' ⟨rfl, rfl⟩; rw [hix.out])
    go_region
    go_wp2
    go_ret3
    exact ⟨by rw [hdd.out]; rfl, 1, rfl⟩
  · have hdd := Lib.hid (show hasC c s.data.toList = false from decide_eq_false h)
    have hix := Lib.hid (indexByteC c s.data.toList)
    rw [if_neg h] at hix
    rw [(hdC_none h).1, (hdC_none h).2, mk_data]
    go_enter Tryz.func90, Tryz.ntmps90
    go_wp2_with (go_at_call 101; refine (Tryz.stringslite_Index_one _ _ _).mono ?_; rintro e w' ⟨rfl, rfl⟩; rw [hix.out])
    go_ret3
    exact ⟨by rw [hdd.out]; rfl, 0, rfl⟩
theorem cutC_any (c : UInt8) (s : ByteArray) (w : World) (hs : s.size ≤ maxLen) :
    Calls Tryz.prog 73 #[.string s, .string ⟨#[c]⟩] w fun e w' => e = .returned (.tuple #[.string ⟨(hdC c s.data.toList).toArray⟩, .string ⟨(tlC c s.data.toList).toArray⟩, .bool (hasC c s.data.toList)]) ∧ ∃ n, w' = w.drewN n := by
  go_enter Tryz.func73, Tryz.ntmps73
  go_wp2_with (go_at_call 90; refine (litecut_any _ _ _ hs).mono ?_; rintro e w' ⟨rfl, n, rfl⟩)
  go_ret3
  exact ⟨rfl, _, rfl⟩
theorem pre45 (l : List UInt8) : Lib.hasPrefix l [45] = decide (l.head? = some 45) := by
  unfold Lib.hasPrefix
  cases l with
  | nil => rfl
  | cons a r => simp [List.isPrefixOf, eq_comm, BEq.beq]
theorem suf45 (l : List UInt8) : Lib.hasSuffix l [45] = decide (l.getLast? = some 45) := by
  unfold Lib.hasSuffix List.isSuffixOf
  rw [← List.head?_reverse]
  exact pre45 l.reverse
theorem isLabel_any (s : ByteArray) (w : World) (hs : s.size ≤ maxLen) :
    Calls Tryz.prog 95 #[.string s] w fun e w' => e = .returned (.bool (edgeOk s.data.toList)) ∧ w = w' := by
  unfold maxLen at hs
  have hz := Lib.size_eq s
  by_cases h0 : s.data.toList = []
  · have h0b : (!s.data.toList.isEmpty) = false := by rw [h0]; rfl
    have e0 : edgeOk s.data.toList = false := by rw [h0]; rfl
    rw [e0]
    clear e0
    have n1 : s.toList = [] := by rw [Lib.toList_data]; exact h0
    have n2 : (!s.toList.isEmpty) = false := by rw [n1]; rfl
    clear h0 h0b hz
    go_enter Tryz.func95, Tryz.ntmps95
    go_wp2_with fail
    go_ret
    exact ⟨rfl, rfl⟩
  · have h0b : s.data.toList.isEmpty = false := by simpa using h0
    have n1 : ¬ s.toList = [] := by rw [Lib.toList_data]; exact h0
    have n2 : s.toList.isEmpty = false := by rw [Lib.toList_data]; exact h0b
    have n3 : (!s.toList.isEmpty) = true := by rw [n2]; rfl
    have E := Lib.hid (show edgeOk s.data.toList = (decide (s.size ≤ 20) && !Lib.hasPrefix s.data.toList [45] && !Lib.hasSuffix s.data.toList [45]) by unfold edgeOk; rw [h0b, pre45, suf45, hz]; rfl)
    rw [E.out]
    clear h0 h0b E
    by_cases h1 : (s.size : Int) ≤ 20
    · have h1' : s.size ≤ 20 := by omega
      cases hp : Lib.hasPrefix s.data.toList [45]
      · have HP := Lib.hid hp
        clear hp hz
        cases hq : Lib.hasSuffix s.data.toList [45]
        all_goals
          have HQ := Lib.hid hq
          clear hq
          go_enter Tryz.func95, Tryz.ntmps95
          go_wp2_with (first
            | (go_at_call 106; refine (Tryz.strings_HasPrefix _ _ _).mono ?_; rintro e w' ⟨rfl, rfl⟩; rw [HP.out])
            | (go_at_call 107; refine (Tryz.strings_HasSuffix _ _ _ (by omega)).mono ?_; rintro e w' ⟨rfl, rfl⟩; rw [HQ.out]))
          go_ret
          exact ⟨ret_bool (by rw [decide_eq_true h1']; rfl), rfl⟩
      · have HP := Lib.hid hp
        clear hp hz
        go_enter Tryz.func95, Tryz.ntmps95
        go_wp2_with (go_at_call 106; refine (Tryz.strings_HasPrefix _ _ _).mono ?_; rintro e w' ⟨rfl, rfl⟩; rw [HP.out])
        go_ret
        exact ⟨ret_bool (by simp), rfl⟩
    · have h1' : ¬ s.size ≤ 20 := by omega
      clear hz
      go_enter Tryz.func95, Tryz.ntmps95
      go_wp2_with fail
      go_ret
      exact ⟨ret_bool (by simp), rfl⟩
end Go.Proofs.YtiakbmllpnabnaaGreatDoor
