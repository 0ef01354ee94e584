/- The statement's own body TextNames: true for every text, byte and place, in every world that holds the library's table of powers of ten. -/
import Derived.Test.YtjhppekoinpheaaDoorWh
namespace Go.Proofs.YtjhppekoinpheaaDoor
open Go Go.RowKit

theorem getD_app {a b : List UInt8} (h : a ≠ []) : (a ++ b).getD 0 0 = a.getD 0 0 := by
  cases a with
  | nil => exact absurd rfl h
  | cons c r => rfl
/-- A name with a byte put in at k. -/
theorem name_put {l : List UInt8} {k : Nat} {c : UInt8} (h : Pl.isName l = true) (hk : k ≤ l.length) :
    Pl.isName (l.take k ++ [c] ++ l.drop k) = (decide (l.length < 12) && (Pl.letB c || (decide (0 < k) && (decide (c.toNat = 45) || Pl.digB c)))) := by
  obtain ⟨h1, h2, h3, h4⟩ := Pl.isName_iff.1 h
  have hlen : (l.take k ++ [c] ++ l.drop k).length = l.length + 1 := by simp; omega
  have hall : (l.take k ++ [c] ++ l.drop k).all Pl.namB = Pl.namB c := by
    rw [List.all_append, List.all_append]
    have e : l.all Pl.namB = ((l.take k).all Pl.namB && (l.drop k).all Pl.namB) := by rw [← List.all_append, List.take_append_drop]
    rw [h4] at e
    have e' := e.symm
    rw [Bool.and_eq_true] at e'
    rw [e'.1, e'.2]; simp
  have hhead : (l.take k ++ [c] ++ l.drop k).getD 0 0 = if k = 0 then c else l.getD 0 0 := by
    by_cases h0 : k = 0
    · subst h0; simp
    · rw [if_neg h0, List.append_assoc, getD_app (by intro e; have := congrArg List.length e; rw [List.length_take, List.length_nil] at this; omega)]
      cases l with
      | nil => simp at h1
      | cons a b => cases k with
        | zero => exact absurd rfl h0
        | succ k => rfl
  unfold Pl.isName
  rw [hlen, hall, hhead, decide_eq_true (show 1 ≤ l.length + 1 by omega)]
  have e12 : decide (l.length + 1 ≤ 12) = decide (l.length < 12) := by congr 1
  rw [e12]
  by_cases h0 : k = 0
  · subst h0
    simp only [if_true, Pl.namB]
    cases Pl.letB c <;> simp
  · rw [if_neg h0, h3, decide_eq_true (show 0 < k by omega)]
    simp only [Pl.namB]
    cases Pl.letB c <;> cases Pl.digB c <;> simp

def Fine (c k : Nat) : Prop := (97 ≤ c ∧ c ≤ 122) ∨ (0 < k ∧ (c = 45 ∨ (48 ≤ c ∧ c ≤ 57)))
theorem put_iff {l : List UInt8} {k : Nat} {c : UInt8} (h : Pl.isName l = true) (hk : k ≤ l.length) : Pl.isName (l.take k ++ [c] ++ l.drop k) = true ↔ l.length < 12 ∧ Fine c.toNat k := by
  rw [name_put h hk]
  simp only [Bool.and_eq_true, Bool.or_eq_true, decide_eq_true_iff, Pl.letB_iff, Pl.digB_iff]
  exact Iff.rfl
theorem put_yes {l : List UInt8} {k : Nat} {c : UInt8} (h : Pl.isName l = true) (hk : k ≤ l.length) (h1 : l.length < 12) (h2 : Fine c.toNat k) : Pl.nameR (l.take k ++ [c] ++ l.drop k) = 0 :=
  Pl.nameR_yes ((put_iff h hk).2 ⟨h1, h2⟩)
theorem put_no {l : List UInt8} {k : Nat} {c : UInt8} (h : Pl.isName l = true) (hk : k ≤ l.length) (h1 : ¬ (l.length < 12 ∧ Fine c.toNat k)) : Pl.nameR (l.take k ++ [c] ++ l.drop k) = 31 :=
  Pl.nameR_no (Pl.bfalse (put_iff h hk) h1)
theorem put_list (t : ByteArray) (k : Nat) (c : UInt8) (_hk : k ≤ t.size) : (t.extract 0 k ++ (⟨#[c]⟩ : ByteArray) ++ t.extract k t.size).data.toList = t.data.toList.take k ++ [c] ++ t.data.toList.drop k := by
  have e1 : t.extract 0 k = ⟨(t.data.toList.take k).toArray⟩ := by rw [Lib.extract_eq]; simp
  have e2 : t.extract k t.size = ⟨(t.data.toList.drop k).toArray⟩ := by
    rw [Lib.extract_eq, List.take_of_length_le (by rw [List.length_drop, ← Lib.size_eq]; omega)]
  have e3 := ByteArray.mk_append_mk (t.data.toList.take k) [c]
  have e4 := ByteArray.mk_append_mk (t.data.toList.take k ++ [c]) (t.data.toList.drop k)
  rw [e1, e2, show (⟨#[c]⟩ : ByteArray) = ⟨([c] : List UInt8).toArray⟩ from rfl, e3, e4, mk_toList]

set_option maxHeartbeats 4000000 in
set_option maxRecDepth 100000 in
theorem textNames_any (s : ByteArray) (c : UInt8) (at_ : Int) (w : World) (hs : s.size ≤ maxLen) (ht : Tab w) :
    Calls Tryd.prog 8 #[.string s, .int .u8 c.toNat, .int .i64 at_] w fun e w' => e = .returned (.bool true) ∧ Below w.heap.size w w' := by
  have HT := Lib.hid ht
  clear ht
  unfold maxLen at hs
  have hcb : c.toNat < 256 := c.toNat_lt
  go_enter Tryd.func8, Tryd.ntmps8
  go_wp2_with fail
  have hsz : (s.extract 0 (min (s.size : Int) 30).toNat).size ≤ 30 := by simp; omega
  generalize s.extract 0 (min (s.size : Int) 30).toNat = t at *
  by_cases hn : Pl.isName t.data.toList = true
  · have C1 := Lib.hid (fun wx => name_is t wx 0 (by unfold maxLen; omega) (Pl.nameR_yes hn))
    obtain ⟨h1, h2, h3, h4⟩ := Pl.isName_iff.1 hn
    rw [← Lib.size_eq] at h1 h2
    have hwb : t.data.toList.all Pl.wb = true := List.all_eq_true.2 fun d hd => Pl.wb_iff.2 (by have := Pl.namB_iff.1 (List.all_eq_true.1 h4 d hd); omega)
    have hne : t.data.toList ≠ [] := fun e => by have := Lib.size_eq t; rw [e, List.length_nil] at this; omega
    have C2 := Lib.hid (fun wx => words_is t wx [t.data.toList] (by omega) (Pl.words_whole hwb hne) (Pl.allOk_of_wb hwb))
    have HN := Lib.hid hn
    clear hn h3 h4 hwb hne
    refine (C1.out _).mono ?_
    rintro e w' ⟨rfl, rfl⟩
    go_wp2_with fail
    refine (C2.out _).mono ?_
    rintro e w1 ⟨A1, c1, rfl, ht1, hb1⟩
    obtain ⟨b, o, rfl, hbl, hcell⟩ := ht1 0 (by simp)
    have hcell' : w1.cell? ⟨b, o, none⟩ = some (.string t) := by
      have := hcell
      simp only [List.getElem_cons_zero, Nat.add_zero] at this
      rw [Lib.mk_data] at this; exact this
    clear hcell ht1
    have hne0 : (t.toList == t.toList) = true := by simp
    go_wp2_with fail
    have hbr := bring_any at_ ((t.size : Int) + 1) w1 (by omega) (by omega)
    have hk0 := Int.emod_nonneg at_ (b := (t.size : Int) + 1) (by omega)
    have hk1 := Int.emod_lt_of_pos at_ (b := (t.size : Int) + 1) (by omega)
    generalize at_ % ((t.size : Int) + 1) = x at *
    obtain ⟨k, rfl⟩ := Int.eq_ofNat_of_zero_le hk0
    refine hbr.mono ?_
    rintro e w' ⟨rfl, rfl⟩
    clear hbr hk0
    have hkt : k ≤ t.size := by omega
    clear hk1
    go_wp2_with fail
    have hcv : (convert 40 9 (.slice (some ⟨w1.heap.size, 0, none⟩) 1 1)).run Tryd.prog (w1.alloc (.cells #[.int .u8 c.toNat] 5)) = .ok (.string ⟨#[c]⟩) (w1.alloc (.cells #[.int .u8 c.toNat] 5)) := (OwnB.made w1 c).conv
    have hcv' : (convert 40 9 (.slice (some ⟨w1.heap.size, 0, none⟩) 1 1)).run Tryd.prog (w1.alloc (.cells #[.int .u8 c.toNat] 5)).drew = .ok (.string ⟨#[c]⟩) (w1.alloc (.cells #[.int .u8 c.toNat] 5)).drew := (show OwnB (w1.alloc (.cells #[.int .u8 c.toNat] 5)).drew w1.heap.size _ [c] from OwnB.made w1 c).conv
    have q1 : (0 : Int) ≤ k := by omega
    have q2 : (k : Int) ≤ t.size := by omega
    go_region
    clear hcv hcv'
    have hbw : Below w.heap.size w (w1.alloc (.cells #[.int .u8 c.toNat] 5)).drew := (Below.and hb1 (below_new w1 _)).drew
    have HT2 := Lib.hid (HT.out.below hbw)
    have hsl : t.data.toList.length = t.size := (Lib.size_eq t).symm
    have CY := Lib.hid (fun (h : t.size < 12) (hf : Fine c.toNat k) wx => name_is (t.extract 0 k ++ (⟨#[c]⟩ : ByteArray) ++ t.extract k t.size) wx 0 (by unfold maxLen; rw [Lib.size_eq, put_list t k c hkt]; simp; omega) (by rw [put_list t k c hkt]; exact put_yes HN.out (by omega) (by omega) hf))
    have CN := Lib.hid (fun (h : ¬ (t.size < 12 ∧ Fine c.toNat k)) wx => name_is (t.extract 0 k ++ (⟨#[c]⟩ : ByteArray) ++ t.extract k t.size) wx 31 (by unfold maxLen; rw [Lib.size_eq, put_list t k c hkt]; simp; omega) (by rw [put_list t k c hkt]; exact put_no HN.out (by omega) (by rw [hsl]; exact h)))
    clear hsl C1 C2 HT
    generalize (w1.alloc (.cells #[.int .u8 c.toNat] 5)).drew = w2 at *
    have hcase : (97 ≤ c.toNat ∧ c.toNat ≤ 122) ∨ (c.toNat < 97 ∧ k = 0) ∨ (122 < c.toNat ∧ k = 0) ∨ (c.toNat = 45 ∧ 0 < k) ∨ (48 ≤ c.toNat ∧ c.toNat ≤ 57 ∧ 0 < k) ∨ (c.toNat < 48 ∧ c.toNat ≠ 45 ∧ 0 < k) ∨ (57 < c.toNat ∧ c.toNat < 97 ∧ 0 < k) ∨ (122 < c.toNat ∧ 0 < k) := by omega
    rcases hcase with ⟨x1, x2⟩ | ⟨x1, x2⟩ | ⟨x1, x2⟩ | ⟨x1, x2⟩ | ⟨x1, x2, x3⟩ | ⟨x1, x2, x3⟩ | ⟨x1, x2, x3⟩ | ⟨x1, x2⟩
    · have hf : Hid (Fine c.toNat k) := .inl ⟨x1, x2⟩
      by_cases h12 : t.size < 12
      · have d12 : decide ((t.size : Int) < 12) = true := decide_eq_true (by omega)
        have C3 := Lib.hid (CY.out h12 hf.out)
        clear CY CN
        go_wp2_with fail
        refine (C3.out _).mono ?_
        rintro e w' ⟨rfl, rfl⟩
        go_wp2_with fail
        refine (works_any _ HT2.out).mono ?_
        rintro e w4 ⟨rfl, hb4⟩
        go_wp2_with fail
        go_ret
        exact ⟨rfl, Below.and hbw hb4⟩
      · have d12 : decide ((t.size : Int) < 12) = false := decide_eq_false (by omega)
        have C3 := Lib.hid (CN.out (fun h => h12 h.1))
        clear CY CN
        go_wp2_with fail
        refine (C3.out _).mono ?_
        rintro e w' ⟨rfl, rfl⟩
        go_wp2_with fail
        refine (works_any _ HT2.out).mono ?_
        rintro e w4 ⟨rfl, hb4⟩
        go_wp2_with fail
        go_ret
        exact ⟨rfl, Below.and hbw hb4⟩
    · have hf : Hid (¬ Fine c.toNat k) := by show ¬ Fine c.toNat k; unfold Fine; omega
      have k0 : k ≤ 0 := by omega
      have dk : decide ((0 : Int) < k) = false := decide_eq_false (by omega)
      clear x2
      by_cases h12 : t.size < 12
      · have d12 : decide ((t.size : Int) < 12) = true := decide_eq_true (by omega)
        have C3 := Lib.hid (CN.out (fun h => hf.out h.2))
        clear CY CN
        go_wp2_with fail
        refine (C3.out _).mono ?_
        rintro e w' ⟨rfl, rfl⟩
        go_wp2_with fail
        refine (works_any _ HT2.out).mono ?_
        rintro e w4 ⟨rfl, hb4⟩
        go_wp2_with fail
        go_ret
        exact ⟨rfl, Below.and hbw hb4⟩
      · have d12 : decide ((t.size : Int) < 12) = false := decide_eq_false (by omega)
        have C3 := Lib.hid (CN.out (fun h => h12 h.1))
        clear CY CN
        go_wp2_with fail
        refine (C3.out _).mono ?_
        rintro e w' ⟨rfl, rfl⟩
        go_wp2_with fail
        refine (works_any _ HT2.out).mono ?_
        rintro e w4 ⟨rfl, hb4⟩
        go_wp2_with fail
        go_ret
        exact ⟨rfl, Below.and hbw hb4⟩
    · have hf : Hid (¬ Fine c.toNat k) := by show ¬ Fine c.toNat k; unfold Fine; omega
      have k0 : k ≤ 0 := by omega
      have dk : decide ((0 : Int) < k) = false := decide_eq_false (by omega)
      clear x2
      by_cases h12 : t.size < 12
      · have d12 : decide ((t.size : Int) < 12) = true := decide_eq_true (by omega)
        have C3 := Lib.hid (CN.out (fun h => hf.out h.2))
        clear CY CN
        go_wp2_with fail
        refine (C3.out _).mono ?_
        rintro e w' ⟨rfl, rfl⟩
        go_wp2_with fail
        refine (works_any _ HT2.out).mono ?_
        rintro e w4 ⟨rfl, hb4⟩
        go_wp2_with fail
        go_ret
        exact ⟨rfl, Below.and hbw hb4⟩
      · have d12 : decide ((t.size : Int) < 12) = false := decide_eq_false (by omega)
        have C3 := Lib.hid (CN.out (fun h => h12 h.1))
        clear CY CN
        go_wp2_with fail
        refine (C3.out _).mono ?_
        rintro e w' ⟨rfl, rfl⟩
        go_wp2_with fail
        refine (works_any _ HT2.out).mono ?_
        rintro e w4 ⟨rfl, hb4⟩
        go_wp2_with fail
        go_ret
        exact ⟨rfl, Below.and hbw hb4⟩
    · have hf : Hid (Fine c.toNat k) := .inr ⟨x2, .inl x1⟩
      have dk : decide ((0 : Int) < k) = true := decide_eq_true (by omega)
      have e45 : ((c.toNat : Int) == 45) = true := by rw [beq_iff_eq]; omega
      have x3 : c.toNat < 48 := by omega
      have x4 : 44 < c.toNat := by omega
      clear x1
      by_cases h12 : t.size < 12
      · have d12 : decide ((t.size : Int) < 12) = true := decide_eq_true (by omega)
        have C3 := Lib.hid (CY.out h12 hf.out)
        clear CY CN
        go_wp2_with fail
        refine (C3.out _).mono ?_
        rintro e w' ⟨rfl, rfl⟩
        go_wp2_with fail
        refine (works_any _ HT2.out).mono ?_
        rintro e w4 ⟨rfl, hb4⟩
        go_wp2_with fail
        go_ret
        exact ⟨rfl, Below.and hbw hb4⟩
      · have d12 : decide ((t.size : Int) < 12) = false := decide_eq_false (by omega)
        have C3 := Lib.hid (CN.out (fun h => h12 h.1))
        clear CY CN
        go_wp2_with fail
        refine (C3.out _).mono ?_
        rintro e w' ⟨rfl, rfl⟩
        go_wp2_with fail
        refine (works_any _ HT2.out).mono ?_
        rintro e w4 ⟨rfl, hb4⟩
        go_wp2_with fail
        go_ret
        exact ⟨rfl, Below.and hbw hb4⟩
    · have hf : Hid (Fine c.toNat k) := .inr ⟨x3, .inr ⟨x1, x2⟩⟩
      have dk : decide ((0 : Int) < k) = true := decide_eq_true (by omega)
      have e45 : ((c.toNat : Int) == 45) = false := by rw [beq_eq_false_iff_ne]; omega
      by_cases h12 : t.size < 12
      · have d12 : decide ((t.size : Int) < 12) = true := decide_eq_true (by omega)
        have C3 := Lib.hid (CY.out h12 hf.out)
        clear CY CN
        go_wp2_with fail
        refine (C3.out _).mono ?_
        rintro e w' ⟨rfl, rfl⟩
        go_wp2_with fail
        refine (works_any _ HT2.out).mono ?_
        rintro e w4 ⟨rfl, hb4⟩
        go_wp2_with fail
        go_ret
        exact ⟨rfl, Below.and hbw hb4⟩
      · have d12 : decide ((t.size : Int) < 12) = false := decide_eq_false (by omega)
        have C3 := Lib.hid (CN.out (fun h => h12 h.1))
        clear CY CN
        go_wp2_with fail
        refine (C3.out _).mono ?_
        rintro e w' ⟨rfl, rfl⟩
        go_wp2_with fail
        refine (works_any _ HT2.out).mono ?_
        rintro e w4 ⟨rfl, hb4⟩
        go_wp2_with fail
        go_ret
        exact ⟨rfl, Below.and hbw hb4⟩
    · have hf : Hid (¬ Fine c.toNat k) := by show ¬ Fine c.toNat k; unfold Fine; omega
      have dk : decide ((0 : Int) < k) = true := decide_eq_true (by omega)
      have e45 : ((c.toNat : Int) == 45) = false := by rw [beq_eq_false_iff_ne]; omega
      clear x2
      by_cases h12 : t.size < 12
      · have d12 : decide ((t.size : Int) < 12) = true := decide_eq_true (by omega)
        have C3 := Lib.hid (CN.out (fun h => hf.out h.2))
        clear CY CN
        go_wp2_with fail
        refine (C3.out _).mono ?_
        rintro e w' ⟨rfl, rfl⟩
        go_wp2_with fail
        refine (works_any _ HT2.out).mono ?_
        rintro e w4 ⟨rfl, hb4⟩
        go_wp2_with fail
        go_ret
        exact ⟨rfl, Below.and hbw hb4⟩
      · have d12 : decide ((t.size : Int) < 12) = false := decide_eq_false (by omega)
        have C3 := Lib.hid (CN.out (fun h => h12 h.1))
        clear CY CN
        go_wp2_with fail
        refine (C3.out _).mono ?_
        rintro e w' ⟨rfl, rfl⟩
        go_wp2_with fail
        refine (works_any _ HT2.out).mono ?_
        rintro e w4 ⟨rfl, hb4⟩
        go_wp2_with fail
        go_ret
        exact ⟨rfl, Below.and hbw hb4⟩
    · have hf : Hid (¬ Fine c.toNat k) := by show ¬ Fine c.toNat k; unfold Fine; omega
      have dk : decide ((0 : Int) < k) = true := decide_eq_true (by omega)
      have e45 : ((c.toNat : Int) == 45) = false := by rw [beq_eq_false_iff_ne]; omega
      by_cases h12 : t.size < 12
      · have d12 : decide ((t.size : Int) < 12) = true := decide_eq_true (by omega)
        have C3 := Lib.hid (CN.out (fun h => hf.out h.2))
        clear CY CN
        go_wp2_with fail
        refine (C3.out _).mono ?_
        rintro e w' ⟨rfl, rfl⟩
        go_wp2_with fail
        refine (works_any _ HT2.out).mono ?_
        rintro e w4 ⟨rfl, hb4⟩
        go_wp2_with fail
        go_ret
        exact ⟨rfl, Below.and hbw hb4⟩
      · have d12 : decide ((t.size : Int) < 12) = false := decide_eq_false (by omega)
        have C3 := Lib.hid (CN.out (fun h => h12 h.1))
        clear CY CN
        go_wp2_with fail
        refine (C3.out _).mono ?_
        rintro e w' ⟨rfl, rfl⟩
        go_wp2_with fail
        refine (works_any _ HT2.out).mono ?_
        rintro e w4 ⟨rfl, hb4⟩
        go_wp2_with fail
        go_ret
        exact ⟨rfl, Below.and hbw hb4⟩
    · have hf : Hid (¬ Fine c.toNat k) := by show ¬ Fine c.toNat k; unfold Fine; omega
      have dk : decide ((0 : Int) < k) = true := decide_eq_true (by omega)
      have e45 : ((c.toNat : Int) == 45) = false := by rw [beq_eq_false_iff_ne]; omega
      by_cases h12 : t.size < 12
      · have d12 : decide ((t.size : Int) < 12) = true := decide_eq_true (by omega)
        have C3 := Lib.hid (CN.out (fun h => hf.out h.2))
        clear CY CN
        go_wp2_with fail
        refine (C3.out _).mono ?_
        rintro e w' ⟨rfl, rfl⟩
        go_wp2_with fail
        refine (works_any _ HT2.out).mono ?_
        rintro e w4 ⟨rfl, hb4⟩
        go_wp2_with fail
        go_ret
        exact ⟨rfl, Below.and hbw hb4⟩
      · have d12 : decide ((t.size : Int) < 12) = false := decide_eq_false (by omega)
        have C3 := Lib.hid (CN.out (fun h => h12 h.1))
        clear CY CN
        go_wp2_with fail
        refine (C3.out _).mono ?_
        rintro e w' ⟨rfl, rfl⟩
        go_wp2_with fail
        refine (works_any _ HT2.out).mono ?_
        rintro e w4 ⟨rfl, hb4⟩
        go_wp2_with fail
        go_ret
        exact ⟨rfl, Below.and hbw hb4⟩
  · have hn' : Pl.isName t.data.toList = false := by simpa using hn
    have C1 := Lib.hid (fun wx => name_is t wx 31 (by unfold maxLen; omega) (Pl.nameR_no hn'))
    clear hn hn'
    refine (C1.out _).mono ?_
    rintro e w' ⟨rfl, rfl⟩
    go_wp2_with fail
    refine (C1.out _).mono ?_
    rintro e w' ⟨rfl, rfl⟩
    go_wp2_with fail
    refine (works_any _ HT.out).mono ?_
    rintro e w2 ⟨rfl, hb2⟩
    go_wp2_with fail
    go_ret
    exact ⟨rfl, hb2⟩
end Go.Proofs.YtjhppekoinpheaaDoor
