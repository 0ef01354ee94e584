/- The program: strings.Cut at a colon, strings.Clone, clone. -/
import Derived.Test.YthniggdimfldhaaGreatDoorHi
import Derived.Test.YthniggdimfldhaaGreatDoorHs
import Derived.Deep.RegionHeld3
namespace Go.Proofs.YthniggdimfldhaaGreatDoor
open Go Go.RowKit

def has58 (l : List UInt8) : Bool := decide (58 ∈ l)
theorem indexByte58 (l : List UInt8) : Lib.indexByte l 58 = if 58 ∈ l then ((head58 l).length : Int) else -1 := by
  induction l with
  | nil => rfl
  | cons c r ih =>
    unfold Lib.indexByte
    by_cases h : c = 58
    · subst h; simp [head58]
    · rw [if_neg (by simpa using h), ih]
      by_cases hm : 58 ∈ r
      · rw [if_pos hm, if_neg (by rw [beq_iff_eq]; omega), if_pos (by simp [hm])]
        unfold head58
        rw [List.takeWhile_cons, if_pos (by simpa using h), List.length_cons]
        omega
      · simp [hm, Ne.symm h]

theorem head58_piece (s : ByteArray) : s.extract 0 (head58 s.data.toList).length = ⟨(head58 s.data.toList).toArray⟩ := by
  rw [Lib.extract_eq]; simp only [List.drop_zero, Nat.sub_zero]; rw [take_head58]
theorem tail58_piece (s : ByteArray) : s.extract ((head58 s.data.toList).length + 1) s.size = ⟨(tail58 s.data.toList).toArray⟩ := by
  rw [Lib.extract_eq, drop_head58, List.take_of_length_le]
  rw [← drop_head58, List.length_drop, ← Lib.size_eq]; exact Nat.le_refl _

set_option maxRecDepth 100000 in
/-- internal/stringslite.Cut at a colon -/
theorem litecut_any (s : ByteArray) (w : World) (hs : s.size ≤ maxLen) :
    Calls Tryz.prog 125 #[.string s, .string ⟨#[58]⟩] w fun e w' => e = .returned (.tuple #[.string ⟨(head58 s.data.toList).toArray⟩, .string ⟨(tail58 s.data.toList).toArray⟩, .bool (has58 s.data.toList)]) ∧ ∃ n, w' = w.drewN n := by
  unfold maxLen at hs
  by_cases h : 58 ∈ s.data.toList
  · have hdd := Lib.hid (show has58 s.data.toList = true from decide_eq_true h)
    have hlt := head58_lt h
    rw [← Lib.size_eq] at hlt
    have hix := Lib.hid (indexByte58 s.data.toList)
    have hp := Lib.hid (head58_piece s)
    have ht := Lib.hid (tail58_piece s)
    rw [if_pos h] at hix
    generalize head58 s.data.toList = hd at *
    generalize tail58 s.data.toList = tl at *
    obtain ⟨k, hk⟩ : ∃ k, k = hd.length := ⟨_, rfl⟩
    rw [← hk] at hix hp ht hlt
    rw [← hp.out, ← ht.out]
    clear hp ht hk
    have c1 : (0 : Int) ≤ ↑k := by omega
    have c2 : (↑k : Int) ≤ ↑s.size := by omega
    have c3 : (0 : Int) ≤ ↑k + 1 := by omega
    have c4 : (↑k + 1 : Int) ≤ ↑s.size := by omega
    go_enter Tryz.func125, Tryz.ntmps125
    go_wp2_with (go_at_call 105; refine (Tryz.stringslite_Index_one _ _ _).mono ?_; rintro e w' ⟨rfl, rfl⟩; rw [hix.out])
    go_region
    go_wp2
    go_ret3
    exact ⟨by rw [hdd.out]; rfl, 1, rfl⟩
  · have hdd := Lib.hid (show has58 s.data.toList = false from decide_eq_false h)
    have hix := Lib.hid (indexByte58 s.data.toList)
    rw [if_neg h] at hix
    rw [(head58_none h).1, (head58_none h).2, mk_data]
    go_enter Tryz.func125, Tryz.ntmps125
    go_wp2_with (go_at_call 105; refine (Tryz.stringslite_Index_one _ _ _).mono ?_; rintro e w' ⟨rfl, rfl⟩; rw [hix.out])
    go_ret3
    exact ⟨by rw [hdd.out]; rfl, 0, rfl⟩
set_option maxRecDepth 100000 in
theorem cut58_any (s : ByteArray) (w : World) (hs : s.size ≤ maxLen) :
    Calls Tryz.prog 108 #[.string s, .string ⟨#[58]⟩] w fun e w' => e = .returned (.tuple #[.string ⟨(head58 s.data.toList).toArray⟩, .string ⟨(tail58 s.data.toList).toArray⟩, .bool (has58 s.data.toList)]) ∧ ∃ n, w' = w.drewN n := by
  go_enter Tryz.func108, Tryz.ntmps108
  go_wp2_with (go_at_call 125; refine (litecut_any _ _ hs).mono ?_; rintro e w' ⟨rfl, n, rfl⟩)
  go_ret3
  exact ⟨rfl, _, rfl⟩


set_option maxRecDepth 100000 in
theorem sclone_any (s : ByteArray) (w : World) (h : s.size ≤ 1000000) :
    Calls Tryz.prog 43 #[.string s] w fun e w' => e = .returned (.string s) ∧ Below w.heap.size w w' := by
  go_enter Tryz.func43, Tryz.ntmps43
  go_wp2_with (go_at_call 68; refine (Tryz.stringslite_Clone _ _ (by omega)).mono ?_; rintro e w' ⟨rfl, hb⟩)
  go_ret
  exact ⟨rfl, hb⟩

theorem results_head {fn : Func} {p : Tmp} (h : fn.results = #[.cell p 41]) (tmps : Array Value) (w : World) (g : Nat) (x y : ByteArray) (hp : tmps.getD p undef = .pointer (some ⟨g, 0, none⟩))
    (h1 : w.cell? ⟨g, 0, none⟩ = some (.string x)) (h2 : w.cell? ⟨g, 1, none⟩ = some (.string y)) :
    (results fn tmps).run Tryz.prog w = .ok (.agg #[.string x, .string y]) w := by
  have hp' : tmps[p]?.getD undef = .pointer (some ⟨g, 0, none⟩) := by simpa using hp
  simp [results, h, hp', asAddr, load_head w g 0 x y h1 h2]

theorem below_next {B : Nat} {a b c : World} (h : Below B a b) (hB : B ≤ a.heap.size) (k : Below b.heap.size b c) : Below B a c := h.trans (k.mono (Nat.le_trans hB h.size))
/-- A header's block, and another one that is written later. -/
structure Two (w : World) (g k : Nat) (P Q x y : Value) : Prop where
  lt : g < w.heap.size
  lt2 : k < w.heap.size
  c0 : w.cell? ⟨g, 0, none⟩ = some P
  c1 : w.cell? ⟨g, 1, none⟩ = some Q
  r0 : w.cell? ⟨k, 0, none⟩ = some x
  r1 : w.cell? ⟨k, 1, none⟩ = some y
  f0 : w.frozen? ⟨k, 0, none⟩ = false
  f1 : w.frozen? ⟨k, 1, none⟩ = false
theorem Two.below {w w' : World} {g k : Nat} {P Q x y : Value} (h : Two w g k P Q x y) (hb : Below w.heap.size w w') : Two w' g k P Q x y :=
  ⟨Nat.lt_of_lt_of_le h.lt hb.size, Nat.lt_of_lt_of_le h.lt2 hb.size, (hb.cell (p := ⟨g, 0, none⟩) h.lt).trans h.c0, (hb.cell (p := ⟨g, 1, none⟩) h.lt).trans h.c1,
    (hb.cell (p := ⟨k, 0, none⟩) h.lt2).trans h.r0, (hb.cell (p := ⟨k, 1, none⟩) h.lt2).trans h.r1, (hb.frozen (p := ⟨k, 0, none⟩) h.lt2).trans h.f0, (hb.frozen (p := ⟨k, 1, none⟩) h.lt2).trans h.f1⟩
theorem Two.drew {w : World} {g k : Nat} {P Q x y : Value} (h : Two w g k P Q x y) : Two w.drew g k P Q x y := ⟨h.lt, h.lt2, h.c0, h.c1, h.r0, h.r1, h.f0, h.f1⟩
theorem far2 {k g : Nat} (hne : k ≠ g) (w : World) (x y : Value) (j : Nat) : ((w.setCell ⟨k, 0, none⟩ x).setCell ⟨k, 1, none⟩ y).cell? ⟨g, j, none⟩ = w.cell? ⟨g, j, none⟩ := by
  rw [World.cell?_setCell_other _ _ _ _ (fun e => hne (by injection e)), World.cell?_setCell_other _ _ _ _ (fun e => hne (by injection e))]
theorem two_made (w : World) (P Q x y : Value) : Two ((w.alloc (.cells #[P, Q] 41)).alloc (.cells #[x, y] 41)) w.heap.size (w.heap.size + 1) P Q x y := by
  have h1 := alloc_head w P Q
  have h2 := alloc_head (w.alloc (.cells #[P, Q] 41)) x y
  have e : (w.alloc (.cells #[P, Q] 41)).heap.size = w.heap.size + 1 := by simp
  have hb := below_new (w.alloc (.cells #[P, Q] 41)) (.cells #[x, y] 41)
  rw [e] at h2 hb
  refine ⟨by simp; omega, by simp, (hb.cell (p := ⟨w.heap.size, 0, none⟩) (by simp)).trans h1.1, (hb.cell (p := ⟨w.heap.size, 1, none⟩) (by simp)).trans h1.2, h2.1, h2.2, ?_, ?_⟩
  all_goals (rw [← e]; exact alloc_free _ _ _ _)
theorem two_below (w : World) (P Q x y : Value) : Below w.heap.size w ((w.alloc (.cells #[P, Q] 41)).alloc (.cells #[x, y] 41)) := Below.and (below_new _ _) (below_new _ _)

set_option maxRecDepth 100000 in
set_option maxHeartbeats 1000000 in
theorem clone_any (P Q : ByteArray) (w : World) (hp : P.size ≤ 1000000) (hq : Q.size ≤ 1000000) :
    Calls Tryz.prog 112 #[.agg #[.string P, .string Q]] w fun e w' => e = .returned (.agg #[.string P, .string Q]) ∧ Below w.heap.size w w' := by
  have HP := Lib.hid hp
  have HQ := Lib.hid hq
  clear hp hq
  have T := Lib.hid (two_made w (.string P) (.string Q) (.string ⟨#[]⟩) (.string ⟨#[]⟩))
  have hb := two_below w (.string P) (.string Q) (.string ⟨#[]⟩) (.string ⟨#[]⟩)
  go_enter Tryz.func112, Tryz.ntmps112
  go_wp2_with fail
  generalize (w.alloc (.cells #[.string P, .string Q] 41)).alloc (.cells #[.string ⟨#[]⟩, .string ⟨#[]⟩] 41) = w1 at *
  have hbw : Hid (Below w.heap.size w w1.drew) := below_drewN hb 1
  clear hb
  generalize hg : w.heap.size = g at *
  obtain ⟨k, hk⟩ : ∃ k, k = g + 1 := ⟨_, rfl⟩
  rw [← hk] at T ⊢
  have HN : Hid (k ≠ g) := by show _ ≠ _; omega
  have HK : Hid (g ≤ k) := by show _ ≤ _; omega
  clear hk
  have d0 := T.out.c0
  have d1 := T.out.c1
  have HG : Hid (g ≤ w.heap.size) := by show _ ≤ _; omega
  have T' : Hid (Two w1.drew g k (.string P) (.string Q) (.string ⟨#[]⟩) (.string ⟨#[]⟩)) := T.out.drew
  go_region_held3 (fun w' => w'.cell? ⟨g, 0, none⟩ = some (.string P) ∧ w'.cell? ⟨g, 1, none⟩ = some (.string Q)) (first | go_keep | exact ⟨by assumption, by assumption⟩ | exact ⟨(far2 HN.out _ _ _ 0).trans (by assumption), (far2 HN.out _ _ _ 1).trans (by assumption)⟩)
    ((go_at_call 43; refine Calls.mono (sclone_any _ _ (by first | exact HP.out | exact HQ.out)) ?_; rintro e w3 ⟨rfl, hb3⟩; have T3 := Lib.hid (Two.below (Hid.out (by assumption)) hb3); have B3 := Lib.hid (below_next (B := g) (a := w) (Hid.out (by assumption)) HG.out hb3); have d2 := T3.out.c0; have d3 := T3.out.c1; have r0 := T3.out.r0; have r1 := T3.out.r1; have f0 := T3.out.f0; have f1 := T3.out.f1))
  have d4 := set_head w3 k (.string P) (.string Q) _ _ r0 r1
  have B4 := Lib.hid (set_head_below B3.out HK.out (.string P) (.string Q))
  clear r0 r1 f0 f1 d2 d3
  generalize (w3.setCell ⟨k, 0, none⟩ (.string P)).setCell ⟨k, 1, none⟩ (.string Q) = w4 at *
  go_wp2_with fail
  refine bodyPost_ret (results_head rfl _ _ k P Q rfl d4.1 d4.2) rfl ?_
  exact ⟨rfl, by rw [hg]; exact B4.out⟩
end Go.Proofs.YthniggdimfldhaaGreatDoor
