/- The chapter's examples (works): true in every world that holds the library's table of powers of ten. -/
import Derived.Test.YtjhppekoinpheaaDoorWc
import Derived.Test.YtjhppekoinpheaaDoorWf
namespace Go.Proofs.YtjhppekoinpheaaDoor
open Go Go.RowKit

theorem lines_is (s : ByteArray) (w : World) (ls : List (List UInt8)) (hs : s.size ≤ 65536) (h : Pl.lines s.data.toList = ls) :
    Calls Tryd.prog 11 #[.string s] w fun e w' => ∃ A c, e = .returned (.tuple #[.slice A ls.length c, .int .i64 0]) ∧ Txt w' A ls ∧ Below w.heap.size w w' :=
  (lines_any s w hs).mono fun _ _ ⟨v, he, ho, hb⟩ => by
    rw [h] at ho
    obtain ⟨A, c, rfl, ht⟩ := ho.txt
    exact ⟨A, c, he, ht, hb⟩
theorem refLines_is (s : ByteArray) (w : World) (ls : List (List UInt8)) (hs : s.size ≤ 65536) (h : Pl.lines s.data.toList = ls) :
    Calls Tryd.prog 12 #[.string s] w fun e w' => ∃ A c, e = .returned (.tuple #[.slice A ls.length c, .int .i64 0]) ∧ Txt w' A ls ∧ Below w.heap.size w w' :=
  (refLines_any s w hs).mono fun _ _ ⟨v, he, ho, hb⟩ => by
    rw [h] at ho
    obtain ⟨A, c, rfl, ht⟩ := ho.txt
    exact ⟨A, c, he, ht, hb⟩
theorem words_left_yes {w : World} {l : List UInt8} {ls : List (List UInt8)} {e : Ending} {w' : World} (h : Pl.words l = ls) (ho : Pl.allOk l = true) (hl : WordsLeft w l e w') :
    ∃ A c, e = .returned (.tuple #[.slice A ls.length c, .int .i64 0]) ∧ Txt w' A ls ∧ Below w.heap.size w w' := by
  rcases hl with ⟨_, ⟨v, he, hown⟩, hb⟩ | ⟨hn, _⟩
  · rw [h] at hown
    obtain ⟨A, c, rfl, ht⟩ := hown.txt
    exact ⟨A, c, he, ht, hb⟩
  · rw [hn] at ho; cases ho
theorem words_left_no {w : World} {l : List UInt8} {e : Ending} {w' : World} (ho : Pl.allOk l = false) (hl : WordsLeft w l e w') :
    e = .returned (.tuple #[.slice none 0 0, .int .i64 4]) ∧ Below w.heap.size w w' := by
  rcases hl with ⟨hn, _⟩ | ⟨_, he, hb⟩
  · rw [hn] at ho; cases ho
  · exact ⟨he, hb⟩
theorem words_is (s : ByteArray) (w : World) (ls : List (List UInt8)) (hs : s.size ≤ 1000000000) (h : Pl.words s.data.toList = ls) (ho : Pl.allOk s.data.toList = true) :
    Calls Tryd.prog 13 #[.string s] w fun e w' => ∃ A c, e = .returned (.tuple #[.slice A ls.length c, .int .i64 0]) ∧ Txt w' A ls ∧ Below w.heap.size w w' :=
  (words_any s w hs).mono fun _ _ hl => words_left_yes h ho hl
theorem words_bad (s : ByteArray) (w : World) (hs : s.size ≤ 1000000000) (ho : Pl.allOk s.data.toList = false) :
    Calls Tryd.prog 13 #[.string s] w fun e w' => e = .returned (.tuple #[.slice none 0 0, .int .i64 4]) ∧ Below w.heap.size w w' :=
  (words_any s w hs).mono fun _ _ hl => words_left_no ho hl
theorem number_is (s : ByteArray) (w : World) (n m : Int) (hs : s.size ≤ maxLen) (h : Pl.numR s.data.toList = (n, m)) :
    Calls Tryd.prog 15 #[.string s] w fun e w' => e = .returned (.tuple #[.int .i64 n, .int .i64 m]) ∧ w = w' :=
  (number_any s w hs).mono fun _ _ ⟨he, hw⟩ => ⟨by rw [he, h], hw⟩
theorem refNumber_is (s : ByteArray) (w : World) (n m : Int) (hs : s.size ≤ maxLen) (h : Pl.numR s.data.toList = (n, m)) :
    Calls Tryd.prog 16 #[.string s] w fun e w' => e = .returned (.tuple #[.int .i64 n, .int .i64 m]) ∧ w = w' :=
  (refNumber_any s w hs).mono fun _ _ ⟨he, hw⟩ => ⟨by rw [he, h], hw⟩
theorem name_is (s : ByteArray) (w : World) (n : Int) (hs : s.size ≤ maxLen) (h : Pl.nameR s.data.toList = n) :
    Calls Tryd.prog 18 #[.string s] w fun e w' => e = .returned (.int .i64 n) ∧ w = w' :=
  (name_any s w hs).mono fun _ _ ⟨he, hw⟩ => ⟨by rw [he, h], hw⟩
theorem refName_is (s : ByteArray) (w : World) (n : Int) (hs : s.size ≤ maxLen) (h : Pl.nameR s.data.toList = n) :
    Calls Tryd.prog 19 #[.string s] w fun e w' => e = .returned (.int .i64 n) ∧ w = w' :=
  (refName_any s w hs).mono fun _ _ ⟨he, hw⟩ => ⟨by rw [he, h], hw⟩
theorem eq_is (A B : Option Addr) (c d n m : Nat) (xs ys : List (List UInt8)) (w : World) (hx : Txt w A xs) (hy : Txt w B ys) (hn : xs.length = n) (hm : ys.length = m) (h1 : n ≤ 1000000000) (h : xs = ys) :
    Calls Tryd.prog 17 #[.slice A n c, .slice B m d] w fun e w' => e = .returned (.bool true) ∧ Below w.heap.size w w' := by
  subst hn hm
  exact (eqTexts_any A B c d xs ys w hx hy h1 (by rw [← h]; exact h1)).mono fun _ _ ⟨he, n, hw⟩ => ⟨by rw [he, decide_eq_true h], by rw [hw]; exact below_drewN (Below.refl _ _) n⟩
theorem below_new (w : World) (o : Obj) : Below w.heap.size w (w.alloc o) := (Below.refl _ _).alloc (Nat.le_refl _) o
theorem Below.and {a b c : World} (h : Below a.heap.size a b) (k : Below b.heap.size b c) : Below a.heap.size a c := h.trans (k.mono h.size)
theorem Txt.made (w : World) (ws : List (List UInt8)) : Txt (w.alloc (.cells (ws.map strV).toArray 9)) (some ⟨w.heap.size, 0, none⟩) ws := fun i hi =>
  ⟨w.heap.size, 0, rfl, by simp, by
    rw [World.cell?_alloc_at _ _ _ _ rfl]
    simp [hi, strV]⟩

theorem dec250 : Lib.decDigits 250 = [50, 53, 48] := by
  rw [Pl.dec_step (by decide), Pl.dec_step (by decide), Lib.decDigits_one (by decide)]; rfl

set_option maxHeartbeats 2000000 in
set_option maxRecDepth 100000 in
theorem works_any (w : World) (ht : Tab w) : Calls Tryd.prog 20 #[] w fun e w' => e = .returned (.bool true) ∧ Below w.heap.size w w' := by
  have HT := Lib.hid ht
  clear ht
  go_enter Tryd.func20, Tryd.ntmps20
  go_wp2_with fail
  refine (lines_is ⟨#[97, 32, 98, 10, 10, 99]⟩ _ [[97, 32, 98], [], [99]] (by decide) (by decide)).mono ?_
  rintro e w1 ⟨A1, c1, rfl, ht1, hb1⟩
  go_wp2_with fail
  refine (words_is ⟨#[32, 32, 119, 111, 114, 107, 32, 32, 97, 45, 49, 32]⟩ _ [[119, 111, 114, 107], [97, 45, 49]] (by decide) (by decide) (by decide)).mono ?_
  rintro e w2 ⟨A2, c2, rfl, ht2, hb2⟩
  go_wp2_with fail
  refine (words_bad ⟨#[97, 9]⟩ _ (by decide) (by decide)).mono ?_
  rintro e w3 ⟨rfl, hb3⟩
  go_wp2_with fail
  refine (number_is ⟨#[48]⟩ _ 0 0 (by decide) (by decide)).mono ?_
  rintro e w' ⟨rfl, rfl⟩
  go_wp2_with fail
  refine (number_is ⟨#[48, 49]⟩ _ 0 4 (by decide) (by decide)).mono ?_
  rintro e w' ⟨rfl, rfl⟩
  go_wp2_with fail
  refine (number_is ⟨#[57, 48, 48, 55, 49, 57, 57, 50, 53, 52, 55, 52, 48, 57, 57, 50]⟩ _ 0 9 (by decide) (by decide)).mono ?_
  rintro e w' ⟨rfl, rfl⟩
  go_wp2_with fail
  refine (digits_any 250 _ (((HT.out.below hb1).below hb2).below hb3) (by decide)).mono ?_
  rw [dec250]
  rintro e w4 ⟨rfl, hb4⟩
  go_wp2_with fail
  refine (name_is ⟨#[97, 45, 49]⟩ _ 0 (by decide) (by decide)).mono ?_
  rintro e w' ⟨rfl, rfl⟩
  go_wp2_with fail
  refine (name_is ⟨#[49, 97]⟩ _ 31 (by decide) (by decide)).mono ?_
  rintro e w' ⟨rfl, rfl⟩
  go_wp2_with fail
  refine (name_is ⟨#[65]⟩ _ 31 (by decide) (by decide)).mono ?_
  rintro e w' ⟨rfl, rfl⟩
  go_wp2_with fail
  refine (name_is ⟨#[]⟩ _ 31 (by decide) (by decide)).mono ?_
  rintro e w' ⟨rfl, rfl⟩
  go_wp2_with fail
  have hn4 := below_new w4 (.cells #[.string ⟨#[97, 32, 98]⟩, .string ⟨#[]⟩, .string ⟨#[99]⟩] 9)
  have hB : Txt (w4.alloc (.cells #[.string ⟨#[97, 32, 98]⟩, .string ⟨#[]⟩, .string ⟨#[99]⟩] 9)) (some ⟨w4.heap.size, 0, none⟩) [[97, 32, 98], [], [99]] := Txt.made w4 [[97, 32, 98], [], [99]]
  refine (eq_is A1 _ _ _ _ _ _ _ _ ((((ht1.below hb2).below hb3).below hb4).below hn4) hB rfl rfl (by decide) rfl).mono ?_
  rintro e w5 ⟨rfl, hb5⟩
  have hb45 := Below.and hn4 hb5
  clear hB hn4 hb5
  go_wp2_with fail
  have hn5 := below_new w5 (.cells #[.string ⟨#[119, 111, 114, 107]⟩, .string ⟨#[97, 45, 49]⟩] 9)
  have hB : Txt (w5.alloc (.cells #[.string ⟨#[119, 111, 114, 107]⟩, .string ⟨#[97, 45, 49]⟩] 9)) (some ⟨w5.heap.size, 0, none⟩) [[119, 111, 114, 107], [97, 45, 49]] := Txt.made w5 [[119, 111, 114, 107], [97, 45, 49]]
  refine (eq_is A2 _ _ _ _ _ _ _ _ ((((ht2.below hb3).below hb4).below hb45).below hn5) hB rfl rfl (by decide) rfl).mono ?_
  rintro e w6 ⟨rfl, hb6⟩
  have hb56 := Below.and hn5 hb6
  clear hB hn5 hb6
  go_wp2_with fail
  go_ret
  exact ⟨rfl, Below.and (Below.and (Below.and (Below.and (Below.and hb1 hb2) hb3) hb4) hb45) hb56⟩
end Go.Proofs.YtjhppekoinpheaaDoor
