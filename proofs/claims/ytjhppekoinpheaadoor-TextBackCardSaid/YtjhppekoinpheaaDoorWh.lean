/- The statements' own bodies TextCuts and TextMakes: true for every argument, in every world that holds the library's table of powers of ten. -/
import Derived.Test.YtjhppekoinpheaaDoorWg
namespace Go.Proofs.YtjhppekoinpheaaDoor
open Go Go.RowKit

def wordsL (l : List UInt8) : List (List UInt8) := if Pl.allOk l then Pl.words l else []
def wordsE (l : List UInt8) : Int := if Pl.allOk l then 0 else 4
theorem words_left_R {w : World} {l : List UInt8} {e : Ending} {w' : World} (hl : WordsLeft w l e w') :
    ∃ A c, e = .returned (.tuple #[.slice A (wordsL l).length c, .int .i64 (wordsE l)]) ∧ Txt w' A (wordsL l) ∧ Below w.heap.size w w' := by
  cases ho : Pl.allOk l with
  | true =>
    obtain ⟨A, c, h1, h2, h3⟩ := words_left_yes (ls := wordsL l) (by unfold wordsL; rw [if_pos ho]) ho hl
    exact ⟨A, c, by rw [h1]; unfold wordsE; rw [if_pos ho], h2, h3⟩
  | false =>
    obtain ⟨h1, h3⟩ := words_left_no ho hl
    have e1 : wordsL l = [] := by unfold wordsL; rw [ho]; rfl
    have e2 : wordsE l = 4 := by unfold wordsE; rw [ho]; rfl
    rw [e1, e2]
    exact ⟨none, 0, h1, Txt.nil _ _, h3⟩
theorem words_R (s : ByteArray) (w : World) (hs : s.size ≤ 1000000000) :
    Calls Tryd.prog 13 #[.string s] w fun e w' => ∃ A c, e = .returned (.tuple #[.slice A (wordsL s.data.toList).length c, .int .i64 (wordsE s.data.toList)]) ∧ Txt w' A (wordsL s.data.toList) ∧ Below w.heap.size w w' :=
  (words_any s w hs).mono fun _ _ hl => words_left_R hl
theorem refWords_R (s : ByteArray) (w : World) (hs : s.size ≤ 1000000000) :
    Calls Tryd.prog 14 #[.string s] w fun e w' => ∃ A c, e = .returned (.tuple #[.slice A (wordsL s.data.toList).length c, .int .i64 (wordsE s.data.toList)]) ∧ Txt w' A (wordsL s.data.toList) ∧ Below w.heap.size w w' :=
  (refWords_any s w hs).mono fun _ _ hl => words_left_R hl
theorem wordsL_len (l : List UInt8) : (wordsL l).length ≤ l.length := by
  unfold wordsL; split
  · exact Pl.words_len l
  · simp

set_option maxHeartbeats 2000000 in
set_option maxRecDepth 100000 in
theorem textCuts_any (s : ByteArray) (w : World) (hs : s.size ≤ maxLen) (ht : Tab w) :
    Calls Tryd.prog 3 #[.string s] w fun e w' => e = .returned (.bool true) ∧ Below w.heap.size w w' := by
  have HT := Lib.hid ht
  clear ht
  go_enter Tryd.func3, Tryd.ntmps3
  go_wp2_with fail
  refine (cut_any s _ hs).mono ?_
  rintro e w' ⟨rfl, rfl⟩
  have hsz : (s.extract 0 (min s.size 400)).size ≤ 400 := by simp; omega
  generalize s.extract 0 (min s.size 400) = t at hsz
  obtain ⟨ls, hls⟩ : ∃ ls, Pl.lines t.data.toList = ls := ⟨_, rfl⟩
  obtain ⟨ws, hws⟩ : ∃ ws, wordsL t.data.toList = ws := ⟨_, rfl⟩
  obtain ⟨we, hwe⟩ : ∃ we, wordsE t.data.toList = we := ⟨_, rfl⟩
  obtain ⟨⟨n1, n2⟩, hn⟩ : ∃ n, Pl.numR t.data.toList = n := ⟨_, rfl⟩
  obtain ⟨m, hm⟩ : ∃ m, Pl.nameR t.data.toList = m := ⟨_, rfl⟩
  have hll : ls.length ≤ 400 := by have := Pl.lines_len t.data.toList; rw [hls, ← Lib.size_eq] at this; omega
  have hwl : ws.length ≤ 400 := by have := wordsL_len t.data.toList; rw [hws, ← Lib.size_eq] at this; omega
  have C1 := Lib.hid (fun w => lines_is t w ls (by omega) hls)
  have C2 := Lib.hid (fun w => refLines_is t w ls (by omega) hls)
  have C3 := Lib.hid (fun w => words_R t w (by omega))
  have C4 := Lib.hid (fun w => refWords_R t w (by omega))
  have C5 := Lib.hid (fun w => number_is t w n1 n2 (by unfold maxLen; omega) hn)
  have C6 := Lib.hid (fun w => refNumber_is t w n1 n2 (by unfold maxLen; omega) hn)
  have C7 := Lib.hid (fun w => name_is t w m (by unfold maxLen; omega) hm)
  have C8 := Lib.hid (fun w => refName_is t w m (by unfold maxLen; omega) hm)
  rw [hws, hwe] at C3 C4
  clear hls hws hwe hn hm
  go_wp2_with fail
  refine (C1.out _).mono ?_
  rintro e w1 ⟨A1, c1, rfl, ht1, hb1⟩
  go_wp2_with fail
  refine (C2.out _).mono ?_
  rintro e w2 ⟨A2, c2, rfl, ht2, hb2⟩
  go_wp2_with fail
  refine (C3.out _).mono ?_
  rintro e w3 ⟨A3, c3, rfl, ht3, hb3⟩
  go_wp2_with fail
  refine (C4.out _).mono ?_
  rintro e w4 ⟨A4, c4, rfl, ht4, hb4⟩
  go_wp2_with fail
  refine (C5.out _).mono ?_
  rintro e w' ⟨rfl, rfl⟩
  go_wp2_with fail
  refine (C6.out _).mono ?_
  rintro e w' ⟨rfl, rfl⟩
  go_wp2_with fail
  refine (eq_is A1 A2 _ _ _ _ ls ls _ (((ht1.below hb2).below hb3).below hb4) ((ht2.below hb3).below hb4) rfl rfl (by omega) rfl).mono ?_
  rintro e w5 ⟨rfl, hb5⟩
  go_wp2_with fail
  refine (eq_is A3 A4 _ _ _ _ ws ws _ ((ht3.below hb4).below hb5) (ht4.below hb5) rfl rfl (by omega) rfl).mono ?_
  rintro e w6 ⟨rfl, hb6⟩
  go_wp2_with fail
  refine (C7.out _).mono ?_
  rintro e w' ⟨rfl, rfl⟩
  go_wp2_with fail
  refine (C8.out _).mono ?_
  rintro e w' ⟨rfl, rfl⟩
  go_wp2_with fail
  refine (works_any _ ((((((HT.out.below hb1).below hb2).below hb3).below hb4).below hb5).below hb6)).mono ?_
  rintro e w7 ⟨rfl, hb7⟩
  go_wp2_with fail
  go_ret
  exact ⟨rfl, Below.and (Below.and (Below.and (Below.and (Below.and (Below.and hb1 hb2) hb3) hb4) hb5) hb6) hb7⟩
end Go.Proofs.YtjhppekoinpheaaDoor
