/- The statement HeadLines. -/
import Derived.Test.YtfiioojnmjnmmaaDoorHv
namespace Go.Proofs.YtfiioojnmjnmmaaDoor
open Go Go.RowKit

theorem lineV_form (o : Option Hd) : ∃ (p q : List UInt8) (e : Int), lineV o = .tuple #[.agg #[.string ⟨p.toArray⟩, .string ⟨q.toArray⟩], .int .i64 e] := by
  cases o with
  | none => exact ⟨[], [], 40, rfl⟩
  | some h => exact ⟨h.1, h.2, 0, rfl⟩
theorem cut400 (s : ByteArray) : s.extract 0 (min (s.size : Int) 400).toNat = ⟨(s.data.toList.take 400).toArray⟩ := by
  rw [← mk_data (s.extract 0 _), extract_take]
  by_cases h : s.size ≤ 400
  · rw [take_full s (k := 400) h, take_full s (by omega)]
  · rw [show (min (s.size : Int) 400).toNat = 400 by omega]

set_option maxHeartbeats 1000000 in
theorem headLines_any (s : ByteArray) (w : World) (hs : s.size ≤ maxLen) : Calls Tryd.prog 5 #[.string s] w fun e w' => e = .returned (.bool true) ∧ Below w.heap.size w w' := by
  unfold maxLen at hs
  have H2 := cut400 s
  have hl : (s.data.toList.take 400).length ≤ 1000 := by rw [List.length_take]; omega
  generalize s.data.toList.take 400 = z at *
  have c1 := Lib.hid (line_anyL z w hl)
  have c2 := Lib.hid fun w => line_refL z w hl
  obtain ⟨p, q, f, hf⟩ := lineV_form (lineP z)
  rw [hf] at c1 c2
  have EQ := fun w => eql_head w p q p q
  rw [show (p == p && q == q) = true by simp] at EQ
  have c3 := Lib.hid works_any
  clear hf hl
  go_enter Tryd.func5, Tryd.ntmps5
  go_wp2_with fail
  go_at_call 34
  refine c1.out.mono ?_
  rintro e w1 ⟨rfl, b1⟩
  obtain ⟨d1, d2⟩ := alloc_head w1 (.string ⟨p.toArray⟩) (.string ⟨q.toArray⟩)
  have b2 := Below.and b1 (below_new w1 (.cells #[.string ⟨p.toArray⟩, .string ⟨q.toArray⟩] 28))
  have hq : w1.heap.size < (w1.alloc (.cells #[.string ⟨p.toArray⟩, .string ⟨q.toArray⟩] 28)).heap.size := by simp
  clear b1 c1
  go_wp2_with fail
  generalize w1.alloc (.cells #[.string ⟨p.toArray⟩, .string ⟨q.toArray⟩] 28) = w2 at *
  generalize w1.heap.size = g1 at *
  refine (c2.out w2).mono ?_
  rintro e w3 ⟨rfl, b3⟩
  have e1 := (b3.cell (p := ⟨g1, 0, none⟩) hq).trans d1
  have e2 := (b3.cell (p := ⟨g1, 1, none⟩) hq).trans d2
  have hq3 : g1 < w3.heap.size := Nat.lt_of_lt_of_le hq b3.size
  have b3 := Below.and b2 b3
  clear d1 d2 b2 c2 hq
  obtain ⟨d3, d4⟩ := alloc_head w3 (.string ⟨p.toArray⟩) (.string ⟨q.toArray⟩)
  have k1 := ((below_new w3 (.cells #[.string ⟨p.toArray⟩, .string ⟨q.toArray⟩] 28)).cell (p := ⟨g1, 0, none⟩) hq3).trans e1
  have k2 := ((below_new w3 (.cells #[.string ⟨p.toArray⟩, .string ⟨q.toArray⟩] 28)).cell (p := ⟨g1, 1, none⟩) hq3).trans e2
  have b4 := Below.and b3 (below_new w3 (.cells #[.string ⟨p.toArray⟩, .string ⟨q.toArray⟩] 28))
  clear e1 e2 b3 hq3
  go_wp2_with fail
  generalize w3.alloc (.cells #[.string ⟨p.toArray⟩, .string ⟨q.toArray⟩] 28) = w4 at *
  generalize w3.heap.size = g3 at *
  go_wp2_with fail
  refine (c3.out w4).mono ?_
  rintro e w5 ⟨rfl, b5⟩
  have b5 := Lib.hid (Below.and b4 b5)
  go_wp2_with fail
  go_ret
  exact ⟨ret_bool rfl, b5.out⟩
end Go.Proofs.YtfiioojnmjnmmaaDoor
