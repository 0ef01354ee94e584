/- Helpers of the laws: line, wrong, short. -/
import Derived.Test.YtfiioojnmjnmmaaDoorHo
namespace Go.Proofs.YtfiioojnmjnmmaaDoor
open Go Go.RowKit

theorem line_anyL (s : List UInt8) (w : World) (hs : s.length ≤ 1000) : Calls Tryd.prog 34 #[.string ⟨s.toArray⟩] w fun e w' => e = .returned (lineV (lineP s)) ∧ Below w.heap.size w w' :=
  (line_any ⟨s.toArray⟩ w (by rw [mk_size]; exact hs)).mono fun _ _ ⟨h1, h2⟩ => ⟨by rw [h1, mk_toList], h2⟩
theorem line_refL (s : List UInt8) (w : World) (hs : s.length ≤ 1000) : Calls Tryd.prog 35 #[.string ⟨s.toArray⟩] w fun e w' => e = .returned (lineV (lineP s)) ∧ Below w.heap.size w w' :=
  (line_ref ⟨s.toArray⟩ w (by rw [mk_size]; exact hs)).mono fun _ _ ⟨h1, h2⟩ => ⟨by rw [h1, mk_toList], h2⟩

theorem lawLine_any (s y z : List UInt8) (w : World) (hs : s.length ≤ 1000) : Calls Tryd.prog 37 #[.string ⟨s.toArray⟩, .string ⟨y.toArray⟩, .string ⟨z.toArray⟩] w fun e w' =>
    e = .returned (.bool (decide (lineP s = some (y, z)))) ∧ Below w.heap.size w w' := by
  have con := Lib.hid (line_anyL s w hs)
  cases h : lineP s with
  | none =>
    rw [h] at con
    unfold lineV at con
    go_enter Tryd.func37, Tryd.ntmps37
    go_wp2_with fail
    go_at_call 34
    refine con.out.mono ?_
    rintro e w1 ⟨rfl, b1⟩
    have b2 := Below.and b1 (below_new w1 (.cells #[.string ⟨#[]⟩, .string ⟨#[]⟩] 28))
    go_wp2_with fail
    go_ret
    exact ⟨ret_bool (by simp), b2⟩
  | some x =>
    obtain ⟨p, q⟩ := x
    rw [h] at con
    unfold lineV at con
    dsimp only at con
    have hd : decide (some (p, q) = some (y, z)) = ((p == y) && (q == z)) := by
      rw [Bool.eq_iff_iff]; simp
    rw [hd]
    cases h1 : p == y with
    | false =>
      go_enter Tryd.func37, Tryd.ntmps37
      go_wp2_with fail
      go_at_call 34
      refine con.out.mono ?_
      rintro e w1 ⟨rfl, b1⟩
      have b2 := Below.and b1 (below_new w1 (.cells #[.string ⟨p.toArray⟩, .string ⟨q.toArray⟩] 28))
      obtain ⟨d1, d2⟩ := alloc_head w1 (.string ⟨p.toArray⟩) (.string ⟨q.toArray⟩)
      go_wp2_with fail
      go_ret
      exact ⟨ret_bool rfl, b2⟩
    | true =>
      go_enter Tryd.func37, Tryd.ntmps37
      go_wp2_with fail
      go_at_call 34
      refine con.out.mono ?_
      rintro e w1 ⟨rfl, b1⟩
      have b2 := Below.and b1 (below_new w1 (.cells #[.string ⟨p.toArray⟩, .string ⟨q.toArray⟩] 28))
      obtain ⟨d1, d2⟩ := alloc_head w1 (.string ⟨p.toArray⟩) (.string ⟨q.toArray⟩)
      go_wp2_with fail
      go_ret
      exact ⟨ret_bool rfl, b2⟩
theorem lawWrong_any (s : List UInt8) (w : World) (hs : s.length ≤ 1000) : Calls Tryd.prog 38 #[.string ⟨s.toArray⟩] w fun e w' =>
    e = .returned (.bool (lineP s).isNone) ∧ Below w.heap.size w w' := by
  have con := Lib.hid (line_anyL s w hs)
  have EQ := eql_head
  cases h : lineP s with
  | none =>
    rw [h] at con
    unfold lineV at con
    have EQ0 := fun w => EQ w [] [] [] []
    go_enter Tryd.func38, Tryd.ntmps38
    go_wp2_with fail
    go_at_call 34
    refine con.out.mono ?_
    rintro e w1 ⟨rfl, b1⟩
    have b2 := Below.and b1 (below_new w1 (.cells #[.string ⟨#[]⟩, .string ⟨#[]⟩] 28))
    obtain ⟨d1, d2⟩ := alloc_head w1 (.string ⟨#[]⟩) (.string ⟨#[]⟩)
    go_wp2_with fail
    go_ret
    exact ⟨ret_bool rfl, b2⟩
  | some x =>
    obtain ⟨p, q⟩ := x
    rw [h] at con
    unfold lineV at con
    dsimp only at con
    go_enter Tryd.func38, Tryd.ntmps38
    go_wp2_with fail
    go_at_call 34
    refine con.out.mono ?_
    rintro e w1 ⟨rfl, b1⟩
    have b2 := Below.and b1 (below_new w1 (.cells #[.string ⟨p.toArray⟩, .string ⟨q.toArray⟩] 28))
    go_wp2_with fail
    go_ret
    exact ⟨ret_bool rfl, b2⟩

/-- short: 250 bytes at most -/
theorem short_any (s : ByteArray) (w : World) (hs : s.size ≤ maxLen) : Calls Tryd.prog 11 #[.string s] w fun e w' => e = .returned (.string ⟨(s.data.toList.take 250).toArray⟩) ∧ w = w' := by
  unfold maxLen at hs
  have he : s.extract 0 (min (s.size : Int) 250).toNat = ⟨(s.data.toList.take 250).toArray⟩ := by
    rw [← mk_data (s.extract 0 _), extract_take]
    by_cases h : s.size ≤ 250
    · rw [take_full s (k := 250) h, take_full s (by omega)]
    · rw [show (min (s.size : Int) 250).toNat = 250 by omega]
  have H2 := Lib.hid he
  clear he
  go_enter Tryd.func11, Tryd.ntmps11
  go_wp2
  go_ret
  exact ⟨ret_str H2.out, rfl⟩
theorem short_anyL (z : List UInt8) (w : World) (hz : z.length ≤ maxLen) : Calls Tryd.prog 11 #[.string ⟨z.toArray⟩] w fun e w' => e = .returned (.string ⟨(z.take 250).toArray⟩) ∧ w = w' :=
  (short_any ⟨z.toArray⟩ w (by rw [mk_size]; exact hz)).mono fun _ _ ⟨h1, h2⟩ => ⟨by rw [h1, mk_toList], h2⟩
end Go.Proofs.YtfiioojnmjnmmaaDoor
