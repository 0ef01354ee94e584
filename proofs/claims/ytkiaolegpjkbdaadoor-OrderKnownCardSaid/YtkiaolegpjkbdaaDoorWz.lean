/- Orders that are none: nil, or without elements. -/
import Derived.Test.YtkiaolegpjkbdaaDoorWo
namespace Go.Proofs.YtkiaolegpjkbdaaDoor
open Go Go.RowKit Go.Shelf

/-- An order that is none. -/
def NoOrd (W : World) (p : Option Addr) : Prop := p = none ∨ ∃ b A, p = some ⟨b, 0, none⟩ ∧ IsOrd W b 0 A
theorem NoOrd.below {W W' : World} {p : Option Addr} (h : NoOrd W p) (hb : Below W.heap.size W W') : NoOrd W' p := by
  rcases h with h | ⟨b, A, e, h⟩
  · exact .inl h
  · exact .inr ⟨b, A, e, h.below hb h.lt⟩
theorem many_none (p : Option Addr) (W : World) (h : NoOrd W p) : Calls Tryd.prog 18 #[.pointer p] W fun e w' => e = .returned (.int .i64 0) ∧ W = w' := by
  rcases h with rfl | ⟨b, A, rfl, h⟩
  · exact many_nil W
  · exact many_any b 0 A W h
theorem has_none (p : Option Addr) (a : Int) (W : World) (h : NoOrd W p) : Calls Tryd.prog 24 #[.pointer p, .int .i64 a] W fun e w' => e = .returned (.bool false) ∧ W = w' := by
  rcases h with rfl | ⟨b, A, rfl, h⟩
  · exact has_nil a W
  · exact has_out b 0 A a W h (by omega)
theorem add_none (p : Option Addr) (x y : Int) (W : World) (h : NoOrd W p) : Calls Tryd.prog 12 #[.pointer p, .int .i64 x, .int .i64 y] W fun e w' => e = .returned (.int .i64 1) ∧ W = w' := by
  go_enter Tryd.func12, Tryd.ntmps12
  go_wp2_with fail
  refine (many_none p W h).mono ?_
  rintro e w' ⟨rfl, rfl⟩
  go_wp2_with fail
  go_ret
  exact ⟨rfl, rfl⟩
theorem atMost_none (p : Option Addr) (x y : Int) (W : World) (h : NoOrd W p) : Calls Tryd.prog 19 #[.pointer p, .int .i64 x, .int .i64 y] W fun e w' => e = .returned (.bool false) ∧ W = w' := by
  go_enter Tryd.func19, Tryd.ntmps19
  go_wp2_with fail
  refine (has_none p x W h).mono ?_
  rintro e w' ⟨rfl, rfl⟩
  go_wp2_with fail
  go_ret
  exact ⟨rfl, rfl⟩
theorem up_none (p : Option Addr) (x : Int) (W : World) (h : NoOrd W p) : Calls Tryd.prog 22 #[.pointer p, .int .i64 x] W fun e w' => e = .returned (.slice none 0 0) ∧ W = w' := by
  go_enter Tryd.func22, Tryd.ntmps22
  go_wp2_with fail
  refine (has_none p x W h).mono ?_
  rintro e w' ⟨rfl, rfl⟩
  go_wp2_with fail
  go_ret
  exact ⟨rfl, rfl⟩
theorem down_none (p : Option Addr) (x : Int) (W : World) (h : NoOrd W p) : Calls Tryd.prog 23 #[.pointer p, .int .i64 x] W fun e w' => e = .returned (.slice none 0 0) ∧ W = w' := by
  go_enter Tryd.func23, Tryd.ntmps23
  go_wp2_with fail
  refine (has_none p x W h).mono ?_
  rintro e w' ⟨rfl, rfl⟩
  go_wp2_with fail
  go_ret
  exact ⟨rfl, rfl⟩
theorem copy_none (p : Option Addr) (W : World) (h : NoOrd W p) : Calls Tryd.prog 15 #[.pointer p] W fun e w' => e = .returned (.pointer none) ∧ W = w' := by
  go_enter Tryd.func15, Tryd.ntmps15
  go_wp2_with fail
  refine (many_none p W h).mono ?_
  rintro e w' ⟨rfl, rfl⟩
  go_wp2_with fail
  go_ret
  exact ⟨rfl, rfl⟩
theorem all_none (p : Option Addr) (W : World) (h : NoOrd W p) : Calls Tryd.prog 39 #[.pointer p] W fun e w' => e = .returned (.int .u16 0) ∧ W = w' := by
  go_enter Tryd.func39, Tryd.ntmps39
  go_wp2_with fail
  refine (many_none p W h).mono ?_
  rintro e w' ⟨rfl, rfl⟩
  go_wp2_with fail
  refine wp_loop_rounds 1 ?_
  rw [rounds_succ]
  go_wp2_with fail
  go_ret
  exact ⟨rfl, rfl⟩
theorem covers_none (p : Option Addr) (W : World) (h : NoOrd W p) : Calls Tryd.prog 20 #[.pointer p] W fun e w' => e = .returned (.slice none 0 0) ∧ Below W.heap.size W w' := by
  have hb : Below W.heap.size W ((W.alloc (.cells #[.pointer p] 23)).alloc (.cells #[.slice none 0 0] 22)) := ((Below.refl _ W).alloc (Nat.le_refl _) _).alloc (by simp) _
  have HN := Lib.hid (h.below hb)
  have HB := Lib.hid hb
  clear hb h
  go_enter Tryd.func20, Tryd.ntmps20
  go_wp2_with fail
  refine (many_none p _ HN.out).mono ?_
  rintro e w' ⟨rfl, rfl⟩
  go_wp2_with fail
  refine wp_loop_rounds 1 ?_
  rw [rounds_succ]
  go_wp2_with fail
  go_ret
  exact ⟨rfl, HB.out⟩
theorem line_none (p : Option Addr) (W : World) (h : NoOrd W p) : Calls Tryd.prog 21 #[.pointer p] W fun e w' => e = .returned (.slice none 0 0) ∧ Below W.heap.size W w' := by
  have hb : Below W.heap.size W ((W.alloc (.cells #[.pointer p] 23)).alloc (.cells #[.slice none 0 0] 43)) := ((Below.refl _ W).alloc (Nat.le_refl _) _).alloc (by simp) _
  have HN := Lib.hid (h.below hb)
  have HB := Lib.hid (hb.alloc hb.size (.cells #[.int .u16 0] 48))
  clear hb h
  go_enter Tryd.func21, Tryd.ntmps21
  go_wp2_with fail
  refine (all_none p _ HN.out).mono ?_
  rintro e w' ⟨rfl, rfl⟩
  go_wp2_with fail
  refine wp_loop_rounds 1 ?_
  rw [rounds_succ]
  go_wp2_with fail
  go_ret
  exact ⟨rfl, HB.out⟩
end Go.Proofs.YtkiaolegpjkbdaaDoor
