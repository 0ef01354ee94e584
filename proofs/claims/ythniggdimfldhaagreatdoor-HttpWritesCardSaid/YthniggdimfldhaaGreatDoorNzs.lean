/- Same, of both sides, of any two messages; what is no message has no bytes. -/
import Derived.Test.YthniggdimfldhaaGreatDoorNzr
import Derived.Test.YthniggdimfldhaaGreatDoorNzc
namespace Go.Proofs.YthniggdimfldhaaGreatDoor
open Go Go.RowKit

/-- are two messages the same -/
def eqM (m k : Msg) : Bool := m.meth == k.meth && (m.path == k.path && (decide (m.status = k.status) && (decide (m.heads = k.heads) && (m.body == k.body))))
theorem eqM_self (m : Msg) : eqM m m = true := by unfold eqM; simp
theorem eqB_any {w : World} {A B : Option Addr} {c d : Nat} {x y : List UInt8} (h1 : Rb w.heap.size w A c x) (h2 : Rb w.heap.size w B d y) :
    Calls Tryz.prog 40 #[.slice A x.length c, .slice B y.length d] w fun e w' => e = .returned (.bool (x == y)) ∧ w' = w := by
  have := Tryz.bytes_Equal_all A B x.length c y.length d (ints x) (ints y) w (ints_len x) (ints_len y) h1.bytesIn h2.bytesIn
  rw [ints_of, ints_of] at this
  exact this
set_option maxRecDepth 100000 in
theorem eqBytes_rb {w : World} {A B : Option Addr} {c d : Nat} {x y : List UInt8} (h1 : Rb w.heap.size w A c x) (h2 : Rb w.heap.size w B d y) :
    Calls Tryz.prog 11 #[.slice A x.length c, .slice B y.length d] w fun e w' => e = .returned (.bool (x == y)) ∧ w' = w := by
  have c1 := h1.conv
  have c2 := h2.conv
  clear h1 h2
  generalize x.length = n at *
  generalize y.length = m at *
  go_enter Tryz.func11, Tryz.ntmps11
  go_wp2_with fail
  go_ret
  exact ⟨rfl, rfl⟩
set_option maxRecDepth 100000 in
set_option maxHeartbeats 800000 in
theorem same_all (m k : Msg) (hV1 hV2 : Value) (A1 A2 : Option Addr) (c1 c2 : Nat) (w : World) (h1 : MsgV w m hV1 A1 c1) (h2 : MsgV w k hV2 A2 c2) :
    Calls Tryz.prog 12 #[.agg #[.string ⟨m.meth.toArray⟩, .string ⟨m.path.toArray⟩, .int .i64 m.status, hV1, .slice A1 m.body.length c1], .agg #[.string ⟨k.meth.toArray⟩, .string ⟨k.path.toArray⟩, .int .i64 k.status, hV2, .slice A2 k.body.length c2]] w fun e w' => e = .returned (.bool (eqM m k)) ∧ Below w.heap.size w w' := by
  have hb1 := below_new w (.cells #[.string ⟨m.meth.toArray⟩, .string ⟨m.path.toArray⟩, .int .i64 m.status, hV1, .slice A1 m.body.length c1] 25)
  have hb2 := below_new (w.alloc (.cells #[.string ⟨m.meth.toArray⟩, .string ⟨m.path.toArray⟩, .int .i64 m.status, hV1, .slice A1 m.body.length c1] 25)) (.cells #[.string ⟨k.meth.toArray⟩, .string ⟨k.path.toArray⟩, .int .i64 k.status, hV2, .slice A2 k.body.length c2] 25)
  have CS1 := Lib.hid ((box_cs w m.meth m.path m.status hV1 (.slice A1 m.body.length c1)).below hb2)
  have CS2 := box_cs (w.alloc (.cells #[.string ⟨m.meth.toArray⟩, .string ⟨m.path.toArray⟩, .int .i64 m.status, hV1, .slice A1 m.body.length c1] 25)) k.meth k.path k.status hV2 (.slice A2 k.body.length c2)
  have hs : (w.alloc (.cells #[.string ⟨m.meth.toArray⟩, .string ⟨m.path.toArray⟩, .int .i64 m.status, hV1, .slice A1 m.body.length c1] 25)).heap.size = w.heap.size + 1 := by simp
  rw [hs] at CS2
  have CS2 := Lib.hid CS2
  have B2 := Lib.hid (Below.and hb1 hb2)
  have HM := Lib.hid fun w' (h : Below w.heap.size w w') => h1.below h
  have HK := Lib.hid fun w' (h : Below w.heap.size w w') => h2.below h
  have HQ := Lib.hid fun w' (h : Below w.heap.size w w') => same_anyH hV1 hV2 m.heads k.heads w' (h1.below h).hs (h2.below h).hs h1.sm.1 h2.sm.1
  have HB := Lib.hid fun w' (h : Below w.heap.size w w') => eqB_any (h1.below h).rb (h2.below h).rb
  have HE0 : eqM m k = (m.meth == k.meth && (m.path == k.path && (decide (m.status = k.status) && (decide (m.heads = k.heads) && (m.body == k.body))))) := rfl
  clear hb1 hb2 hs h1 h2 HM HK
  generalize eqM m k = R at *
  generalize decide (m.heads = k.heads) = qh at *
  generalize (m.body == k.body) = qb at *
  generalize m.meth = a at *
  generalize k.meth = a2 at *
  generalize m.path = p at *
  generalize k.path = p2 at *
  generalize m.status = st at *
  generalize k.status = st2 at *
  generalize m.body.length = bl at *
  generalize k.body.length = bl2 at *
  by_cases e1 : a = a2
  · subst e1
    by_cases e2 : p = p2
    · subst e2
      by_cases e3 : st = st2
      · subst e3
        have HE : Hid (R = (qh && qb)) := by show _ = _; rw [HE0]; simp
        clear HE0
        go_enter Tryz.func12, Tryz.ntmps12
        go_upto_region 1 with fail
        generalize (w.alloc (.cells #[.string ⟨a.toArray⟩, .string ⟨p.toArray⟩, .int .i64 st, hV1, .slice A1 bl c1] 25)).alloc (.cells #[.string ⟨a.toArray⟩, .string ⟨p.toArray⟩, .int .i64 st, hV2, .slice A2 bl2 c2] 25) = w2 at *
        have d0 := CS1.out.c 0 (by simp)
        have d1 := CS1.out.c 1 (by simp)
        have d2 := CS1.out.c 2 (by simp)
        have d3 := CS1.out.c 3 (by simp)
        have g0 := CS2.out.c 0 (by simp)
        have g1 := CS2.out.c 1 (by simp)
        have g2 := CS2.out.c 2 (by simp)
        have g3 := CS2.out.c 3 (by simp)
        have C1 := Lib.hid (HQ.out _ B2.out)
        go_wp2_with fail
        go_at_call 39
        refine C1.out.mono ?_
        rintro e w3 ⟨rfl, hb3⟩
        have B3 := Lib.hid (Below.and B2.out hb3)
        have d4 := (CS1.out.below hb3).c 4 (by simp)
        have g4 := (CS2.out.below hb3).c 4 (by simp)
        have C2 := Lib.hid (HB.out _ B3.out)
        clear hb3 d0 d1 d2 d3 g0 g1 g2 g3 C1 HQ HB CS1 CS2
        cases qh with
        | false =>
          go_wp2_with fail
          go_ret
          exact ⟨ret_bool HE.out.symm, B3.out⟩
        | true =>
          rw [Bool.true_and] at HE
          go_wp2_with fail
          go_at_call 40
          refine C2.out.mono ?_
          rintro e w4 ⟨rfl, rfl⟩
          go_wp2_with fail
          go_ret
          exact ⟨ret_bool HE.out.symm, B3.out⟩
      · have HE : Hid (R = false) := by show _ = _; rw [HE0, decide_eq_false e3]; simp
        clear HE0 HQ HB
        go_enter Tryz.func12, Tryz.ntmps12
        go_wp2_with fail
        go_ret
        exact ⟨ret_bool HE.out.symm, B2.out⟩
    · have HE : Hid (R = false) := by show _ = _; rw [HE0, beq_eq_false_iff_ne.2 e2]; simp
      clear HE0 HQ HB
      go_enter Tryz.func12, Tryz.ntmps12
      go_wp2_with fail
      go_ret
      exact ⟨ret_bool HE.out.symm, B2.out⟩
  · have HE : Hid (R = false) := by show _ = _; rw [HE0, beq_eq_false_iff_ne.2 e1]; simp
    clear HE0 HQ HB
    go_enter Tryz.func12, Tryz.ntmps12
    go_wp2_with fail
    go_ret
    exact ⟨ret_bool HE.out.symm, B2.out⟩
set_option maxRecDepth 100000 in
set_option maxHeartbeats 800000 in
theorem same_allR (m k : Msg) (hV1 hV2 : Value) (A1 A2 : Option Addr) (c1 c2 : Nat) (w : World) (h1 : MsgV w m hV1 A1 c1) (h2 : MsgV w k hV2 A2 c2) :
    Calls Tryz.prog 13 #[.agg #[.string ⟨m.meth.toArray⟩, .string ⟨m.path.toArray⟩, .int .i64 m.status, hV1, .slice A1 m.body.length c1], .agg #[.string ⟨k.meth.toArray⟩, .string ⟨k.path.toArray⟩, .int .i64 k.status, hV2, .slice A2 k.body.length c2]] w fun e w' => e = .returned (.bool (eqM m k)) ∧ Below w.heap.size w w' := by
  have hb1 := below_new w (.cells #[.string ⟨m.meth.toArray⟩, .string ⟨m.path.toArray⟩, .int .i64 m.status, hV1, .slice A1 m.body.length c1] 25)
  have hb2 := below_new (w.alloc (.cells #[.string ⟨m.meth.toArray⟩, .string ⟨m.path.toArray⟩, .int .i64 m.status, hV1, .slice A1 m.body.length c1] 25)) (.cells #[.string ⟨k.meth.toArray⟩, .string ⟨k.path.toArray⟩, .int .i64 k.status, hV2, .slice A2 k.body.length c2] 25)
  have CS1 := Lib.hid ((box_cs w m.meth m.path m.status hV1 (.slice A1 m.body.length c1)).below hb2)
  have CS2 := box_cs (w.alloc (.cells #[.string ⟨m.meth.toArray⟩, .string ⟨m.path.toArray⟩, .int .i64 m.status, hV1, .slice A1 m.body.length c1] 25)) k.meth k.path k.status hV2 (.slice A2 k.body.length c2)
  have hs : (w.alloc (.cells #[.string ⟨m.meth.toArray⟩, .string ⟨m.path.toArray⟩, .int .i64 m.status, hV1, .slice A1 m.body.length c1] 25)).heap.size = w.heap.size + 1 := by simp
  rw [hs] at CS2
  have CS2 := Lib.hid CS2
  have B2 := Lib.hid (Below.and hb1 hb2)
  have HM := Lib.hid fun w' (h : Below w.heap.size w w') => h1.below h
  have HK := Lib.hid fun w' (h : Below w.heap.size w w') => h2.below h
  have HQ := Lib.hid fun w' (h : Below w.heap.size w w') => same_refH hV1 hV2 m.heads k.heads w' (h1.below h).hs (h2.below h).hs h1.sm.1 h2.sm.1
  have HB := Lib.hid fun w' (h : Below w.heap.size w w') => eqBytes_rb (h1.below h).rb (h2.below h).rb
  have HE0 : eqM m k = (m.meth == k.meth && (m.path == k.path && (decide (m.status = k.status) && (decide (m.heads = k.heads) && (m.body == k.body))))) := rfl
  clear hb1 hb2 hs h1 h2 HM HK
  generalize eqM m k = R at *
  generalize decide (m.heads = k.heads) = qh at *
  generalize (m.body == k.body) = qb at *
  generalize m.meth = a at *
  generalize k.meth = a2 at *
  generalize m.path = p at *
  generalize k.path = p2 at *
  generalize m.status = st at *
  generalize k.status = st2 at *
  generalize m.body.length = bl at *
  generalize k.body.length = bl2 at *
  by_cases e1 : a = a2
  · subst e1
    by_cases e2 : p = p2
    · subst e2
      by_cases e3 : st = st2
      · subst e3
        have HE : Hid (R = (qh && qb)) := by show _ = _; rw [HE0]; simp
        clear HE0
        go_enter Tryz.func13, Tryz.ntmps13
        go_upto_region 1 with fail
        generalize (w.alloc (.cells #[.string ⟨a.toArray⟩, .string ⟨p.toArray⟩, .int .i64 st, hV1, .slice A1 bl c1] 25)).alloc (.cells #[.string ⟨a.toArray⟩, .string ⟨p.toArray⟩, .int .i64 st, hV2, .slice A2 bl2 c2] 25) = w2 at *
        have d0 := CS1.out.c 0 (by simp)
        have d1 := CS1.out.c 1 (by simp)
        have d2 := CS1.out.c 2 (by simp)
        have d3 := CS1.out.c 3 (by simp)
        have g0 := CS2.out.c 0 (by simp)
        have g1 := CS2.out.c 1 (by simp)
        have g2 := CS2.out.c 2 (by simp)
        have g3 := CS2.out.c 3 (by simp)
        have C1 := Lib.hid (HQ.out _ B2.out)
        go_wp2_with fail
        go_at_call 41
        refine C1.out.mono ?_
        rintro e w3 ⟨rfl, hb3⟩
        have B3 := Lib.hid (Below.and B2.out hb3)
        have d4 := (CS1.out.below hb3).c 4 (by simp)
        have g4 := (CS2.out.below hb3).c 4 (by simp)
        have C2 := Lib.hid (HB.out _ B3.out)
        clear hb3 d0 d1 d2 d3 g0 g1 g2 g3 C1 HQ HB CS1 CS2
        cases qh with
        | false =>
          go_wp2_with fail
          go_ret
          exact ⟨ret_bool HE.out.symm, B3.out⟩
        | true =>
          rw [Bool.true_and] at HE
          go_wp2_with fail
          go_at_call 11
          refine C2.out.mono ?_
          rintro e w4 ⟨rfl, rfl⟩
          go_wp2_with fail
          go_ret
          exact ⟨ret_bool HE.out.symm, B3.out⟩
      · have HE : Hid (R = false) := by show _ = _; rw [HE0, decide_eq_false e3]; simp
        clear HE0 HQ HB
        go_enter Tryz.func13, Tryz.ntmps13
        go_wp2_with fail
        go_ret
        exact ⟨ret_bool HE.out.symm, B2.out⟩
    · have HE : Hid (R = false) := by show _ = _; rw [HE0, beq_eq_false_iff_ne.2 e2]; simp
      clear HE0 HQ HB
      go_enter Tryz.func13, Tryz.ntmps13
      go_wp2_with fail
      go_ret
      exact ⟨ret_bool HE.out.symm, B2.out⟩
  · have HE : Hid (R = false) := by show _ = _; rw [HE0, beq_eq_false_iff_ne.2 e1]; simp
    clear HE0 HQ HB
    go_enter Tryz.func13, Tryz.ntmps13
    go_wp2_with fail
    go_ret
    exact ⟨ret_bool HE.out.symm, B2.out⟩
set_option maxRecDepth 100000 in
theorem bytes_no (m : Msg) (hV : Value) (Ab : Option Addr) (cb : Nat) (w : World) (h : MsgV w m hV Ab cb) (hG : Gl w) (hok : okM m = false) :
    Calls Tryz.prog 5 #[.agg #[.string ⟨m.meth.toArray⟩, .string ⟨m.path.toArray⟩, .int .i64 m.status, hV, .slice Ab m.body.length cb]] w fun e w' => e = .returned (.tuple #[.slice none 0 0, .int .i64 2]) ∧ Below w.heap.size w w' := by
  have hb := below_new w (.cells #[.string ⟨m.meth.toArray⟩, .string ⟨m.path.toArray⟩, .int .i64 m.status, hV, .slice Ab m.body.length cb] 25)
  have C1 := check_msg m hV Ab cb _ (h.hs.below hb) h.sm h.pl (hG.fresh hb)
  rw [hok, if_neg (by decide)] at C1
  have C1 := Lib.hid C1
  have CS := Lib.hid (box_cs w m.meth m.path m.status hV (.slice Ab m.body.length cb))
  have B1 := Lib.hid hb
  clear hb h hok
  generalize m.body.length = bl at *
  generalize m.meth = a at *
  generalize m.path = p at *
  generalize m.status = st at *
  go_enter Tryz.func5, Tryz.ntmps5
  go_upto_region 1 with fail
  generalize w.alloc (.cells #[.string ⟨a.toArray⟩, .string ⟨p.toArray⟩, .int .i64 st, hV, .slice Ab bl cb] 25) = w1 at *
  have d0 := CS.out.c 0 (by simp)
  have d1 := CS.out.c 1 (by simp)
  have d2 := CS.out.c 2 (by simp)
  have d3 := CS.out.c 3 (by simp)
  have d4 := CS.out.c 4 (by simp)
  go_wp2_with fail
  go_at_call 9
  refine C1.out.mono ?_
  rintro e w2 ⟨rfl, hb2⟩
  have B2 := Lib.hid (Below.and B1.out hb2)
  clear hb2 d0 d1 d2 d3 d4 C1 CS
  go_wp2_with fail
  go_ret2
  exact ⟨rfl, B2.out⟩
set_option maxRecDepth 100000 in
theorem bytes_noR (m : Msg) (hV : Value) (Ab : Option Addr) (cb : Nat) (w : World) (h : MsgV w m hV Ab cb) (hok : okM m = false) :
    Calls Tryz.prog 6 #[.agg #[.string ⟨m.meth.toArray⟩, .string ⟨m.path.toArray⟩, .int .i64 m.status, hV, .slice Ab m.body.length cb]] w fun e w' => e = .returned (.tuple #[.slice none 0 0, .int .i64 2]) ∧ Below w.heap.size w w' := by
  have hb := below_new w (.cells #[.string ⟨m.meth.toArray⟩, .string ⟨m.path.toArray⟩, .int .i64 m.status, hV, .slice Ab m.body.length cb] 25)
  have C1 := check_ref5 m hV Ab cb _ (h.hs.below hb) h.sm h.pl
  rw [hok, if_neg (by decide)] at C1
  have C1 := Lib.hid C1
  have CS := Lib.hid (box_cs w m.meth m.path m.status hV (.slice Ab m.body.length cb))
  have B1 := Lib.hid hb
  clear hb h hok
  generalize m.body.length = bl at *
  generalize m.meth = a at *
  generalize m.path = p at *
  generalize m.status = st at *
  go_enter Tryz.func6, Tryz.ntmps6
  go_upto_region 1 with fail
  generalize w.alloc (.cells #[.string ⟨a.toArray⟩, .string ⟨p.toArray⟩, .int .i64 st, hV, .slice Ab bl cb] 25) = w1 at *
  have d0 := CS.out.c 0 (by simp)
  have d1 := CS.out.c 1 (by simp)
  have d2 := CS.out.c 2 (by simp)
  have d3 := CS.out.c 3 (by simp)
  have d4 := CS.out.c 4 (by simp)
  go_wp2_with fail
  go_at_call 10
  refine C1.out.mono ?_
  rintro e w2 ⟨rfl, hb2⟩
  have B2 := Lib.hid (Below.and B1.out hb2)
  clear hb2 d0 d1 d2 d3 d4 C1 CS
  go_wp2_with fail
  go_ret2
  exact ⟨rfl, B2.out⟩
set_option maxRecDepth 100000 in
theorem chunked_none (m : Msg) (hV : Value) (Ab : Option Addr) (cb : Nat) (sz : Int) (w : World) (h : MsgV w m hV Ab cb) (hG : Gl w) (hok : okM m = false) :
    Calls Tryz.prog 7 #[.agg #[.string ⟨m.meth.toArray⟩, .string ⟨m.path.toArray⟩, .int .i64 m.status, hV, .slice Ab m.body.length cb], .int .i64 sz] w fun e w' => e = .returned (.tuple #[.slice none 0 0, .int .i64 2]) ∧ Below w.heap.size w w' := by
  have hb := below_new w (.cells #[.string ⟨m.meth.toArray⟩, .string ⟨m.path.toArray⟩, .int .i64 m.status, hV, .slice Ab m.body.length cb] 25)
  have C1 := check_msg m hV Ab cb _ (h.hs.below hb) h.sm h.pl (hG.fresh hb)
  rw [hok, if_neg (by decide)] at C1
  have C1 := Lib.hid C1
  have CS := Lib.hid (box_cs w m.meth m.path m.status hV (.slice Ab m.body.length cb))
  have B1 := Lib.hid hb
  clear hb h hok
  generalize m.body.length = bl at *
  generalize m.meth = a at *
  generalize m.path = p at *
  generalize m.status = st at *
  go_enter Tryz.func7, Tryz.ntmps7
  go_upto_region 1 with fail
  generalize w.alloc (.cells #[.string ⟨a.toArray⟩, .string ⟨p.toArray⟩, .int .i64 st, hV, .slice Ab bl cb] 25) = w1 at *
  have d0 := CS.out.c 0 (by simp)
  have d1 := CS.out.c 1 (by simp)
  have d2 := CS.out.c 2 (by simp)
  have d3 := CS.out.c 3 (by simp)
  have d4 := CS.out.c 4 (by simp)
  go_wp2_with fail
  go_at_call 9
  refine C1.out.mono ?_
  rintro e w2 ⟨rfl, hb2⟩
  have B2 := Lib.hid (Below.and B1.out hb2)
  clear hb2 d0 d1 d2 d3 d4 C1 CS
  go_wp2_with fail
  go_ret2
  exact ⟨rfl, B2.out⟩
set_option maxRecDepth 100000 in
theorem chunked_noneR (m : Msg) (hV : Value) (Ab : Option Addr) (cb : Nat) (sz : Int) (w : World) (h : MsgV w m hV Ab cb) (hok : okM m = false) :
    Calls Tryz.prog 8 #[.agg #[.string ⟨m.meth.toArray⟩, .string ⟨m.path.toArray⟩, .int .i64 m.status, hV, .slice Ab m.body.length cb], .int .i64 sz] w fun e w' => e = .returned (.tuple #[.slice none 0 0, .int .i64 2]) ∧ Below w.heap.size w w' := by
  have hb := below_new w (.cells #[.string ⟨m.meth.toArray⟩, .string ⟨m.path.toArray⟩, .int .i64 m.status, hV, .slice Ab m.body.length cb] 25)
  have C1 := check_ref5 m hV Ab cb _ (h.hs.below hb) h.sm h.pl
  rw [hok, if_neg (by decide)] at C1
  have C1 := Lib.hid C1
  have CS := Lib.hid (box_cs w m.meth m.path m.status hV (.slice Ab m.body.length cb))
  have B1 := Lib.hid hb
  clear hb h hok
  generalize m.body.length = bl at *
  generalize m.meth = a at *
  generalize m.path = p at *
  generalize m.status = st at *
  go_enter Tryz.func8, Tryz.ntmps8
  go_upto_region 1 with fail
  generalize w.alloc (.cells #[.string ⟨a.toArray⟩, .string ⟨p.toArray⟩, .int .i64 st, hV, .slice Ab bl cb] 25) = w1 at *
  have d0 := CS.out.c 0 (by simp)
  have d1 := CS.out.c 1 (by simp)
  have d2 := CS.out.c 2 (by simp)
  have d3 := CS.out.c 3 (by simp)
  have d4 := CS.out.c 4 (by simp)
  go_wp2_with fail
  go_at_call 10
  refine C1.out.mono ?_
  rintro e w2 ⟨rfl, hb2⟩
  have B2 := Lib.hid (Below.and B1.out hb2)
  clear hb2 d0 d1 d2 d3 d4 C1 CS
  go_wp2_with fail
  go_ret2
  exact ⟨rfl, B2.out⟩
end Go.Proofs.YthniggdimfldhaaGreatDoor
