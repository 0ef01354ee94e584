/- The program: Same of equal messages; the statement HttpAgain. -/
import Derived.Test.YtnjoadhkkfbeeaaGreatDoorNzb
import Derived.Test.YtnjoadhkkfbeeaaGreatDoorNy
namespace Go.Proofs.YtnjoadhkkfbeeaaGreatDoor
open Go Go.RowKit

theorem equal_rb {D1 D2 : Nat} {w : World} {A1 A2 : Option Addr} {c1 c2 : Nat} {x y : List UInt8} (h1 : Rb D1 w A1 c1 x) (h2 : Rb D2 w A2 c2 y) : Calls Tryz.prog 48 #[.slice A1 x.length c1, .slice A2 y.length c2] w fun e w' => e = .returned (.bool (x == y)) ∧ w' = w := by
  have := Tryz.bytes_Equal_all A1 A2 x.length c1 y.length c2 (ints x) (ints y) w (ints_len x) (ints_len y) h1.bytesIn h2.bytesIn
  rw [ints_of, ints_of] at this
  exact this
set_option maxRecDepth 100000 in
set_option maxHeartbeats 1000000 in
theorem same_yes (m : Msg) (hV1 hV2 : Value) (A1 A2 : Option Addr) (c1 c2 : Nat) (w : World) (h1 : MsgV w m hV1 A1 c1) (h2 : MsgV w m hV2 A2 c2) :
    Calls Tryz.prog 16 #[.agg #[.string ⟨m.meth.toArray⟩, .string ⟨m.path.toArray⟩, .int .i64 m.status, hV1, .slice A1 m.body.length c1], .agg #[.string ⟨m.meth.toArray⟩, .string ⟨m.path.toArray⟩, .int .i64 m.status, hV2, .slice A2 m.body.length c2]] w
      fun e w' => e = .returned (.bool true) ∧ Below w.heap.size w w' := by
  have hb1 := below_new w (.cells #[.string ⟨m.meth.toArray⟩, .string ⟨m.path.toArray⟩, .int .i64 m.status, hV1, .slice A1 m.body.length c1] 25)
  have hb2 := Below.and hb1 (below_new (w.alloc (.cells #[.string ⟨m.meth.toArray⟩, .string ⟨m.path.toArray⟩, .int .i64 m.status, hV1, .slice A1 m.body.length c1] 25)) (.cells #[.string ⟨m.meth.toArray⟩, .string ⟨m.path.toArray⟩, .int .i64 m.status, hV2, .slice A2 m.body.length c2] 25))
  have hs1 : (w.alloc (.cells #[.string ⟨m.meth.toArray⟩, .string ⟨m.path.toArray⟩, .int .i64 m.status, hV1, .slice A1 m.body.length c1] 25)).heap.size = w.heap.size + 1 := by simp
  have hx := h1.below hb2
  have hy := h2.below hb2
  have CA := Lib.hid ((box_cs w m.meth m.path m.status hV1 (.slice A1 m.body.length c1)).below (below_new _ (.cells #[.string ⟨m.meth.toArray⟩, .string ⟨m.path.toArray⟩, .int .i64 m.status, hV2, .slice A2 m.body.length c2] 25)))
  have hcb := box_cs (w.alloc (.cells #[.string ⟨m.meth.toArray⟩, .string ⟨m.path.toArray⟩, .int .i64 m.status, hV1, .slice A1 m.body.length c1] 25)) m.meth m.path m.status hV2 (.slice A2 m.body.length c2)
  rw [hs1] at hcb
  have CB := Lib.hid hcb
  have C1 := same_anyH hV1 hV2 m.heads m.heads _ hx.hs hy.hs hx.sm.1 hx.sm.1
  rw [decide_eq_true rfl] at C1
  have C1 := Lib.hid C1
  have C2 := Lib.hid fun w' (hb : Below w.heap.size w w') => equal_rb (h1.below hb).rb (h2.below hb).rb
  rw [beq_self_eq_true] at C2
  have B1 := Lib.hid hb2
  clear hb1 hb2 hs1 hx hy hcb h1 h2
  generalize m.meth = a at *
  generalize m.path = p at *
  generalize m.status = st at *
  generalize m.body.length = bn at *
  go_enter Tryz.func16, Tryz.ntmps16
  go_wp2_with fail
  generalize (w.alloc (.cells #[.string ⟨a.toArray⟩, .string ⟨p.toArray⟩, .int .i64 st, hV1, .slice A1 bn c1] 25)).alloc (.cells #[.string ⟨a.toArray⟩, .string ⟨p.toArray⟩, .int .i64 st, hV2, .slice A2 bn c2] 25) = w1 at *
  generalize hg : w.heap.size = g at *
  have d0 := CA.out.c 0 (by simp)
  have d1 := CA.out.c 1 (by simp)
  have d2 := CA.out.c 2 (by simp)
  have d3 := CA.out.c 3 (by simp)
  have e0 := CB.out.c 0 (by simp)
  have e1 := CB.out.c 1 (by simp)
  have e2 := CB.out.c 2 (by simp)
  have e3 := CB.out.c 3 (by simp)
  go_wp2_with fail
  go_at_call 47
  refine C1.out.mono ?_
  rintro e w2 ⟨rfl, hb2⟩
  have B2 : Hid (Below g w w2) := Below.trans B1.out (hb2.mono (by rw [← hg]; exact B1.out.size))
  have d4 := (CA.out.keep hb2.size (hb2.block _ CA.out.lt)).c 4 (by simp)
  have e4 := (CB.out.keep hb2.size (hb2.block _ CB.out.lt)).c 4 (by simp)
  clear d0 d1 d2 d3 e0 e1 e2 e3 hb2 C1
  go_wp2_with fail
  go_at_call 48
  refine (C2.out w2 B2.out).mono ?_
  rintro e w3 ⟨rfl, rfl⟩
  go_wp2_with fail
  go_ret
  exact ⟨rfl, by rw [hg]; exact B2.out⟩
/-- what Parse makes of bytes that are a message -/
theorem parse_ok {w : World} {A : Option Addr} {c n : Nat} {x : List UInt8} {m : Msg} (h : Rb w.heap.size w A c x) (hn : n = x.length) (hG : Gl w) (hs : x.length ≤ 1000000) (hE : parseM x = .ok m) :
    Calls Tryz.prog 28 #[.slice A n c] w fun e w' => Below w.heap.size w w' ∧ ∃ (hV : Value) (Ab : Option Addr) (cb : Nat), e = .returned (.tuple #[.agg #[.string ⟨m.meth.toArray⟩, .string ⟨m.path.toArray⟩, .int .i64 m.status, hV, .slice Ab m.body.length cb], .int .i64 0]) ∧ MsgV w' m hV Ab cb ∧ ∃ Ah ch, hV = .slice Ah m.heads.length ch := by
  subst hn
  have hp : m.path.length ≤ 1000000 := by
    obtain ⟨h1, h2, h3⟩ := parse_whole hE
    rcases (okM_split h3).1 with h | h
    · unfold isReq isPath at h
      simp only [Bool.and_eq_true, decide_eq_true_eq] at h
      omega
    · unfold isAns at h
      simp only [Bool.and_eq_true, beq_iff_eq] at h
      rw [h.2.1]
      show 0 ≤ _
      omega
  refine (parse_any h hG hs).mono ?_
  rintro e w' ⟨hb, hp2⟩
  rw [hE] at hp2
  obtain ⟨Ah, ch, Ab, cb, rfl, hsm, hO, hB⟩ := hp2
  refine ⟨hb, _, Ab, cb, rfl, ⟨hO.hs, hsm, hp, ?_⟩, Ah, ch, rfl⟩
  obtain ⟨A2, c2, e2, hr⟩ := hB.rb
  injection e2 with e3 e4 e5
  subst e3 e5
  exact hr
abbrev msg5 (m : Msg) (hV : Value) (Ab : Option Addr) (cb : Nat) : Array Value := #[.string ⟨m.meth.toArray⟩, .string ⟨m.path.toArray⟩, .int .i64 m.status, hV, .slice Ab m.body.length cb]
theorem msg_cs (w : World) (m : Msg) (hV : Value) (Ab : Option Addr) (cb : Nat) : Cs (w.alloc (.cells (msg5 m hV Ab cb) 25)) w.heap.size [.string ⟨m.meth.toArray⟩, .string ⟨m.path.toArray⟩, .int .i64 m.status, hV, .slice Ab m.body.length cb] := Cs.new w _ _
set_option maxRecDepth 100000 in
set_option maxHeartbeats 1000000 in
theorem again_any {w : World} {A : Option Addr} {c : Nat} {x : List UInt8} (h : Rb w.heap.size w A c x) (hG : Gl w) (hx : x.length ≤ maxLen) :
    Calls Tryz.prog 7 #[.slice A x.length c] w fun e w' => e = .returned (.bool true) ∧ Below w.heap.size w w' := by
  have hxc := h.cap
  have hn2 : (min (x.length : Int) 9000).toNat = (x.take 9000).length := by rw [List.length_take]; omega
  have HX := Lib.hid (h.take 9000)
  have HL : Hid ((x.take 9000).length ≤ 1000000) := by show _ ≤ _; rw [List.length_take]; omega
  have HG := Lib.hid fun w' (h : Below w.heap.size w w') => hG.fresh h
  have HW := Lib.hid fun w' (h : Below w.heap.size w w') => works_any w' (hG.fresh h)
  clear hG h
  unfold maxLen at hx
  generalize x.take 9000 = y at *
  generalize x.length = xl at *
  cases hE : parseM y with
  | error E =>
    have CP := Lib.hid (parse_any HX.out (HG.out w (Below.refl _ _)) HL.out)
    rw [← hn2] at CP
    have HE := Lib.hid hE
    clear hE HX HL hn2
    go_enter Tryz.func7, Tryz.ntmps7
    go_wp2_with fail
    go_at_call 28
    refine CP.out.mono ?_
    rintro e w1 ⟨hb1, hp⟩
    rw [HE.out] at hp
    obtain ⟨rfl, hE0⟩ := hp
    have HB := Lib.hid (Below.and hb1 (below_new w1 (.cells zero5 25)))
    clear CP hb1 HE
    go_wp2_with fail
    go_at_call 26
    refine (HW.out _ HB.out).mono ?_
    rintro e w2 ⟨rfl, hb2⟩
    have HB2 := Lib.hid (Below.and HB.out hb2)
    clear hb2
    go_wp2_with fail
    go_ret
    exact ⟨rfl, HB2.out⟩
  | ok m =>
    have HOK := Lib.hid (parse_again hE).1
    have HEN := Lib.hid (parse_again hE).2
    have HEL := Lib.hid (enc_len (parse_again hE).1)
    have CP := Lib.hid (parse_ok HX.out hn2 (HG.out w (Below.refl _ _)) HL.out hE)
    clear hE HX HL hn2
    go_enter Tryz.func7, Tryz.ntmps7
    go_wp2_with fail
    go_at_call 28
    refine CP.out.mono ?_
    rintro e w1 ⟨hb1, hV, Ab, cb, rfl, hM, Ah, ch, rfl⟩
    have hbn := below_new w1 (.cells (msg5 m (.slice Ah m.heads.length ch) Ab cb) 25)
    have M2 := Lib.hid (hM.below hbn)
    have B2 := Lib.hid (Below.and hb1 hbn)
    have C2 := Lib.hid (msg_cs w1 m (.slice Ah m.heads.length ch) Ab cb)
    have d0 := C2.out.c 0 (by simp)
    have d1 := C2.out.c 1 (by simp)
    have d2 := C2.out.c 2 (by simp)
    have d3 := C2.out.c 3 (by simp)
    have d4 := C2.out.c 4 (by simp)
    clear CP hb1 hbn hM
    go_wp2_with fail
    clear d0 d1 d2 d3 d4
    generalize w1.alloc (.cells (msg5 m (.slice Ah m.heads.length ch) Ab cb) 25) = w2 at *
    generalize w1.heap.size = g at *
    go_at_call 9
    refine (bytes_ok m _ Ab cb _ M2.out (HG.out _ B2.out) HOK.out).mono ?_
    rintro e w3 ⟨A3, c3, rfl, hr3, hb3⟩
    have B3 := Lib.hid (Below.and B2.out hb3)
    have M3 := Lib.hid (M2.out.below hb3)
    have C3 := Lib.hid (C2.out.keep hb3.size (hb3.block _ C2.out.lt))
    have CP := Lib.hid (parse_ok hr3.rb rfl (HG.out _ B3.out) (Nat.le_trans HEL.out (by decide)) HEN.out)
    clear hr3 hb3 M2 B2 C2
    go_wp2_with fail
    go_at_call 28
    refine CP.out.mono ?_
    rintro e w4 ⟨hb4, hV2, Ab2, cb2, rfl, hM2, Ah2, ch2, rfl⟩
    have hbn := below_new w4 (.cells (msg5 m (.slice Ah2 m.heads.length ch2) Ab2 cb2) 25)
    have hb5 := Below.and hb4 hbn
    have N5 := Lib.hid (hM2.below hbn)
    have B5 := Lib.hid (Below.and B3.out hb5)
    have M5 := Lib.hid (M3.out.below hb5)
    have D5 := Lib.hid (msg_cs w4 m (.slice Ah2 m.heads.length ch2) Ab2 cb2)
    have C5 := Lib.hid (C3.out.keep hb5.size (hb5.block _ C3.out.lt))
    have d0 := C5.out.c 0 (by simp)
    have d1 := C5.out.c 1 (by simp)
    have d2 := C5.out.c 2 (by simp)
    have d3 := C5.out.c 3 (by simp)
    have d4 := C5.out.c 4 (by simp)
    clear CP hb4 hbn hM2 hb5 M3 B3 C3 HEL HEN
    go_wp2_with fail
    clear d0 d1 d2 d3 d4
    generalize w4.alloc (.cells (msg5 m (.slice Ah2 m.heads.length ch2) Ab2 cb2) 25) = w5 at *
    generalize w4.heap.size = g5 at *
    go_at_call 13
    have CK := check_msg m _ Ab cb _ M5.out.hs M5.out.sm M5.out.pl (HG.out _ B5.out)
    rw [HOK.out, if_pos rfl] at CK
    refine CK.mono ?_
    clear CK
    rintro e w6 ⟨rfl, hb6⟩
    have B6 := Lib.hid (Below.and B5.out hb6)
    have M6 := Lib.hid (M5.out.below hb6)
    have N6 := Lib.hid (N5.out.below hb6)
    have C6 := Lib.hid (C5.out.keep hb6.size (hb6.block _ C5.out.lt))
    have D6 := Lib.hid (D5.out.keep hb6.size (hb6.block _ D5.out.lt))
    have d0 := C6.out.c 0 (by simp)
    have d1 := C6.out.c 1 (by simp)
    have d2 := C6.out.c 2 (by simp)
    have d3 := C6.out.c 3 (by simp)
    have d4 := C6.out.c 4 (by simp)
    have e0 := D6.out.c 0 (by simp)
    have e1 := D6.out.c 1 (by simp)
    have e2 := D6.out.c 2 (by simp)
    have e3 := D6.out.c 3 (by simp)
    have e4 := D6.out.c 4 (by simp)
    clear hb6 B5 M5 N5 C5 D5
    go_wp2_with fail
    go_at_call 16
    refine (same_yes m _ _ Ab Ab2 cb cb2 _ M6.out N6.out).mono ?_
    rintro e w7 ⟨rfl, hb7⟩
    have B7 := Lib.hid (Below.and B6.out hb7)
    clear hb7 d0 d1 d2 d3 d4 e0 e1 e2 e3 e4 M6 N6 C6 D6 B6
    go_wp2_with fail
    go_at_call 26
    refine (HW.out _ B7.out).mono ?_
    rintro e w8 ⟨rfl, hb8⟩
    have B8 := Lib.hid (Below.and B7.out hb8)
    clear hb8
    go_wp2_with fail
    go_ret
    exact ⟨rfl, B8.out⟩
end Go.Proofs.YtnjoadhkkfbeeaaGreatDoor
