/- The program: Same of equal messages; the statement HttpAgain. -/
import Derived.Test.YthniggdimfldhaaGreatDoorNzb
import Derived.Test.YthniggdimfldhaaGreatDoorNy
namespace Go.Proofs.YthniggdimfldhaaGreatDoor
open Go Go.RowKit

theorem equal_rb {D1 D2 : Nat} {w : World} {A1 A2 : Option Addr} {c1 c2 : Nat} {x y : List UInt8} (h1 : Rb D1 w A1 c1 x) (h2 : Rb D2 w A2 c2 y) : Calls Tryz.prog 40 #[.slice A1 x.length c1, .slice A2 y.length c2] w fun e w' => e = .returned (.bool (x == y)) ∧ w' = w := by
  have := Tryz.bytes_Equal_all A1 A2 x.length c1 y.length c2 (ints x) (ints y) w (ints_len x) (ints_len y) h1.bytesIn h2.bytesIn
  rw [ints_of, ints_of] at this
  exact this
set_option maxRecDepth 100000 in
set_option maxHeartbeats 1000000 in
theorem same_yes (m : Msg) (hV1 hV2 : Value) (A1 A2 : Option Addr) (c1 c2 : Nat) (w : World) (h1 : MsgV w m hV1 A1 c1) (h2 : MsgV w m hV2 A2 c2) :
    Calls Tryz.prog 12 #[.agg #[.string ⟨m.meth.toArray⟩, .string ⟨m.path.toArray⟩, .int .i64 m.status, hV1, .slice A1 m.body.length c1], .agg #[.string ⟨m.meth.toArray⟩, .string ⟨m.path.toArray⟩, .int .i64 m.status, hV2, .slice A2 m.body.length c2]] w
      fun e w' => e = .returned (.bool true) ∧ Below w.heap.size w w' := by
  have hb1 := below_new w (.cells #[.string ⟨m.meth.toArray⟩, .string ⟨m.path.toArray⟩, .int .i64 m.status, hV1, .slice A1 m.body.length c1] 25)
  have hb2 := Below.and hb1 (below_new (w.alloc (.cells #[.string ⟨m.meth.toArray⟩, .string ⟨m.path.toArray⟩, .int .i64 m.status, hV1, .slice A1 m.body.length c1] 25)) (.cells #[.string ⟨m.meth.toArray⟩, .string ⟨m.path.toArray⟩, .int .i64 m.status, hV2, .slice A2 m.body.length c2] 25))
  have hs1 : (w.alloc (.cells #[.string ⟨m.meth.toArray⟩, .string ⟨m.path.toArray⟩, .int .i64 m.status, hV1, .slice A1 m.body.length c1] 25)).heap.size = w.heap.size + 1 := by simp
  have hx := h1.below hb2
  have hy := h2.below hb2
  have CA := Lib.hid ((box_cs w m.meth m.path m.status hV1 (.slice A1 m.body.length c1)).below (below_new _ (.cells #[.string ⟨m.meth.toArray⟩, .string ⟨m.path.toArray⟩, .int .i64 m.status, hV2, .slice A2 m.body.length c2] 25)))
  have hcb := box_cs (w.alloc (.cells #[.string ⟨m.meth.toArray⟩, .string ⟨m.path.toArray⟩, .int .i64 m.status, hV1, .slice A1 m.body.length c1] 25)) m.meth m.path m.status hV2 (.slice A2 m.body.length c2)
  rw [hs1] at hcb
  have CB := Lib.hid hcb
  have C1 := same_anyH hV1 hV2 m.heads m.heads _ hx.hs hy.hs hx.sm.1 hx.sm.1
  rw [decide_eq_true rfl] at C1
  have C1 := Lib.hid C1
  have C2 := Lib.hid fun w' (hb : Below w.heap.size w w') => equal_rb (h1.below hb).rb (h2.below hb).rb
  rw [beq_self_eq_true] at C2
  have B1 := Lib.hid hb2
  clear hb1 hb2 hs1 hx hy hcb h1 h2
  generalize m.meth = a at *
  generalize m.path = p at *
  generalize m.status = st at *
  generalize m.body.length = bn at *
  go_enter Tryz.func12, Tryz.ntmps12
  go_wp2_with fail
  generalize (w.alloc (.cells #[.string ⟨a.toArray⟩, .string ⟨p.toArray⟩, .int .i64 st, hV1, .slice A1 bn c1] 25)).alloc (.cells #[.string ⟨a.toArray⟩, .string ⟨p.toArray⟩, .int .i64 st, hV2, .slice A2 bn c2] 25) = w1 at *
  generalize hg : w.heap.size = g at *
  have d0 := CA.out.c 0 (by simp)
  have d1 := CA.out.c 1 (by simp)
  have d2 := CA.out.c 2 (by simp)
  have d3 := CA.out.c 3 (by simp)
  have e0 := CB.out.c 0 (by simp)
  have e1 := CB.out.c 1 (by simp)
  have e2 := CB.out.c 2 (by simp)
  have e3 := CB.out.c 3 (by simp)
  go_wp2_with fail
  go_at_call 39
  refine C1.out.mono ?_
  rintro e w2 ⟨rfl, hb2⟩
  have B2 : Hid (Below g w w2) := Below.trans B1.out (hb2.mono (by rw [← hg]; exact B1.out.size))
  have d4 := (CA.out.keep hb2.size (hb2.block _ CA.out.lt)).c 4 (by simp)
  have e4 := (CB.out.keep hb2.size (hb2.block _ CB.out.lt)).c 4 (by simp)
  clear d0 d1 d2 d3 e0 e1 e2 e3 hb2 C1
  go_wp2_with fail
  go_at_call 40
  refine (C2.out w2 B2.out).mono ?_
  rintro e w3 ⟨rfl, rfl⟩
  go_wp2_with fail
  go_ret
  exact ⟨rfl, by rw [hg]; exact B2.out⟩
/-- what Parse makes of bytes that are a message -/
theorem parse_ok {w : World} {A : Option Addr} {c n : Nat} {x : List UInt8} {m : Msg} (h : Rb w.heap.size w A c x) (hn : n = x.length) (hG : Gl w) (hs : x.length ≤ 1000000) (hE : parseM x = .ok m) :
    Calls Tryz.prog 47 #[.slice A n c] w fun e w' => Below w.heap.size w w' ∧ ∃ (hV : Value) (Ab : Option Addr) (cb : Nat), e = .returned (.tuple #[.agg #[.string ⟨m.meth.toArray⟩, .string ⟨m.path.toArray⟩, .int .i64 m.status, hV, .slice Ab m.body.length cb], .int .i64 0]) ∧ MsgV w' m hV Ab cb ∧ ∃ Ah ch, hV = .slice Ah m.heads.length ch := by
  subst hn
  have hp : m.path.length ≤ 1000000 := by
    obtain ⟨h1, h2, h3⟩ := parse_whole hE
    rcases (okM_split h3).1 with h | h
    · unfold isReq isPath at h
      simp only [Bool.and_eq_true, decide_eq_true_eq] at h
      omega
    · unfold isAns at h
      simp only [Bool.and_eq_true, beq_iff_eq] at h
      rw [h.2.1]
      show 0 ≤ _
      omega
  refine (parse_any h hG hs).mono ?_
  rintro e w' ⟨hb, hp2⟩
  rw [hE] at hp2
  obtain ⟨Ah, ch, Ab, cb, rfl, hsm, hO, hB⟩ := hp2
  refine ⟨hb, _, Ab, cb, rfl, ⟨hO.hs, hsm, hp, ?_⟩, Ah, ch, rfl⟩
  obtain ⟨A2, c2, e2, hr⟩ := hB.rb
  injection e2 with e3 e4 e5
  subst e3 e5
  exact hr
abbrev msg5 (m : Msg) (hV : Value) (Ab : Option Addr) (cb : Nat) : Array Value := #[.string ⟨m.meth.toArray⟩, .string ⟨m.path.toArray⟩, .int .i64 m.status, hV, .slice Ab m.body.length cb]
theorem msg_cs (w : World) (m : Msg) (hV : Value) (Ab : Option Addr) (cb : Nat) : Cs (w.alloc (.cells (msg5 m hV Ab cb) 25)) w.heap.size [.string ⟨m.meth.toArray⟩, .string ⟨m.path.toArray⟩, .int .i64 m.status, hV, .slice Ab m.body.length cb] := Cs.new w _ _
end Go.Proofs.YthniggdimfldhaaGreatDoor
