/- Copies of lists of headers and of bytes; answers. -/
import Derived.Test.YthniggdimfldhaaGreatDoorNzs
import Derived.Test.YthniggdimfldhaaGreatDoorHj
import Derived.Test.YthniggdimfldhaaGreatDoorHf
import Derived.Test.YthniggdimfldhaaGreatDoorNzq
namespace Go.Proofs.YthniggdimfldhaaGreatDoor
open Go Go.RowKit

set_option maxRecDepth 100000 in
/-- the chapter's copy of a list of headers, of any length that memory bears -/
theorem copyH_any (v : Value) (l : List Hd) (w : World) (hv : Hs w v l) (hs : l.length * 32 ≤ 140737488355328) : Calls Tryz.prog 45 #[v] w fun e w' =>
    ∃ u, e = .returned u ∧ OwnH w' w.heap.size u l ∧ Below w.heap.size w w' := by
  obtain ⟨A, c, rfl, hc, hnil, hr⟩ := hv
  obtain ⟨i0, hi, hz0, hz1, hz2⟩ := info_parts infoH
  cases A with
  | none =>
    obtain rfl : c = 0 := hnil rfl
    obtain rfl : l = [] := List.eq_nil_of_length_eq_zero (by omega)
    go_enter Tryz.func45, Tryz.ntmps45
    go_wp2_with (at_builtin; refine wpList_append_own_none rfl (.tmp 4) (.tmp 5) 22 rfl w.heap.size 41 i0 2 Tryz.underlying22 hi _ 0 [] rfl (OwnH.nil w w.heap.size) rfl ?_)
    go_ret
    exact ⟨_, rfl, OwnH.nil _ _, Below.refl _ _⟩
  | some ad =>
    have hnews : ∀ j u, (hv l)[j]? = some u → w.cell? (ad.add j) = some u := fun j u hj => by
      obtain ⟨hlt, e⟩ := List.getElem?_eq_some_iff.1 hj
      obtain ⟨b, off, e1, _, hcell⟩ := hr j hlt
      injection e1 with e1
      subst e1
      rw [add_pl, hcell, e]
    have HR := Lib.hid hnews
    clear hnews hr
    go_enter Tryz.func45, Tryz.ntmps45
    go_wp2_with (at_builtin; refine wpList_append_own _ rfl (.tmp 4) (.tmp 5) 22 rfl w.heap.size 41 i0 (.agg #[.string ⟨#[]⟩, .string ⟨#[]⟩]) 2 32 Tryz.underlying22 hi hz0 hz1 hz2 rfl (by decide) _ 0 [] rfl (OwnH.nil w w.heap.size) ad l.length c (hv l) rfl (hv_len l) HR.out (hv_one l) (by unfold maxLen; omega) (by omega) (Nat.le_refl _) ?_; intro v3 w3 hown3 hg3 _)
    go_ret
    refine ⟨_, rfl, ?_, (Below.refl _ _).grown hg3 (Nat.le_refl _) (fun k hk => by cases hk)⟩
    unfold OwnH
    simpa using hown3
/-- bytes.Clone -/
theorem bytesClone_any {w : World} {A : Option Addr} {c : Nat} {x : List UInt8} (h : Rb w.heap.size w A c x) (hx : x.length ≤ 140737488355328) :
    Calls Tryz.prog 44 #[.slice A x.length c] w (MadeP x w) := by
  cases A with
  | none =>
    obtain rfl : c = 0 := h.nil rfl
    obtain rfl : x = [] := List.eq_nil_of_length_eq_zero (by have := h.cap; simpa using this)
    refine (Tryz.bytes_Clone_nil 0 0 w).mono ?_
    rintro e w' ⟨rfl, rfl⟩
    exact ⟨none, 0, rfl, RowG.nil _ _, Below.refl _ _⟩
  | some a =>
    refine (Tryz.bytes_Clone_at a x.length c (ints x) w (ints_len x) hx (fun i hi => ?_)).mono ?_
    · obtain ⟨b, off, e, _, hc⟩ := h.rd i hi
      obtain rfl := Option.some.inj e
      rw [add_pl, hc, ints_at x i hi]
    · rintro e w' ⟨v', rfl, ho, _, hb⟩
      have ho2 : OwnB w' w.heap.size v' x := by
        unfold OwnB
        have e1 : (ints x).map (Value.int .u8) = Lib.byteCells x := by unfold ints Lib.byteCells; rw [List.map_map]; rfl
        rw [e1] at ho
        exact ho
      obtain ⟨A', c', rfl, hr⟩ := ho2.rowG
      exact ⟨A', c', rfl, hr, hb⟩
theorem RowG.msgset {w : World} {base g : Nat} {A : Option Addr} {c : Nat} {l : List UInt8} (h : RowG w base A c l) (hne : ∀ q, A = some ⟨q, 0, none⟩ → q ≠ g) (v0 v1 v2 v3 v4 : Value) :
    RowG (((((w.setCell ⟨g, 0, none⟩ v0).setCell ⟨g, 1, none⟩ v1).setCell ⟨g, 2, none⟩ v2).setCell ⟨g, 3, none⟩ v3).setCell ⟨g, 4, none⟩ v4) base A c l :=
  h.keep (by simp [World.setCell]) fun q e => by
    have hn := hne q e
    exact (((((Below.heap_setCell _ _ _ _ hn).trans (Below.heap_setCell _ _ _ _ hn)).trans (Below.heap_setCell _ _ _ _ hn)).trans (Below.heap_setCell _ _ _ _ hn)).trans (Below.heap_setCell _ _ _ _ hn))
/-- the status of an answer -/
def stA (n : Int) : Int := if isSt n = true then n else 500
def AnsP (n : Int) (x : List UInt8) (w : World) (e : Ending) (w' : World) : Prop := ∃ (A : Option Addr) (c : Nat),
  e = .returned (.agg #[.string ⟨#[]⟩, .string ⟨#[]⟩, .int .i64 (stA n), .slice none 0 0, .slice A x.length c]) ∧ RowG w' w.heap.size A c x ∧ Below w.heap.size w w'
set_option maxRecDepth 100000 in
set_option maxHeartbeats 400000 in
theorem answer_any (n : Int) {A : Option Addr} {c : Nat} {x : List UInt8} {w : World} (h : Rb w.heap.size w A c x) (hx : x.length ≤ 140737488355328) :
    Calls Tryz.prog 19 #[.int .i64 n, .slice A x.length c] w (AnsP n x w) := by
  have hb := below_new w (.cells zero5 25)
  have C1 := Lib.hid (isStatus_any n)
  have C2 := Lib.hid (bytesClone_any ((h.keep fun k hk => hb.block k hk).mono hb.size) hx)
  have CS := Lib.hid (Cs.new w [.string ⟨#[]⟩, .string ⟨#[]⟩, .int .i64 0, .slice none 0 0, .slice none 0 0] 25)
  have B1 := Lib.hid hb
  have HSt : Hid (∀ z, isSt n = z → stA n = if z = true then n else 500) := fun z h => by unfold stA; rw [h]
  clear hb h hx
  unfold AnsP
  generalize stA n = sn at *
  cases hz : isSt n with
  | true =>
    have HE := HSt.out _ hz
    rw [if_pos rfl] at HE
    have HE := Lib.hid HE
    rw [hz] at C1
    clear HSt hz
    go_enter Tryz.func19, Tryz.ntmps19
    go_wp2_with fail
    generalize w.alloc (.cells zero5 25) = w1 at *
    go_at_call 46
    refine (C1.out _).mono ?_
    rintro e w' ⟨rfl, rfl⟩
    go_wp2_with fail
    go_at_call 44
    refine C2.out.mono ?_
    rintro e w3 ⟨A3, c3, rfl, hr3, hb3⟩
    have CS3 := Lib.hid (CS.out.below hb3)
    have B3 := Lib.hid (Below.and B1.out hb3)
    have R3 := Lib.hid hr3
    have HLT := Lib.hid CS.out.lt
    clear hr3 hb3 C2
    have d0 := CS3.out.c 0 (by simp)
    have d1 := CS3.out.c 1 (by simp)
    have d2 := CS3.out.c 2 (by simp)
    have d3 := CS3.out.c 3 (by simp)
    have d4 := CS3.out.c 4 (by simp)
    have f0 := CS3.out.free 0 (by simp)
    have f1 := CS3.out.free 1 (by simp)
    have f2 := CS3.out.free 2 (by simp)
    have f3 := CS3.out.free 3 (by simp)
    have f4 := CS3.out.free 4 (by simp)
    go_wp2_with fail
    refine bodyPost_ret (results_msg1 rfl _ _ w.heap.size _ _ _ _ _ rfl (msg_set CS3.out _ _ _ _ _)) rfl ?_
    refine ⟨A3, c3, by rw [HE.out], (R3.out.msgset (fun q e => by have := (R3.out.lt e).1; have := HLT.out; omega) _ _ _ _ _).up (Nat.le_of_lt HLT.out), msg_set_below B3.out (Nat.le_refl _) _ _ _ _ _⟩
  | false =>
    have HE := HSt.out _ hz
    rw [if_neg (by decide)] at HE
    have HE := Lib.hid HE
    rw [hz] at C1
    clear HSt hz
    go_enter Tryz.func19, Tryz.ntmps19
    go_wp2_with fail
    generalize w.alloc (.cells zero5 25) = w1 at *
    go_at_call 46
    refine (C1.out _).mono ?_
    rintro e w' ⟨rfl, rfl⟩
    go_wp2_with fail
    go_at_call 44
    refine C2.out.mono ?_
    rintro e w3 ⟨A3, c3, rfl, hr3, hb3⟩
    have CS3 := Lib.hid (CS.out.below hb3)
    have B3 := Lib.hid (Below.and B1.out hb3)
    have R3 := Lib.hid hr3
    have HLT := Lib.hid CS.out.lt
    clear hr3 hb3 C2
    have d0 := CS3.out.c 0 (by simp)
    have d1 := CS3.out.c 1 (by simp)
    have d2 := CS3.out.c 2 (by simp)
    have d3 := CS3.out.c 3 (by simp)
    have d4 := CS3.out.c 4 (by simp)
    have f0 := CS3.out.free 0 (by simp)
    have f1 := CS3.out.free 1 (by simp)
    have f2 := CS3.out.free 2 (by simp)
    have f3 := CS3.out.free 3 (by simp)
    have f4 := CS3.out.free 4 (by simp)
    go_wp2_with fail
    refine bodyPost_ret (results_msg1 rfl _ _ w.heap.size _ _ _ _ _ rfl (msg_set CS3.out _ _ _ _ _)) rfl ?_
    refine ⟨A3, c3, by rw [HE.out], (R3.out.msgset (fun q e => by have := (R3.out.lt e).1; have := HLT.out; omega) _ _ _ _ _).up (Nat.le_of_lt HLT.out), msg_set_below B3.out (Nat.le_refl _) _ _ _ _ _⟩
set_option maxRecDepth 100000 in
set_option maxHeartbeats 400000 in
theorem answer_ref (n : Int) {A : Option Addr} {c : Nat} {x : List UInt8} {w : World} (h : Rb w.heap.size w A c x) (hx : x.length ≤ 140737488355328) :
    Calls Tryz.prog 20 #[.int .i64 n, .slice A x.length c] w (AnsP n x w) := by
  have hb := below_new w (.cells zero5 25)
  have C1 := Lib.hid (isStatus_ref n)
  have C2 := Lib.hid (copyB_any ((h.keep fun k hk => hb.block k hk).mono hb.size) rfl hx)
  have CS := Lib.hid (Cs.new w [.string ⟨#[]⟩, .string ⟨#[]⟩, .int .i64 0, .slice none 0 0, .slice none 0 0] 25)
  have B1 := Lib.hid hb
  have HSt : Hid (∀ z, isSt n = z → stA n = if z = true then n else 500) := fun z h => by unfold stA; rw [h]
  clear hb h hx
  unfold AnsP
  generalize stA n = sn at *
  cases hz : isSt n with
  | true =>
    have HE := HSt.out _ hz
    rw [if_pos rfl] at HE
    have HE := Lib.hid HE
    rw [hz] at C1
    clear HSt hz
    go_enter Tryz.func20, Tryz.ntmps20
    go_wp2_with fail
    generalize w.alloc (.cells zero5 25) = w1 at *
    go_at_call 35
    refine (C1.out _).mono ?_
    rintro e w' ⟨rfl, rfl⟩
    go_wp2_with fail
    go_at_call 18
    refine C2.out.mono ?_
    rintro e w3 ⟨A3, c3, rfl, hr3, hb3⟩
    have CS3 := Lib.hid (CS.out.below hb3)
    have B3 := Lib.hid (Below.and B1.out hb3)
    have R3 := Lib.hid hr3
    have HLT := Lib.hid CS.out.lt
    clear hr3 hb3 C2
    have d0 := CS3.out.c 0 (by simp)
    have d1 := CS3.out.c 1 (by simp)
    have d2 := CS3.out.c 2 (by simp)
    have d3 := CS3.out.c 3 (by simp)
    have d4 := CS3.out.c 4 (by simp)
    have f0 := CS3.out.free 0 (by simp)
    have f1 := CS3.out.free 1 (by simp)
    have f2 := CS3.out.free 2 (by simp)
    have f3 := CS3.out.free 3 (by simp)
    have f4 := CS3.out.free 4 (by simp)
    go_wp2_with fail
    refine bodyPost_ret (results_msg1 rfl _ _ w.heap.size _ _ _ _ _ rfl (msg_set CS3.out _ _ _ _ _)) rfl ?_
    refine ⟨A3, c3, by rw [HE.out], (R3.out.msgset (fun q e => by have := (R3.out.lt e).1; have := HLT.out; omega) _ _ _ _ _).up (Nat.le_of_lt HLT.out), msg_set_below B3.out (Nat.le_refl _) _ _ _ _ _⟩
  | false =>
    have HE := HSt.out _ hz
    rw [if_neg (by decide)] at HE
    have HE := Lib.hid HE
    rw [hz] at C1
    clear HSt hz
    go_enter Tryz.func20, Tryz.ntmps20
    go_wp2_with fail
    generalize w.alloc (.cells zero5 25) = w1 at *
    go_at_call 35
    refine (C1.out _).mono ?_
    rintro e w' ⟨rfl, rfl⟩
    go_wp2_with fail
    go_at_call 18
    refine C2.out.mono ?_
    rintro e w3 ⟨A3, c3, rfl, hr3, hb3⟩
    have CS3 := Lib.hid (CS.out.below hb3)
    have B3 := Lib.hid (Below.and B1.out hb3)
    have R3 := Lib.hid hr3
    have HLT := Lib.hid CS.out.lt
    clear hr3 hb3 C2
    have d0 := CS3.out.c 0 (by simp)
    have d1 := CS3.out.c 1 (by simp)
    have d2 := CS3.out.c 2 (by simp)
    have d3 := CS3.out.c 3 (by simp)
    have d4 := CS3.out.c 4 (by simp)
    have f0 := CS3.out.free 0 (by simp)
    have f1 := CS3.out.free 1 (by simp)
    have f2 := CS3.out.free 2 (by simp)
    have f3 := CS3.out.free 3 (by simp)
    have f4 := CS3.out.free 4 (by simp)
    go_wp2_with fail
    refine bodyPost_ret (results_msg1 rfl _ _ w.heap.size _ _ _ _ _ rfl (msg_set CS3.out _ _ _ _ _)) rfl ?_
    refine ⟨A3, c3, by rw [HE.out], (R3.out.msgset (fun q e => by have := (R3.out.lt e).1; have := HLT.out; omega) _ _ _ _ _).up (Nat.le_of_lt HLT.out), msg_set_below B3.out (Nat.le_refl _) _ _ _ _ _⟩
end Go.Proofs.YthniggdimfldhaaGreatDoor
