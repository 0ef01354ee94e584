/- The chapter's examples: fails, is. -/
import Derived.Test.YtajkbkllgbalkaaUs
namespace Go.Proofs.Ytajkbkllgbalkaa
open Go Go.RowKit

theorem parse_small (b : Bs) : Small (parseP b).1 := by
  unfold parseP endP
  split
  · exact ⟨Nat.zero_le _, (fun s h => by cases h), Nat.zero_le _⟩
  · split
    · exact small_read b
    · exact ⟨Nat.zero_le _, (fun s h => by cases h), Nat.zero_le _⟩
theorem Rb.below {w w' : World} {A : Option Addr} {c : Nat} {x : List UInt8} (h : Rb w.heap.size w A c x) (hb : Below w.heap.size w w') : Rb w'.heap.size w' A c x := (h.keep fun k hk => hb.block k hk).mono hb.size
theorem below_then {a b c : World} (h : Below a.heap.size a b) (k : Below b.heap.size b c) : Below a.heap.size a c := h.trans (k.mono h.size)
set_option maxRecDepth 100000 in
theorem fails_yes {w : World} {A : Option Addr} {n c : Nat} {b : Bs} {e : Int} (hb : Rb w.heap.size w A c b) (hn : n = b.length) (hl : b.length ≤ 1000000) (h : parseP b = (zeroP, e)) :
    Calls Try.prog 30 #[.int .i64 e, .slice A n c] w (TellsP true w) := by
  subst hn
  have CP := Lib.hid (parse_prog hb rfl (by omega))
  obtain ⟨q, hq⟩ : ∃ q : Psh, q = zeroP := ⟨_, rfl⟩
  rw [h, ← hq] at CP
  have CS := Lib.hid fun (w' : World) (A' : Option Addr) (n' c' : Nat) (h' : PsIn w'.heap.size w' q A' n' c') => same_any h' (zero_in w'.heap.size w') (Nat.le_refl _)
  rw [show sameB q zeroP = true by rw [hq]; exact sameB_refl _] at CS
  have HSM : Hid (Small q) := Lib.hid (by rw [hq]; exact ⟨Nat.zero_le _, (fun s h => by cases h), Nat.zero_le _⟩)
  clear hq
  have qe : (e == e) = true := by simp
  clear hb h
  unfold ParP at CP
  unfold TellsP at *
  go_enter Try.func30, Try.ntmps30
  go_wp2_with (first
    | (go_at_call 23; refine CP.out.mono ?_; rintro E w1 ⟨A1, n1, c1, rfl, ho1, hb1⟩; have P1 := Lib.hid (pIn ho1 HSM.out); have B1 := Lib.hid hb1; clear ho1 hb1)
    | (refine wpList_store_row rfl 24 (.tmp 5) (.tmp 10) rfl w1.heap.size (pshA q A1 n1 c1) rfl rfl 24 _ (heap_alloc_new w1 _) pshInfo rfl (pshA_one _ _ _ _) ?_; rw [World.setRow_alloc_new]; have BA := Lib.hid (below_new w1 (.cells (pshA q A1 n1 c1) 24)); have XA := Lib.hid (box_new w1 24 (pshA q A1 n1 c1)); have CS1 := Lib.hid (CS.out _ A1 n1 c1 (P1.out.below BA.out)))
    | (refine wpList_load_rowG rfl 24 (.tmp 5) rfl w1.heap.size rfl 24 _ (0, 0) _ XA.out Try.underlying24 rfl pshInfo ?_)
    | (go_at_call 18; refine CS1.out.mono ?_; rintro E w3 ⟨rfl, hb3⟩; have B3 := Lib.hid (below_then (below_then B1.out BA.out) hb3); clear hb3))
  go_ret
  exact ⟨rfl, B3.out⟩
set_option maxRecDepth 100000 in
theorem is_yes {w : World} {p : Psh} {B A : Option Addr} {n d m c : Nat} {b : Bs} (hp : PsIn w.heap.size w p B n d) (hb : Rb w.heap.size w A c b) (hm : m = b.length) (hl : b.length ≤ 1000000) (h0 : checkP p = true) (h1 : bytesP p = b) (h2 : parseP b = (p, 0)) :
    Calls Try.prog 53 #[.agg (pshA p B n d), .slice A m c] w (TellsP true w) := by
  have hZ := below_new w (.cells (pshA p B n d) 24)
  have HX := Lib.hid (box_new w 24 (pshA p B n d))
  have HB := Lib.hid hZ
  have CB := Lib.hid (bytes_prog (hp.below hZ))
  have CP := Lib.hid fun (w' : World) (h : Rb w'.heap.size w' A c b) => parse_prog h hm (by omega)
  rw [h2] at CP
  have hob : outB p = b := by unfold outB; rw [h0, if_pos rfl, h1]
  have hsm : Small p := by have := parse_small b; rw [h2] at this; exact this
  have HSM := Lib.hid hsm
  unfold BytP at CB
  rw [hob, h0, show errI true = 0 from rfl] at CB
  have HPI := Lib.hid (hp.below hZ)
  have HRB := Lib.hid (hb.below hZ)
  unfold ParP at CP
  subst hm
  have CE := Lib.hid fun (w' : World) (A1 : Option Addr) (c1 : Nat) (h1 : Rb w'.heap.size w' A1 c1 b) (h2 : Rb w'.heap.size w' A c b) => eqBytes_rb h1 h2
  have CS := Lib.hid fun (w' : World) (A' : Option Addr) (n' c' : Nat) (h1 : PsIn w'.heap.size w' p B n d) (h' : PsIn w'.heap.size w' p A' n' c') => same_any h1 h' (Nat.le_refl _)
  rw [sameB_refl] at CS
  rw [show (b == b) = true by simp] at CE
  clear hp hb h0 h1 h2 hob hsm hZ
  unfold TellsP at *
  go_enter Try.func53, Try.ntmps53
  go_upto_region 1 with fail
  generalize w.alloc (.cells (pshA p B n d) 24) = w2 at *
  go_wp2_with (first
    | (refine wpList_load_row rfl 24 (.tmp 2) rfl w.heap.size rfl 24 _ (0, 0) _ HX.out Try.underlying24 rfl pshInfo ?_)
    | (go_at_call 12; refine CB.out.mono ?_; rintro E w3 ⟨A3, c3, rfl, hr3, hb3⟩; have R3 := Lib.hid hr3.rb; have B3 := Lib.hid (below_then HB.out hb3); have X3 := Lib.hid (HX.out.below hb3); have P3 := Lib.hid (HPI.out.below hb3); have RB3 := Lib.hid (HRB.out.below hb3); have CP3 := Lib.hid (CP.out w3 RB3.out); clear hr3 hb3)
    | (go_at_call 23; refine CP3.out.mono ?_; rintro E w1 ⟨A1, n1, c1, rfl, ho1, hb1⟩; have P1 := Lib.hid (pIn ho1 HSM.out); have B1 := Lib.hid (below_then B3.out hb1); have X1 := Lib.hid (X3.out.below hb1); have PP1 := Lib.hid (P3.out.below hb1); have R1 := Lib.hid (R3.out.below hb1); have RB1 := Lib.hid (RB3.out.below hb1); clear ho1 hb1)
    | (refine wpList_store_row rfl 24 (.tmp 7) (.tmp 17) rfl w1.heap.size (pshA p A1 n1 c1) rfl rfl 24 _ (heap_alloc_new w1 _) pshInfo rfl (pshA_one _ _ _ _) ?_; rw [World.setRow_alloc_new]; have BA := below_new w1 (.cells (pshA p A1 n1 c1) 24); have XA := Lib.hid (box_new w1 24 (pshA p A1 n1 c1)); have XB := Lib.hid (X1.out.below BA); have B4 := Lib.hid (below_then B1.out BA); have CS1 := Lib.hid (CS.out _ A1 n1 c1 (PP1.out.below BA) (P1.out.below BA)); have CE1 := Lib.hid (CE.out _ A3 c3 (R1.out.below BA) (RB1.out.below BA)); clear BA)
    | (go_at_call 17; refine CE1.out.mono ?_; rintro E w5 ⟨rfl, rfl⟩)
    | (refine wpList_load_rowG rfl 24 (.tmp 2) rfl w.heap.size rfl 24 _ (0, 0) _ XB.out Try.underlying24 rfl pshInfo ?_)
    | (refine wpList_load_rowG rfl 24 (.tmp 7) rfl w1.heap.size rfl 24 _ (0, 0) _ XA.out Try.underlying24 rfl pshInfo ?_)
    | (go_at_call 18; refine CS1.out.mono ?_; rintro E w6 ⟨rfl, hb6⟩; have B6 := Lib.hid (below_then B4.out hb6); clear hb6))
  go_ret
  exact ⟨rfl, B6.out⟩
end Go.Proofs.Ytajkbkllgbalkaa
