/- works: the chapter's examples hold. -/
import Derived.Test.YthniggdimfldhaaGreatDoorNx
namespace Go.Proofs.YthniggdimfldhaaGreatDoor
open Go Go.RowKit

theorem TxAt.new (w : World) (T : List (List UInt8)) (cs : Array Value) (h : cs = (T.map fun t => Value.string ⟨t.toArray⟩).toArray) : TxAt (w.alloc (.cells cs 9)) w.heap.size 0 T := fun i hi => by
  subst h
  rw [Nat.zero_add, World.cell?_alloc_at _ _ _ _ rfl]
  simp [hi]
theorem lines_new (w : World) (T : List (List UInt8)) (cs : Array Value) (n m : Nat) (g : Nat) (hg : w.heap.size = g) (h : cs = (T.map fun t => Value.string ⟨t.toArray⟩).toArray) (hn : n = T.length) (hm : (linesL T).length = m) (hl : m ≤ 1000000000) (hT : n ≤ 1000000) :
    Calls Tryz.prog 48 #[.slice (some ⟨g, 0, none⟩) n n] (w.alloc (.cells cs 9)) fun e w' => ∃ (A : Option Addr) (c : Nat), e = .returned (.slice A m c) ∧ RowG w' w.heap.size A c (linesL T) ∧ Below w.heap.size w w' := by
  subst hn hm hg
  refine (lines_any w.heap.size 0 T.length T _ (TxAt.new w T cs h) (by simp) hl hT).mono ?_
  rintro e w' ⟨A, c, he, hr, hb⟩
  exact ⟨A, c, he, hr.up (below_new w _).size, Below.and (below_new w _) hb⟩
def T1 : List (List UInt8) := [[71, 69, 84, 32, 47, 97, 32, 72, 84, 84, 80, 47, 49, 46, 49], [104, 111, 115, 116, 58, 32, 120], []]
def T2 : List (List UInt8) := [[80, 85, 84, 32, 47, 32, 72, 84, 84, 80, 47, 49, 46, 49], [72, 111, 115, 116, 58, 32, 120], [84, 114, 97, 110, 115, 102, 101, 114, 45, 69, 110, 99, 111, 100, 105, 110, 103, 58, 32, 67, 104, 117, 110, 107, 101, 100], [], [51], [97, 98, 99], [48], []]
def T3 : List (List UInt8) := [[72, 84, 84, 80, 47, 49, 46, 49, 32, 50, 48, 48], [67, 111, 110, 116, 101, 110, 116, 45, 76, 101, 110, 103, 116, 104, 58, 32, 50], []]
def T4 : List (List UInt8) := [[71, 69, 84, 32, 47, 32, 72, 84, 84, 80, 47, 49, 46, 49], [72, 111, 115, 116, 58, 32, 120], [67, 111, 110, 116, 101, 110, 116, 45, 76, 101, 110, 103, 116, 104, 58, 32, 49], [67, 111, 110, 116, 101, 110, 116, 45, 76, 101, 110, 103, 116, 104, 58, 32, 49], []]
def T5 : List (List UInt8) := [[71, 69, 84, 32, 47, 32, 72, 84, 84, 80, 47, 49, 46, 49], []]
def T6 : List (List UInt8) := [[71, 69, 84, 32, 47, 32, 72, 84, 84, 80, 47, 49, 46, 49], [72, 111, 115, 116, 58, 32, 120]]
def m1 : Msg := ⟨sGET, [47, 97], 0, [([104, 111, 115, 116], [120])], []⟩
def m2 : Msg := ⟨sPUT, [47], 0, [([72, 111, 115, 116], [120])], [97, 98, 99]⟩
theorem p1 : parseM (linesL T1) = .ok m1 := by kernel_rfl
theorem p2 : parseM (linesL T2) = .ok m2 := by kernel_rfl
theorem p3 : parseM (linesL T3 ++ [97, 98]) = .error 4 := by kernel_rfl
theorem p4 : parseM (linesL T4 ++ [97]) = .error 50 := by kernel_rfl
theorem p5 : parseM (linesL T5) = .error 2 := by kernel_rfl
theorem p6 : parseM (linesL T6) = .error 3 := by kernel_rfl
theorem parse_1 {w : World} {A : Option Addr} {c : Nat} (h : RowG w 0 A c (linesL T1)) (hG : Gl w) : Calls Tryz.prog 47 #[.slice A 28 c] w fun e w' => Below w.heap.size w w' ∧ ∃ (Ah : Option Addr) (ch : Nat) (Ab : Option Addr) (cb : Nat),
    e = .returned (.tuple #[.agg #[.string ⟨#[71, 69, 84]⟩, .string ⟨#[47, 97]⟩, .int .i64 0, .slice Ah 1 ch, .slice Ab 0 cb], .int .i64 0]) ∧ OwnH w' w.heap.size (.slice Ah 1 ch) [([104, 111, 115, 116], [120])] :=
  (parse_any h.rb hG (by show 28 ≤ _; omega)).mono fun e w' ⟨h1, h2⟩ => by
    rw [p1] at h2
    obtain ⟨Ah, ch, Ab, cb, he, _, hO, _⟩ := h2
    exact ⟨h1, Ah, ch, Ab, cb, he, hO⟩
theorem parse_2 {w : World} {A : Option Addr} {c : Nat} (h : RowG w 0 A c (linesL T2)) (hG : Gl w) : Calls Tryz.prog 47 #[.slice A 68 c] w fun e w' => Below w.heap.size w w' ∧ ∃ (Ah : Option Addr) (ch : Nat) (Ab : Option Addr) (cb : Nat),
    e = .returned (.tuple #[.agg #[.string ⟨#[80, 85, 84]⟩, .string ⟨#[47]⟩, .int .i64 0, .slice Ah 1 ch, .slice Ab 3 cb], .int .i64 0]) ∧ OwnB w' w.heap.size (.slice Ab 3 cb) [97, 98, 99] :=
  (parse_any h.rb hG (by show 68 ≤ _; omega)).mono fun e w' ⟨h1, h2⟩ => by
    rw [p2] at h2
    obtain ⟨Ah, ch, Ab, cb, he, _, _, hB⟩ := h2
    exact ⟨h1, Ah, ch, Ab, cb, he, hB⟩
theorem src_row (w : World) (z : List UInt8) (cs : Array Value) (h : cs = (z.map fun b => Value.int .u8 (b.toNat : Int)).toArray) : Src Tryz.prog 1 23 (.slice (some ⟨w.heap.size, 0, none⟩) z.length z.length) z.length (Lib.byteCells z) (w.alloc (.cells cs 5)) := by
  subst h
  refine src_rb (D := w.heap.size + 1) ⟨Nat.le_refl _, (fun e => (by cases e)), fun i hi => ⟨w.heap.size, 0, rfl, Nat.lt_succ_self _, ?_⟩⟩
  rw [Nat.zero_add, World.cell?_alloc_at _ _ _ _ rfl]
  simp [hi]
theorem OwnH.first {w : World} {base : Nat} {A : Option Addr} {c : Nat} {x : Hd} {l : List Hd} {n : Nat} (h : OwnH w base (.slice A n c) (x :: l)) : ∃ g, A = some ⟨g, 0, none⟩ ∧ g < w.heap.size ∧ w.cell? ⟨g, 0, none⟩ = some (.string ⟨x.1.toArray⟩) ∧ w.cell? ⟨g, 1, none⟩ = some (.string ⟨x.2.toArray⟩) := by
  rcases h.2 with ⟨e, h0⟩ | ⟨g, cap, cur, e, hb, hg, _⟩
  · simp at h0
  · injection e with e1 e2 e3
    have hc := fun j u hj => h.cells (g := g) (by rw [e1]; rfl) j u hj
    refine ⟨g, e1, (Array.getElem?_eq_some_iff.1 hg).1, ?_, ?_⟩
    · have := hc 0 (strV x.1) rfl
      rw [add_pl] at this
      exact this
    · have := hc 1 (strV x.2) rfl
      rw [add_pl] at this
      exact this
set_option maxRecDepth 100000 in
set_option maxHeartbeats 8000000 in
theorem works_any (w : World) (hG : Gl w) : Calls Tryz.prog 22 #[] w fun e w' => e = .returned (.bool true) ∧ Below w.heap.size w w' := by
  have HG := Lib.hid fun w' (h : Below w.heap.size w w') => hG.fresh h
  clear hG
  have L1 := Lib.hid fun w g hg => lines_new w T1 #[.string ⟨#[71, 69, 84, 32, 47, 97, 32, 72, 84, 84, 80, 47, 49, 46, 49]⟩, .string ⟨#[104, 111, 115, 116, 58, 32, 120]⟩, .string ⟨#[]⟩] 3 28 g hg rfl rfl rfl (by decide) (by decide)
  have L2 := Lib.hid fun w g hg => lines_new w T2 #[.string ⟨#[80, 85, 84, 32, 47, 32, 72, 84, 84, 80, 47, 49, 46, 49]⟩, .string ⟨#[72, 111, 115, 116, 58, 32, 120]⟩, .string ⟨#[84, 114, 97, 110, 115, 102, 101, 114, 45, 69, 110, 99, 111, 100, 105, 110, 103, 58, 32, 67, 104, 117, 110, 107, 101, 100]⟩, .string ⟨#[]⟩, .string ⟨#[51]⟩, .string ⟨#[97, 98, 99]⟩, .string ⟨#[48]⟩, .string ⟨#[]⟩] 8 68 g hg rfl rfl rfl (by decide) (by decide)
  have L3 := Lib.hid fun w g hg => lines_new w T3 #[.string ⟨#[72, 84, 84, 80, 47, 49, 46, 49, 32, 50, 48, 48]⟩, .string ⟨#[67, 111, 110, 116, 101, 110, 116, 45, 76, 101, 110, 103, 116, 104, 58, 32, 50]⟩, .string ⟨#[]⟩] 3 35 g hg rfl rfl rfl (by decide) (by decide)
  have L4 := Lib.hid fun w g hg => lines_new w T4 #[.string ⟨#[71, 69, 84, 32, 47, 32, 72, 84, 84, 80, 47, 49, 46, 49]⟩, .string ⟨#[72, 111, 115, 116, 58, 32, 120]⟩, .string ⟨#[67, 111, 110, 116, 101, 110, 116, 45, 76, 101, 110, 103, 116, 104, 58, 32, 49]⟩, .string ⟨#[67, 111, 110, 116, 101, 110, 116, 45, 76, 101, 110, 103, 116, 104, 58, 32, 49]⟩, .string ⟨#[]⟩] 5 65 g hg rfl rfl rfl (by decide) (by decide)
  have L5 := Lib.hid fun w g hg => lines_new w T5 #[.string ⟨#[71, 69, 84, 32, 47, 32, 72, 84, 84, 80, 47, 49, 46, 49]⟩, .string ⟨#[]⟩] 2 18 g hg rfl rfl rfl (by decide) (by decide)
  have L6 := Lib.hid fun w g hg => lines_new w T6 #[.string ⟨#[71, 69, 84, 32, 47, 32, 72, 84, 84, 80, 47, 49, 46, 49]⟩, .string ⟨#[72, 111, 115, 116, 58, 32, 120]⟩] 2 25 g hg rfl rfl rfl (by decide) (by decide)
  go_enter Tryz.func22, Tryz.ntmps22
  go_wp2_with fail
  go_at_call 48
  refine (L1.out _ _ rfl).mono ?_
  rintro e w1 ⟨A1, c1, rfl, hr1, hb1⟩
  have C1 := Lib.hid (parse_1 (hr1.up (Nat.zero_le _)) (HG.out w1 hb1))
  have B1 := Lib.hid hb1
  clear hr1 hb1 L1
  go_wp2_with fail
  go_at_call 47
  refine C1.out.mono ?_
  rintro e w2 ⟨hb2, Ah1, ch1, Ab1, cb1, rfl, hO1⟩
  have B2 := Lib.hid (Below.and (Below.and B1.out hb2) (below_new w2 (.cells #[.string ⟨#[71, 69, 84]⟩, .string ⟨#[47, 97]⟩, .int .i64 0, .slice Ah1 1 ch1, .slice Ab1 0 cb1] 25)))
  have HC2 : Hid (Cs (w2.alloc (.cells #[.string ⟨#[71, 69, 84]⟩, .string ⟨#[47, 97]⟩, .int .i64 0, .slice Ah1 1 ch1, .slice Ab1 0 cb1] 25)) w2.heap.size [.string ⟨#[71, 69, 84]⟩, .string ⟨#[47, 97]⟩, .int .i64 0, .slice Ah1 1 ch1, .slice Ab1 0 cb1]) := Cs.new w2 _ _
  obtain ⟨gh, rfl, hgh, _, hx⟩ := hO1.first
  have HX2 := Lib.hid (((below_new w2 (.cells #[.string ⟨#[71, 69, 84]⟩, .string ⟨#[47, 97]⟩, .int .i64 0, .slice (some ⟨gh, 0, none⟩) 1 ch1, .slice Ab1 0 cb1] 25)).cell (p := ⟨gh, 1, none⟩) hgh).trans hx)
  have HS3 : Hid ((w2.alloc (.cells #[.string ⟨#[71, 69, 84]⟩, .string ⟨#[47, 97]⟩, .int .i64 0, .slice (some ⟨gh, 0, none⟩) 1 ch1, .slice Ab1 0 cb1] 25)).heap.size = w2.heap.size + 1) := by show _ = _; simp
  have HG2 : Hid (gh < (w2.alloc (.cells #[.string ⟨#[71, 69, 84]⟩, .string ⟨#[47, 97]⟩, .int .i64 0, .slice (some ⟨gh, 0, none⟩) 1 ch1, .slice Ab1 0 cb1] 25)).heap.size) := by show _ < _; simp; omega
  clear C1 hb2 hO1 hx hgh
  go_wp2_with fail
  generalize w2.alloc (.cells #[.string ⟨#[71, 69, 84]⟩, .string ⟨#[47, 97]⟩, .int .i64 0, .slice (some ⟨gh, 0, none⟩) 1 ch1, .slice Ab1 0 cb1] 25) = w3 at *
  generalize w2.heap.size = g1 at *
  go_at_call 48
  refine (L2.out w3 _ HS3.out).mono ?_
  rintro e w4 ⟨A2, c2, rfl, hr2, hb4⟩
  have C2 := Lib.hid (parse_2 (hr2.up (Nat.zero_le _)) (HG.out w4 (Below.and B2.out hb4)))
  have B4 := Lib.hid hb4
  clear hr2 hb4 L2
  go_wp2_with fail
  go_at_call 47
  refine C2.out.mono ?_
  rintro e w5 ⟨hb5, Ah2, ch2, Ab2, cb2, rfl, hB2⟩
  have hb35 := Below.and (Below.and B4.out hb5) (below_new w5 (.cells #[.string ⟨#[80, 85, 84]⟩, .string ⟨#[47]⟩, .int .i64 0, .slice Ah2 1 ch2, .slice Ab2 3 cb2] 25))
  have B6 := Lib.hid (Below.and B2.out hb35)
  have HC6 := Lib.hid (HC2.out.keep hb35.size (hb35.block _ HC2.out.lt))
  have HD6 : Hid (Cs (w5.alloc (.cells #[.string ⟨#[80, 85, 84]⟩, .string ⟨#[47]⟩, .int .i64 0, .slice Ah2 1 ch2, .slice Ab2 3 cb2] 25)) w5.heap.size [.string ⟨#[80, 85, 84]⟩, .string ⟨#[47]⟩, .int .i64 0, .slice Ah2 1 ch2, .slice Ab2 3 cb2]) := Cs.new w5 _ _
  have x0 := HC6.out.c 0 (by simp)
  have x1 := HC6.out.c 1 (by simp)
  have x3 := HC6.out.c 3 (by simp)
  have x5 := (hb35.cell (p := ⟨gh, 1, none⟩) HG2.out).trans HX2.out
  have y3 := HD6.out.c 3 (by simp)
  have y4 := HD6.out.c 4 (by simp)
  have hcv := OwnB.conv (OwnB.below hB2 (below_new w5 (.cells #[.string ⟨#[80, 85, 84]⟩, .string ⟨#[47]⟩, .int .i64 0, .slice Ah2 1 ch2, .slice Ab2 3 cb2] 25)))
  have HS6 : Hid ((w5.alloc (.cells #[.string ⟨#[80, 85, 84]⟩, .string ⟨#[47]⟩, .int .i64 0, .slice Ah2 1 ch2, .slice Ab2 3 cb2] 25)).heap.size = w5.heap.size + 1) := by show _ = _; simp
  clear C2 hb5 hb35 hB2 HC2 HX2 B1 B2 B4 HC6 HD6 HG2 HS3
  go_wp2_with fail
  clear x0 x1 x3 x5 y3 y4 hcv
  generalize w5.alloc (.cells #[.string ⟨#[80, 85, 84]⟩, .string ⟨#[47]⟩, .int .i64 0, .slice Ah2 1 ch2, .slice Ab2 3 cb2] 25) = w6 at *
  generalize w5.heap.size = g5 at *
  go_at_call 48
  refine (L3.out w6 _ HS6.out).mono ?_
  rintro e w7 ⟨A3, c3, rfl, hr3, hb7⟩
  have B7 := Lib.hid (Below.and B6.out hb7)
  have hs7 := src_row w7 [97, 98] #[.int .u8 97, .int .u8 98] rfl
  have hr7 := (hr3.up B6.out.size).below (below_new w7 (.cells #[.int .u8 97, .int .u8 98] 5))
  have hw7 : w.heap.size ≤ (w7.alloc (.cells #[.int .u8 97, .int .u8 98] 5)).heap.size := Nat.le_trans B7.out.size (below_new _ _).size
  have B7a := Lib.hid (Below.and B7.out (below_new w7 (.cells #[.int .u8 97, .int .u8 98] 5)))
  have H7 := Lib.hid (And.intro hs7 (And.intro hr7 hw7))
  clear hr3 hb7 L3 HS6 B6 hs7 hr7 hw7
  go_wp2_with (at_builtin; refine wpList_pushG rfl (.tmp 61) (.tmp 62) 23 rfl (w7.alloc (.cells #[.int .u8 97, .int .u8 98] 5)) w.heap.size A3 c3 35 2 (linesL T3) [97, 98] (.slice (some ⟨w7.heap.size, 0, none⟩) 2 2) rfl rfl rfl rfl H7.out.2.1 H7.out.1 H7.out.2.2 (by decide) ?_; intro A4 c4 w8 hr8 hb8 _; have B8 := Lib.hid (B7a.out.trans hb8); have R8 := Lib.hid hr8; clear hr8 hb8)
  go_at_call 49
  refine (wrong_yes R8.out.rb (by rfl) (HG.out w8 B8.out) (by decide) p3).mono ?_
  rintro e w9 ⟨rfl, hb9⟩
  have B9 := Lib.hid (Below.and B8.out hb9)
  clear hb9 R8 B8 B7a B7 H7
  go_wp2_with fail
  go_at_call 48
  refine (L4.out w9 _ rfl).mono ?_
  rintro e w10 ⟨A5, c5, rfl, hr10, hb10⟩
  have B10 := Lib.hid (Below.and B9.out hb10)
  have H10 := Lib.hid (And.intro (src_row w10 [97] #[.int .u8 97] rfl) (And.intro ((hr10.up B9.out.size).below (below_new w10 (.cells #[.int .u8 97] 5))) (Nat.le_trans B10.out.size (below_new w10 (.cells #[.int .u8 97] 5)).size)))
  have B10a := Lib.hid (Below.and B10.out (below_new w10 (.cells #[.int .u8 97] 5)))
  clear hr10 hb10 L4 B9
  go_wp2_with (at_builtin; refine wpList_pushGG (by rfl) (.tmp 67) (.tmp 68) 23 rfl (w10.alloc (.cells #[.int .u8 97] 5)) w.heap.size A5 c5 65 1 (linesL T4) [97] (.slice (some ⟨w10.heap.size, 0, none⟩) 1 1) rfl rfl rfl rfl H10.out.2.1 H10.out.1 H10.out.2.2 (by decide) ?_; intro A6 c6 w11 hr11 hb11 _; have B11 := Lib.hid (B10a.out.trans hb11); have R11 := Lib.hid hr11; clear hr11 hb11)
  go_at_call 49
  refine (wrong_yes R11.out.rb (by rfl) (HG.out w11 B11.out) (by decide) p4).mono ?_
  rintro e w12 ⟨rfl, hb12⟩
  have B12 := Lib.hid (Below.and B11.out hb12)
  clear hb12 R11 B11 B10a B10 H10
  go_wp2_with fail
  go_at_call 48
  refine (L5.out w12 _ rfl).mono ?_
  rintro e w13 ⟨A7, c7, rfl, hr13, hb13⟩
  have B13 := Lib.hid (Below.and B12.out hb13)
  have R13 := Lib.hid hr13
  clear hr13 hb13 L5
  go_wp2_with fail
  go_at_call 49
  refine (wrong_yes R13.out.rb (by rfl) (HG.out w13 B13.out) (by decide) p5).mono ?_
  rintro e w14 ⟨rfl, hb14⟩
  have B14 := Lib.hid (Below.and B13.out hb14)
  clear hb14 R13 B13 B12
  go_wp2_with fail
  go_at_call 48
  refine (L6.out w14 _ rfl).mono ?_
  rintro e w15 ⟨A8, c8, rfl, hr15, hb15⟩
  have B15 := Lib.hid (Below.and B14.out hb15)
  have R15 := Lib.hid hr15
  clear hr15 hb15 L6
  go_wp2_with fail
  go_at_call 49
  refine (wrong_yes R15.out.rb (by rfl) (HG.out w15 B15.out) (by decide) p6).mono ?_
  rintro e w16 ⟨rfl, hb16⟩
  have B16 := Lib.hid (Below.and B15.out hb16)
  clear hb16 R15 B15 B14
  go_wp2_with fail
  go_ret
  exact ⟨rfl, B16.out⟩
end Go.Proofs.YthniggdimfldhaaGreatDoor
