/- The program's writer: record, Write. -/
import Derived.Test.YtiakbmllpnabnaaGreatDoorKi
namespace Go.Proofs.YtiakbmllpnabnaaGreatDoor
open Go Go.RowKit

def recG (g : Grt) : List UInt8 := 22 :: 3 :: UInt8.ofNat g.minor.toNat :: fillB (msgG g) 2
theorem write_rec {g : Grt} : writeG g = if okG g then some (recG g) else none := rfl
theorem safe_ne {b2 : Nat} {A : Option Addr} {w : World} {F : Option Addr} {fc : Nat} {z : List UInt8} (hz : RowG w b2 F fc z) (hA : ∀ q, F = some ⟨q, 0, none⟩ → A ≠ some ⟨q, 0, none⟩) : Safe A w F fc z := fun _ hs hk =>
  (hz.keep hs fun g e => hk g (hz.lt e).2 (hA g e)).rb
theorem rowG_three (w : World) (base : Nat) (n1 n2 n3 : Int) (y1 y2 y3 : UInt8) (h1 : n1 = y1.toNat) (h2 : n2 = y2.toNat) (h3 : n3 = y3.toNat) (hb : base ≤ w.heap.size) : RowG (w.alloc (.cells #[.int .u8 n1, .int .u8 n2, .int .u8 n3] 5)) base (some ⟨w.heap.size, 0, none⟩) 3 [y1, y2, y3] := by
  subst h1 h2 h3
  refine ⟨Nat.le_refl _, by decide, .inr ⟨w.heap.size, rfl, hb, by simp, fun j hj => ?_, fun j hj => ?_⟩⟩
  · have : j = 0 ∨ j = 1 ∨ j = 2 := by omega
    constructor
    · rw [World.cell?_alloc_at _ _ _ _ rfl]; rcases this with rfl | rfl | rfl <;> rfl
    · unfold World.frozen?
      rw [show (w.alloc (.cells #[.int .u8 (y1.toNat : Int), .int .u8 (y2.toNat : Int), .int .u8 (y3.toNat : Int)] 5)).heap[w.heap.size]? = some (.cells #[.int .u8 (y1.toNat : Int), .int .u8 (y2.toNat : Int), .int .u8 (y3.toNat : Int)] 5) from heap_alloc_new w _]
      rfl
  · have hj' : j = 0 ∨ j = 1 ∨ j = 2 := by simp at hj; omega
    rw [World.cell?_alloc_at _ _ _ _ rfl]; rcases hj' with rfl | rfl | rfl <;> rfl
set_option maxRecDepth 100000 in
set_option maxHeartbeats 1000000 in
theorem record_prog {w : World} {g : Grt} {a : Adr} (h : GrV w.heap.size w g a) (hok : okG g = true) : Calls Tryz.prog 41 #[.agg (grtA g a)] w (MadeP (recG g) w) := by
  have hm : mayG g = true ∧ (msgG g).length ≤ 16384 := by
    have := hok
    unfold okG at this
    rwa [Bool.and_eq_true, decide_eq_true_iff] at this
  obtain ⟨⟨m0, m4⟩, _⟩ := mayG_iff hm.1
  have hml := hm.2
  rw [msgG_len] at hml
  have hW0 : (w.alloc (.cells (grtA g a) 28)).heap.size = w.heap.size + 1 := by simp
  have hB0 := below_new w (.cells (grtA g a) 28)
  have HK : Hid (∀ wx, Below (w.heap.size + 1) (w.alloc (.cells (grtA g a) 28)) wx → ∀ j, wx.cell? ⟨w.heap.size, j, none⟩ = (grtA g a)[j]?) := Lib.hid fun wx hb => box_cell w wx _ _ (by rw [hW0]; exact hb)
  have HGI := Lib.hid (infoGA g a)
  have HGB : Hid (((w.alloc (.cells (grtA g a) 28)).alloc (.cells #[.int .u8 1] 5)).heap[w.heap.size]? = some (.cells (grtA g a) 28)) := Lib.hid ((heap_alloc_old _ _ (by rw [hW0]; omega)).trans (heap_alloc_new w _))
  have R1 := rowG_one (w.alloc (.cells (grtA g a) 28)) (w.heap.size + 1) 1 1 rfl (by rw [hW0]; exact Nat.le_refl _)
  have B1 := (Below.refl (w.heap.size + 1) (w.alloc (.cells (grtA g a) 28))).alloc (by rw [hW0]; exact Nat.le_refl _) (.cells #[.int .u8 1] 5)
  have hw1s : ((w.alloc (.cells (grtA g a) 28)).alloc (.cells #[.int .u8 1] 5)).heap.size = w.heap.size + 2 := by simp
  rw [hW0] at R1
  have CC : Hid (Calls Tryz.prog 63 #[.agg (grtA g a)] ((w.alloc (.cells (grtA g a) 28)).alloc (.cells #[.int .u8 1] 5)) (MadeP (bodyG g) ((w.alloc (.cells (grtA g a) 28)).alloc (.cells #[.int .u8 1] 5)))) :=
    Lib.hid (contents_prog (h.below (hB0.trans (B1.mono (Nat.le_succ _)))) hok)
  have HB0 := Lib.hid hB0
  have HR1 := Lib.hid R1
  have HB1 := Lib.hid B1
  have HML : Hid ((bodyG g).length ≤ 16380 ∧ (1 :: fillB (bodyG g) 3).length = (bodyG g).length + 4) := Lib.hid ⟨by omega, by unfold fillB; rw [List.length_cons, List.length_append, rowB_len]; omega⟩
  have HRC : Hid (recG g = 22 :: 3 :: UInt8.ofNat g.minor.toNat :: fillB (1 :: fillB (bodyG g) 3) 2) := Lib.hid rfl
  clear h hok hm hml hB0 R1 B1
  unfold MadeP at *
  obtain ⟨mi, rnd, ses, su, me, ho, pos, ex⟩ := g
  obtain ⟨a1, k1, a2, k2, a3, k3, a4, k4⟩ := a
  dsimp only at *
  generalize recG ⟨mi, rnd, ses, su, me, ho, pos, ex⟩ = REC at *
  generalize bodyG ⟨mi, rnd, ses, su, me, ho, pos, ex⟩ = BODY at *
  go_enter Tryz.func41, Tryz.ntmps41
  go_wp2_with (refine wpList_load_row rfl 28 (.tmp 1) rfl w.heap.size rfl 28 _ (0, 0) _ HGB.out Tryz.underlying28 rfl HGI.out ?_)
  refine CC.out.mono ?_
  rintro e w2 ⟨A2, c2, rfl, hr2, hb2⟩
  have R2 := Lib.hid (HR1.out.below hb2)
  have F2 := Lib.hid (safe_row (A := some ⟨w.heap.size + 1, 0, none⟩) hr2 fun q e => by cases e; rw [hw1s]; omega)
  have B2 := Lib.hid (HB1.out.trans (hb2.mono (by rw [hw1s]; omega)))
  clear hr2 hb2 HGB CC HB1 HR1 hw1s
  have hsz2 : w.heap.size + 1 ≤ w2.heap.size := by have := B2.out.size; rw [hW0] at this; exact this
  have CP : Hid (Calls Tryz.prog 62 #[.slice (some ⟨w.heap.size + 1, 0, none⟩) 1 1, .int .i64 3, .slice A2 BODY.length c2] w2 fun e w' => ∃ (A' : Option Addr) (c' : Nat), e = .returned (.slice A' (BODY.length + 4) c') ∧ RowG w' (w.heap.size + 1) A' c' (1 :: fillB BODY 3) ∧ Below (w.heap.size + 1) w2 w') :=
    Lib.hid ((part_prog (q := 1) (m := BODY.length) 3 R2.out rfl rfl hsz2 (by decide) (by have := HML.out.1; omega) (by decide) F2.out).mono fun e w' hg => by
      obtain ⟨A', c', rfl, h1, h2⟩ := hg
      exact ⟨A', c', by
        have : ([1] : List UInt8).length + (fillB BODY 3).length = BODY.length + 4 := by
          have := HML.out.2
          rw [List.length_cons] at this
          rw [List.length_singleton]; omega
        rw [this], h1, h2.below⟩)
  go_wp2_with fail
  refine CP.out.mono ?_
  rintro e w3 ⟨A3, c3, rfl, hr3, hb3⟩
  have R3 := Lib.hid hr3
  have B3 := Lib.hid (B2.out.trans hb3)
  have hsz3 : w.heap.size + 1 ≤ w3.heap.size := Nat.le_trans hsz2 hb3.size
  have d0 : w3.cell? ⟨w.heap.size, 0, none⟩ = some (.int .i64 mi) := HK.out w3 B3.out 0
  clear hr3 hb3 CP R2 F2 B2 hsz2
  have hmw : IntKind.u8.wrap mi = mi := by rw [IntKind.wrap_u8]; omega
  have hm2 : mi % 256 = mi := by omega
  go_wp2_with fail
  have hmn : mi = ((UInt8.ofNat mi.toNat).toNat : Int) := by rw [UInt8.toNat_ofNat']; omega
  have R4 := rowG_three w3 (w.heap.size + 1) 22 3 mi 22 3 (UInt8.ofNat mi.toNat) rfl rfl hmn hsz3
  have hb4 := below_new w3 (.cells #[.int .u8 22, .int .u8 3, .int .u8 mi] 5)
  have F4 : Safe (some ⟨w3.heap.size, 0, none⟩) (w3.alloc (.cells #[.int .u8 22, .int .u8 3, .int .u8 mi] 5)) A3 c3 (1 :: fillB BODY 3) := safe_ne (R3.out.below hb4) fun q e e' => by
    have := (R3.out.lt e).2
    cases e'
    omega
  have CP2 : Hid (Calls Tryz.prog 62 #[.slice (some ⟨w3.heap.size, 0, none⟩) 3 3, .int .i64 2, .slice A3 (BODY.length + 4) c3] (w3.alloc (.cells #[.int .u8 22, .int .u8 3, .int .u8 mi] 5)) fun e w' => ∃ (A' : Option Addr) (c' : Nat), e = .returned (.slice A' REC.length c') ∧ RowG w' (w.heap.size + 1) A' c' REC ∧ Below (w.heap.size + 1) (w3.alloc (.cells #[.int .u8 22, .int .u8 3, .int .u8 mi] 5)) w') :=
    Lib.hid ((part_prog (q := 3) (m := BODY.length + 4) 2 R4 rfl HML.out.2 (Nat.le_trans hsz3 hb4.size) (by simp) (by have := HML.out; omega) (by decide) F4).mono fun e w' hg => by
      obtain ⟨A', c', rfl, h1, h2⟩ := hg
      rw [HRC.out]
      exact ⟨A', c', by rw [← List.length_append]; rfl, h1, h2.below⟩)
  have HB4 := Lib.hid (B3.out.trans (hb4.mono hsz3))
  clear R4 F4 hb4 R3 B3 d0 hmn hmw hm2
  refine CP2.out.mono ?_
  rintro e w5 ⟨A5, c5, rfl, hr5, hb5⟩
  have R5 := Lib.hid hr5
  have B5 := Lib.hid (HB4.out.trans hb5)
  clear hr5 hb5 CP2
  go_wp2_with fail
  go_ret
  exact ⟨A5, c5, rfl, R5.out.up (Nat.le_succ _), HB0.out.trans (B5.out.mono (Nat.le_succ _))⟩
/-- what Write answers -/
def WrP (g : Grt) (w : World) (e : Ending) (w' : World) : Prop :=
  (okG g = true → ∃ (A : Option Addr) (c : Nat), e = .returned (.tuple #[.slice A (recG g).length c, .int .i64 0]) ∧ RowG w' w.heap.size A c (recG g) ∧ Below w.heap.size w w') ∧
  (okG g = false → e = .returned (.tuple #[.slice none 0 0, .int .i64 2]) ∧ Below w.heap.size w w')
set_option maxRecDepth 100000 in
set_option maxHeartbeats 1000000 in
theorem write_prog7 {w : World} {g : Grt} {a : Adr} (h : GrV w.heap.size w g a) (hG : Gl w) (hd : ∀ x ∈ g.exts, x.2.length ≤ 1000000) : Calls Tryz.prog 19 #[.agg (grtA g a)] w (WrP g w) := by
  have hB0 := below_new w (.cells (grtA g a) 28)
  have HGI := Lib.hid (infoGA g a)
  have HGB : Hid (∀ wx, Below (w.heap.size + 1) (w.alloc (.cells (grtA g a) 28)) wx → wx.heap[w.heap.size]? = some (.cells (grtA g a) 28)) := Lib.hid fun wx hb => (hb.block w.heap.size (Nat.lt_succ_self _)).trans (heap_alloc_new w _)
  have hW0 : (w.alloc (.cells (grtA g a) 28)).heap.size = w.heap.size + 1 := by simp
  have HV : Hid (∀ wx, Below w.heap.size w wx → GrV wx.heap.size wx g a) := Lib.hid fun wx hb => h.below hb
  have CV := Lib.hid (isValid_prog (HV.out _ hB0) (hG.below hB0) hd)
  have G0 := Lib.hid (HGB.out _ (Below.refl _ _))
  have HB0 := Lib.hid hB0
  have HW := Lib.hid hW0
  unfold WrP BoolP at *
  cases hok : okG g with
  | true =>
    have CR : Hid (∀ wx, Below w.heap.size w wx → Calls Tryz.prog 41 #[.agg (grtA g a)] wx (MadeP (recG g) wx)) := Lib.hid fun wx hb => record_prog (HV.out wx hb) hok
    rw [hok] at CV
    unfold MadeP at CR
    clear h hG hd hB0 hW0 hok
    obtain ⟨mi, rnd, ses, su, me, ho, pos, ex⟩ := g
    obtain ⟨a1, k1, a2, k2, a3, k3, a4, k4⟩ := a
    generalize recG ⟨mi, rnd, ses, su, me, ho, pos, ex⟩ = REC at *
    go_enter Tryz.func19, Tryz.ntmps19
    go_wp2_with (first
      | (refine wpList_load_row rfl 28 (.tmp 1) rfl w.heap.size rfl 28 _ (0, 0) _ (by first | exact G0.out | exact G1.out) Tryz.underlying28 rfl HGI.out ?_)
      | (go_at_call 40; refine CV.out.mono ?_; rintro e w1 ⟨rfl, hb⟩; have HB := Lib.hid (Below.and HB0.out hb); have G1 := Lib.hid (HGB.out w1 (hb.mono (Nat.le_of_eq HW.out.symm))); clear hb)
      | (go_at_call 41; refine (CR.out _ HB.out).mono ?_; rintro e w2 ⟨A2, c2, rfl, hr2, hb2⟩; have R2 := Lib.hid (hr2.up HB.out.size); have B2 := Lib.hid (Below.and HB.out hb2); clear hr2 hb2))
    go_ret2
    exact ⟨fun _ => ⟨A2, c2, rfl, R2.out, B2.out⟩, fun e => by cases e⟩
  | false =>
    rw [hok] at CV
    clear h hG hd hB0 hW0 hok
    obtain ⟨mi, rnd, ses, su, me, ho, pos, ex⟩ := g
    obtain ⟨a1, k1, a2, k2, a3, k3, a4, k4⟩ := a
    go_enter Tryz.func19, Tryz.ntmps19
    go_wp2_with (first
      | (refine wpList_load_row rfl 28 (.tmp 1) rfl w.heap.size rfl 28 _ (0, 0) _ (by first | exact G0.out | exact G1.out) Tryz.underlying28 rfl HGI.out ?_)
      | (go_at_call 40; refine CV.out.mono ?_; rintro e w1 ⟨rfl, hb⟩; have HB := Lib.hid (Below.and HB0.out hb); clear hb))
    go_ret2
    exact ⟨(fun e => by cases e), fun _ => ⟨rfl, HB.out⟩⟩
end Go.Proofs.YtiakbmllpnabnaaGreatDoor
