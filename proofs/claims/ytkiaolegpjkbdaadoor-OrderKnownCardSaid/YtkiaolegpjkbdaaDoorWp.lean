/- The chapter's examples (works), walked. -/
import Derived.Test.YtkiaolegpjkbdaaDoorWo
namespace Go.Proofs.YtkiaolegpjkbdaaDoor
open Go Go.RowKit Go.Shelf

set_option maxHeartbeats 2000000 in
set_option maxRecDepth 100000 in
theorem works_any (w : World) (hT : Tab w) : Calls Tryd.prog 16 #[] w fun e w' => e = .returned (.bool true) ∧ Below w.heap.size w w' := by
  have HT := Lib.hid hT
  clear hT
  go_enter Tryd.func16, Tryd.ntmps16
  go_wp2_with fail
  refine (new_any 4 (by decide) (by decide) w).mono ?_
  rintro e w1 ⟨rfl, rfl⟩
  have S := OSt.new 4 HT.out
  generalize w.alloc (.cells (ocells 4 fun _ => 0) 51) = w1 at *
  go_wp2_with fail
  refine (add_ok w.heap.size 4 (fun _ => 0) (Good.zero (by decide) (by decide)) 0 1 w1 S.tab S.ord (by decide) (by decide) (by decide +kernel)).mono ?_
  rintro e w2 hp
  have S1 := S.add HT.out hp
  obtain ⟨rfl, _⟩ := hp
  clear S
  have g1 := w1_took.good (by decide) (by decide)
  have g2 := w2_took.good (by decide) (by decide)
  have g3 := w3_took.good (by decide) (by decide)
  have g4 := w4_took.good (by decide) (by decide)
  have t2 := w2_took.anti (by decide) (by decide)
  have t4 := w4_took.anti (by decide) (by decide)
  change Good 4 W1 at g1
  change Good 4 W2 at g2
  change Good 4 W3 at g3
  change Good 4 W4 at g4
  change Anti W2 at t2
  change Anti W4 at t4
  change OSt w w.heap.size 4 W1 w2 at S1
  go_wp2_with fail
  refine (add_ok w.heap.size 4 W1 g1 1 2 w2 S1.tab S1.ord (by decide) (by decide) (by decide +kernel)).mono ?_
  rintro e w3 hp
  have S2 := S1.add HT.out hp
  obtain ⟨rfl, _⟩ := hp
  clear S1
  change OSt w w.heap.size 4 W2 w3 at S2
  go_wp2_with fail
  refine (atMost_yes w.heap.size 4 W2 g2 0 2 w3 S2.tab S2.ord (by decide) (by decide)).mono ?_
  rw [show le W2 0 2 = true by decide +kernel]
  rintro e w4 ⟨rfl, hb⟩
  have S3 := S2.below hb
  clear S2 hb
  go_wp2_with fail
  refine (add_cycle w.heap.size 4 W2 g2 2 0 w4 S3.tab S3.ord (by decide) (by decide) (by decide +kernel)).mono ?_
  rintro e w5 ⟨rfl, hb⟩
  have S4 := S3.below hb
  clear S3 hb
  go_wp2_with fail
  refine (up_yes w.heap.size 4 W2 g2 1 (by decide) w5 S4.tab S4.ord).mono ?_
  rw [up_is]
  rintro e w6 ⟨v6, rfl, hv, hb⟩
  have S5 := S4.below hb
  clear S4 hb
  go_wp2_with fail
  have hb := below_new w6 (.cells #[.int .i64 1, .int .i64 2] 3)
  have hl : Rd (w6.alloc (.cells #[.int .i64 1, .int .i64 2] 3)) (some ⟨w6.heap.size, 0, none⟩) (nv [1, 2]) := Rd.made w6 (nv [1, 2]) 3
  have hv' := hv.below hb
  have S6 := S5.below hb
  refine (eqN hv' hl rfl rfl (by decide)).mono ?_
  rintro e w7 ⟨rfl, hb2⟩
  have S7 := S6.below hb2
  clear hv hv' hl hb hb2 S5 S6
  go_wp2_with fail
  refine (down_yes w.heap.size 4 W2 g2 2 (by decide) w7 S7.tab S7.ord).mono ?_
  rw [dn_is]
  rintro e w8 ⟨v8, rfl, hv, hb⟩
  have S8 := S7.below hb
  clear S7 hb
  go_wp2_with fail
  have hb := below_new w8 (.cells #[.int .i64 0, .int .i64 1, .int .i64 2] 3)
  have hl : Rd (w8.alloc (.cells #[.int .i64 0, .int .i64 1, .int .i64 2] 3)) (some ⟨w8.heap.size, 0, none⟩) (nv [0, 1, 2]) := Rd.made w8 (nv [0, 1, 2]) 3
  have hv' := hv.below hb
  have S9 := S8.below hb
  refine (eqN hv' hl rfl rfl (by decide)).mono ?_
  rintro e w9 ⟨rfl, hb2⟩
  have S10 := S9.below hb2
  clear hv hv' hl hb hb2 S8 S9
  go_wp2_with fail
  refine (covers_post w.heap.size 4 W2 g2 w9 S10.tab S10.ord).mono ?_
  rintro e w10 ⟨v10, rfl, hv, hb⟩
  rw [cov2_is] at hv
  have S11 := S10.below hb
  clear S10 hb
  go_wp2_with fail
  have hb := below_new w10 (.cells #[.int .i64 0, .int .i64 1, .int .i64 1, .int .i64 2] 31)
  have hl : Rd (w10.alloc (.cells #[.int .i64 0, .int .i64 1, .int .i64 1, .int .i64 2] 31)) (some ⟨w10.heap.size, 0, none⟩) (pvI [(0, 1), (1, 2)]) := Rd.made w10 (pvI [(0, 1), (1, 2)]) 31
  have hv' := hv.below hb
  have S12 := S11.below hb
  refine (isP hv' hl rfl rfl (by decide)).mono ?_
  rintro e w11 ⟨rfl, hb2⟩
  have S13 := S12.below hb2
  clear hv hv' hl hb hb2 S11 S12
  go_wp2_with fail
  refine (line_any w.heap.size 4 W2 g2 t2 w11 S13.tab S13.ord).mono ?_
  rw [line2_is]
  rintro e w12 ⟨v12, rfl, hv, hb⟩
  have S14 := S13.below hb
  clear S13 hb
  go_wp2_with fail
  have hb := below_new w12 (.cells #[.int .i64 0, .int .i64 1, .int .i64 2, .int .i64 3] 3)
  have hl : Rd (w12.alloc (.cells #[.int .i64 0, .int .i64 1, .int .i64 2, .int .i64 3] 3)) (some ⟨w12.heap.size, 0, none⟩) (nv [0, 1, 2, 3]) := Rd.made w12 (nv [0, 1, 2, 3]) 3
  have hv' := hv.below hb
  have S15 := S14.below hb
  refine (eqN hv' hl rfl rfl (by decide)).mono ?_
  rintro e w13 ⟨rfl, hb2⟩
  have S16 := S15.below hb2
  clear hv hv' hl hb hb2 S14 S15
  go_wp2_with fail
  refine (add_ok w.heap.size 4 W2 g2 0 2 w13 S16.tab S16.ord (by decide) (by decide) (by decide +kernel)).mono ?_
  rintro e w14 hp
  have S17 := S16.add HT.out hp
  obtain ⟨rfl, _⟩ := hp
  clear S16
  change OSt w w.heap.size 4 W3 w14 at S17
  go_wp2_with fail
  refine (covers_post w.heap.size 4 W3 g3 w14 S17.tab S17.ord).mono ?_
  rintro e w15 ⟨v15, rfl, hv, hb⟩
  rw [cov3_is] at hv
  have S18 := S17.below hb
  clear S17 hb
  go_wp2_with fail
  have hb := below_new w15 (.cells #[.int .i64 0, .int .i64 1, .int .i64 1, .int .i64 2] 31)
  have hl : Rd (w15.alloc (.cells #[.int .i64 0, .int .i64 1, .int .i64 1, .int .i64 2] 31)) (some ⟨w15.heap.size, 0, none⟩) (pvI [(0, 1), (1, 2)]) := Rd.made w15 (pvI [(0, 1), (1, 2)]) 31
  have hv' := hv.below hb
  have S19 := S18.below hb
  refine (isP hv' hl rfl rfl (by decide)).mono ?_
  rintro e w16 ⟨rfl, hb2⟩
  have S20 := S19.below hb2
  clear hv hv' hl hb hb2 S18 S19
  go_wp2_with fail
  refine (add_ok w.heap.size 4 W3 g3 3 0 w16 S20.tab S20.ord (by decide) (by decide) (by decide +kernel)).mono ?_
  rintro e w17 hp
  have S21 := S20.add HT.out hp
  obtain ⟨rfl, _⟩ := hp
  clear S20
  change OSt w w.heap.size 4 W4 w17 at S21
  go_wp2_with fail
  refine (line_any w.heap.size 4 W4 g4 t4 w17 S21.tab S21.ord).mono ?_
  rw [line4_is]
  rintro e w18 ⟨v18, rfl, hv, hb⟩
  have S22 := S21.below hb
  clear S21 hb
  go_wp2_with fail
  have hb := below_new w18 (.cells #[.int .i64 3, .int .i64 0, .int .i64 1, .int .i64 2] 3)
  have hl : Rd (w18.alloc (.cells #[.int .i64 3, .int .i64 0, .int .i64 1, .int .i64 2] 3)) (some ⟨w18.heap.size, 0, none⟩) (nv [3, 0, 1, 2]) := Rd.made w18 (nv [3, 0, 1, 2]) 3
  have hv' := hv.below hb
  have S23 := S22.below hb
  refine (eqN hv' hl rfl rfl (by decide)).mono ?_
  rintro e w19 ⟨rfl, hb2⟩
  have S24 := S23.below hb2
  clear hv hv' hl hb hb2 S22 S23
  go_wp2_with fail
  go_ret
  exact ⟨rfl, S24.bel⟩
end Go.Proofs.YtkiaolegpjkbdaaDoor
