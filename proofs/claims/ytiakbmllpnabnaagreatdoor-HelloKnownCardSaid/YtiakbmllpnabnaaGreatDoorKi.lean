/- What the program asks of a greeting: isValid. -/
import Derived.Test.YtiakbmllpnabnaaGreatDoorKj
import Derived.Laws.Rows
namespace Go.Proofs.YtiakbmllpnabnaaGreatDoor
open Go Go.RowKit

theorem size_msg {g : Grt} (hr : g.rnd.length = 32) (_ : 0 ≤ g.pos) (_ : g.pos ≤ g.exts.length) : (msgG g).length = sizeG g := by
  have hx : (allX g).length = (encX g.exts).length + (g.host.length + 9) := by
    unfold allX
    have := congrArg (fun l => (encX l).length) (List.take_append_drop g.pos.toNat g.exts)
    simp only [encX_app, List.length_append] at this
    rw [List.length_append, List.length_append, encE_len, encN_len]
    omega
  rw [msgG_len, bodyG_len, encS_len, hx, hr]
  unfold sizeG
  omega
/-- all that isValid asks, in its order -/
def askG (g : Grt) : Bool := decide (sizeG g ≤ 16384) && decide (0 ≤ g.minor) && decide (g.minor ≤ 4) && decide (g.ses.length ≤ 32) && suitesB g.suites && methOk g.meth && isH g.host && decide (0 ≤ g.pos) && decide (g.pos ≤ g.exts.length) && othersB g.exts
theorem ask_ok {g : Grt} (hr : g.rnd.length = 32) : askG g = okG g := by
  rw [Bool.eq_iff_iff]
  unfold askG okG
  constructor
  · intro h
    simp only [Bool.and_eq_true, decide_eq_true_iff] at h
    obtain ⟨⟨⟨⟨⟨⟨⟨⟨⟨h1, h2⟩, h3⟩, h4⟩, h5⟩, h6⟩, h7⟩, h8⟩, h9⟩, h10⟩ := h
    have hm := size_msg hr h8 h9
    unfold suitesB at h5
    rw [Bool.and_eq_true, decide_eq_true_iff] at h5
    have hu : g.suites.length ≤ 16384 := by unfold sizeG at h1; omega
    have hd : ∀ x ∈ g.exts, x.2.length ≤ 65535 := fun x hx => by
      obtain ⟨i, hi, rfl⟩ := List.getElem_of_mem hx
      have := encX_data_le hi
      unfold sizeG at h1
      omega
    rw [Bool.and_eq_true, decide_eq_true_iff]
    refine ⟨?_, by omega⟩
    unfold mayG extsOk
    rw [typesOk_others hd]
    simp only [Bool.and_eq_true, decide_eq_true_iff]
    exact ⟨⟨⟨⟨⟨⟨⟨⟨h2, h3⟩, h4⟩, h5.1⟩, hu⟩, h6⟩, h7⟩, ⟨h8, h9⟩, h10⟩, h5.2⟩
  · intro h
    rw [Bool.and_eq_true, decide_eq_true_iff] at h
    obtain ⟨h, hl⟩ := h
    obtain ⟨⟨m0, m4⟩, hs, ⟨u1, u2⟩, hme, hh, hx, hsu⟩ := mayG_iff h
    unfold extsOk at hx
    rw [Bool.and_eq_true, Bool.and_eq_true, decide_eq_true_iff, decide_eq_true_iff] at hx
    obtain ⟨⟨x0, x1⟩, ht⟩ := hx
    have hd : ∀ x ∈ g.exts, x.2.length ≤ 65535 := fun x hx => (typesOk_all ht x hx).2.2
    rw [size_msg hr x0 x1] at hl
    rw [typesOk_others hd] at ht
    unfold suitesB
    simp only [Bool.and_eq_true, decide_eq_true_iff]
    exact ⟨⟨⟨⟨⟨⟨⟨⟨⟨hl, m0⟩, m4⟩, hs⟩, u1, hsu⟩, hme⟩, hh⟩, x0⟩, x1⟩, ht⟩
theorem lowS_ne {l : List UInt8} (h : isH l = true) : lowS l ≠ [] := fun e => by
  have hp : isPl (lowS l) = true := h
  rw [e] at hp
  exact absurd hp (by decide)
theorem infoG : (Tryz.prog.info? 28).map (·.size) = some 39 := by kernel_rfl
theorem infoGA (g : Grt) (a : Adr) : (Tryz.prog.info? 28).map (·.size) = some (grtA g a).size := infoG
set_option maxRecDepth 100000 in
set_option maxHeartbeats 1000000 in
theorem isValid_prog {w : World} {g : Grt} {a : Adr} (h : GrV w.heap.size w g a) (hG : Gl w) (hd : ∀ x ∈ g.exts, x.2.length ≤ 1000000) : Calls Tryz.prog 40 #[.agg (grtA g a)] w (BoolP (okG g) w) := by
  have HM : Hid (okG g = (decide (sizeG g ≤ 16384) && decide (0 ≤ g.minor) && decide (g.minor ≤ 4) && decide (g.ses.length ≤ 32) && suitesB g.suites && methOk g.meth && isH g.host && decide (0 ≤ g.pos) && decide (g.pos ≤ g.exts.length) && othersB g.exts)) := Lib.hid (by rw [← ask_ok h.rl]; rfl)
  have hB0 := below_new w (.cells (grtA g a) 28)
  have HB0 := Lib.hid hB0
  have HV : Hid (∀ wx, Below w.heap.size w wx → GrV wx.heap.size wx g a) := Lib.hid fun wx hb => h.below hb
  have HGl : Hid (∀ wx, Below w.heap.size w wx → Gl wx) := Lib.hid fun wx hb => hG.below hb
  have HK : Hid (∀ wx, Below (w.alloc (.cells (grtA g a) 28)).heap.size (w.alloc (.cells (grtA g a) 28)) wx → ∀ j, wx.cell? ⟨w.heap.size, j, none⟩ = (grtA g a)[j]?) := Lib.hid fun wx hb => box_cell w wx _ _ hb
  have C1 : Hid (Calls Tryz.prog 58 #[.agg (grtA g a)] (w.alloc (.cells (grtA g a) 28)) fun e w' => e = .returned (.int .i64 (sizeG g : Nat)) ∧ Below (w.alloc (.cells (grtA g a) 28)).heap.size (w.alloc (.cells (grtA g a) 28)) w') := Lib.hid (size_prog (HV.out _ hB0) hd)
  have C5 : Hid (∀ wx, Below w.heap.size w wx → Calls Tryz.prog 59 #[.slice a.a2 g.suites.length a.c2] wx fun e w' => e = .returned (.bool (suitesB g.suites)) ∧ wx = w') := Lib.hid fun wx hb => areSuites_prog (HV.out wx hb).sui rfl h.ul
  have C6 : Hid (∀ wx, Below w.heap.size w wx → Calls Tryz.prog 60 #[.slice a.a3 g.meth.length a.c3] wx fun e w' => e = .returned (.bool (methOk g.meth)) ∧ wx = w') := Lib.hid fun wx hb => areMethods_prog (HV.out wx hb).met rfl h.ml
  have C7 : Hid (∀ wx, Below w.heap.size w wx → Calls Tryz.prog 37 #[.string ⟨g.host.toArray⟩] wx fun e w' => e = .returned (.string ⟨(lowV g.host).toArray⟩) ∧ Below wx.heap.size wx w') := Lib.hid fun wx hb => lower_prog g.host wx (HGl.out wx hb) h.hl
  have C10 : Hid (∀ wx, Below w.heap.size w wx → Calls Tryz.prog 61 #[.slice a.a4 g.exts.length a.c4] wx (BoolP (othersB g.exts) wx)) := Lib.hid fun wx hb => areOthers_prog (HV.out wx hb).ext (Nat.le_refl _) rfl h.xl
  have HGB : Hid ((w.alloc (.cells (grtA g a) 28)).heap[w.heap.size]? = some (.cells (grtA g a) 28)) := Lib.hid (heap_alloc_new w _)
  have HGI := Lib.hid (infoGA g a)
  have HL1 : Hid (isH g.host = true → lowV g.host ≠ []) := Lib.hid fun e => by rw [lowV_some e]; exact lowS_ne e
  have HL2 : Hid (isH g.host = false → lowV g.host = []) := Lib.hid lowV_none
  clear h hd hB0 hG HV HGl
  unfold BoolP at *
  obtain ⟨mi, rnd, ses, su, me, ho, pos, ex⟩ := g
  obtain ⟨a1, k1, a2, k2, a3, k3, a4, k4⟩ := a
  dsimp only at *
  generalize okG ⟨mi, rnd, ses, su, me, ho, pos, ex⟩ = R at *
  generalize sizeG ⟨mi, rnd, ses, su, me, ho, pos, ex⟩ = SZ at *
  generalize suitesB su = b5 at *
  generalize methOk me = b6 at *
  generalize isH ho = b7 at *
  generalize othersB ex = b10 at *
  have hLV : (b7 = true ∧ ∃ c r, lowV ho = c :: r) ∨ (b7 = false ∧ lowV ho = []) := by
    cases b7 with
    | true =>
      have := HL1.out rfl
      cases hq : lowV ho with
      | nil => exact absurd hq this
      | cons c r => exact .inl ⟨rfl, c, r, rfl⟩
    | false => exact .inr ⟨rfl, HL2.out rfl⟩
  generalize lowV ho = LV at *
  clear HL1 HL2
  have key : ∀ X : Bool, Hid (R = X) → (X = false ∧ (¬ (SZ : Int) ≤ 16384 ∨ ((SZ : Int) ≤ 16384 ∧ ¬ 0 ≤ mi) ∨ ((SZ : Int) ≤ 16384 ∧ 0 ≤ mi ∧ ¬ mi ≤ 4) ∨ ((SZ : Int) ≤ 16384 ∧ 0 ≤ mi ∧ mi ≤ 4 ∧ ¬ (ses.length : Int) ≤ 32) ∨
      ((SZ : Int) ≤ 16384 ∧ 0 ≤ mi ∧ mi ≤ 4 ∧ (ses.length : Int) ≤ 32 ∧ b5 = false) ∨
      ((SZ : Int) ≤ 16384 ∧ 0 ≤ mi ∧ mi ≤ 4 ∧ (ses.length : Int) ≤ 32 ∧ b5 = true ∧ b6 = false) ∨
      ((SZ : Int) ≤ 16384 ∧ 0 ≤ mi ∧ mi ≤ 4 ∧ (ses.length : Int) ≤ 32 ∧ b5 = true ∧ b6 = true ∧ LV = []) ∨
      ((SZ : Int) ≤ 16384 ∧ 0 ≤ mi ∧ mi ≤ 4 ∧ (ses.length : Int) ≤ 32 ∧ b5 = true ∧ b6 = true ∧ (∃ c r, LV = c :: r) ∧ ¬ 0 ≤ pos) ∨
      ((SZ : Int) ≤ 16384 ∧ 0 ≤ mi ∧ mi ≤ 4 ∧ (ses.length : Int) ≤ 32 ∧ b5 = true ∧ b6 = true ∧ (∃ c r, LV = c :: r) ∧ 0 ≤ pos ∧ ¬ pos ≤ (ex.length : Int))) ∨
      (X = b10 ∧ (SZ : Int) ≤ 16384 ∧ 0 ≤ mi ∧ mi ≤ 4 ∧ (ses.length : Int) ≤ 32 ∧ b5 = true ∧ b6 = true ∧ (∃ c r, LV = c :: r) ∧ 0 ≤ pos ∧ pos ≤ (ex.length : Int))) →
      Calls Tryz.prog 40 #[.agg (grtA ⟨mi, rnd, ses, su, me, ho, pos, ex⟩ ⟨a1, k1, a2, k2, a3, k3, a4, k4⟩)] w fun e w' => e = .returned (.bool X) ∧ Below w.heap.size w w' := by
    intro X _ hX
    clear HM hLV
    have B0 := Lib.hid (Below.refl (w.alloc (.cells (grtA ⟨mi, rnd, ses, su, me, ho, pos, ex⟩ ⟨a1, k1, a2, k2, a3, k3, a4, k4⟩) 28)).heap.size (w.alloc (.cells (grtA ⟨mi, rnd, ses, su, me, ho, pos, ex⟩ ⟨a1, k1, a2, k2, a3, k3, a4, k4⟩) 28)))
    rcases hX with ⟨rfl, s1 | ⟨s1, s2⟩ | ⟨s1, s2, s3⟩ | ⟨s1, s2, s3, s4⟩ | ⟨s1, s2, s3, s4, rfl⟩ | ⟨s1, s2, s3, s4, rfl, rfl⟩ | ⟨s1, s2, s3, s4, rfl, rfl, rfl⟩ | ⟨s1, s2, s3, s4, rfl, rfl, ⟨c, r, rfl⟩, s8⟩ | ⟨s1, s2, s3, s4, rfl, rfl, ⟨c, r, rfl⟩, s8, s9⟩⟩ | ⟨rfl, s1, s2, s3, s4, rfl, rfl, ⟨c, r, rfl⟩, s8, s9⟩
    · have f1 := decide_eq_false s1
      go_enter Tryz.func40, Tryz.ntmps40
      go_wp2_with (first
        | (refine wpList_load_row rfl 28 (.tmp 1) rfl w.heap.size rfl 28 _ (0, 0) _ HGB.out Tryz.underlying28 rfl HGI.out ?_)
        | (go_at_call 58; refine C1.out.mono ?_; rintro e w1 ⟨rfl, hb⟩; have HB := Lib.hid (Below.and HB0.out hb); have B1 := Lib.hid hb; have d0 : w1.cell? ⟨w.heap.size, 0, none⟩ = some (.int .i64 mi) := HK.out w1 hb 0; have d33 : w1.cell? ⟨w.heap.size, 33, none⟩ = some (.slice a1 ses.length k1) := HK.out w1 hb 33; have d34 : w1.cell? ⟨w.heap.size, 34, none⟩ = some (.slice a2 su.length k2) := HK.out w1 hb 34; have d35 : w1.cell? ⟨w.heap.size, 35, none⟩ = some (.slice a3 me.length k3) := HK.out w1 hb 35; have d36 : w1.cell? ⟨w.heap.size, 36, none⟩ = some (.string ⟨ho.toArray⟩) := HK.out w1 hb 36; clear hb)
        | (go_at_call 59; refine (C5.out _ HB.out).mono ?_; rintro e w' ⟨rfl, rfl⟩)
        | (go_at_call 60; refine (C6.out _ HB.out).mono ?_; rintro e w' ⟨rfl, rfl⟩)
        | (go_at_call 37; refine (C7.out _ HB.out).mono ?_; rintro e w2 ⟨rfl, hb⟩; have HB := Lib.hid (Below.and HB.out hb); have B1 := Lib.hid (Below.and B1.out hb); have d37 : w2.cell? ⟨w.heap.size, 37, none⟩ = some (.int .i64 pos) := HK.out w2 B1.out 37; have d38 : w2.cell? ⟨w.heap.size, 38, none⟩ = some (.slice a4 ex.length k4) := HK.out w2 B1.out 38; clear hb)
        | (go_at_call 61; refine (C10.out _ HB.out).mono ?_; rintro e w3 ⟨rfl, hb⟩; have HB := Lib.hid (Below.and HB.out hb); clear hb))
      go_ret
      exact ⟨rfl, HB.out⟩
    · have f2 := decide_eq_false s2
      go_enter Tryz.func40, Tryz.ntmps40
      go_wp2_with (first
        | (refine wpList_load_row rfl 28 (.tmp 1) rfl w.heap.size rfl 28 _ (0, 0) _ HGB.out Tryz.underlying28 rfl HGI.out ?_)
        | (go_at_call 58; refine C1.out.mono ?_; rintro e w1 ⟨rfl, hb⟩; have HB := Lib.hid (Below.and HB0.out hb); have B1 := Lib.hid hb; have d0 : w1.cell? ⟨w.heap.size, 0, none⟩ = some (.int .i64 mi) := HK.out w1 hb 0; have d33 : w1.cell? ⟨w.heap.size, 33, none⟩ = some (.slice a1 ses.length k1) := HK.out w1 hb 33; have d34 : w1.cell? ⟨w.heap.size, 34, none⟩ = some (.slice a2 su.length k2) := HK.out w1 hb 34; have d35 : w1.cell? ⟨w.heap.size, 35, none⟩ = some (.slice a3 me.length k3) := HK.out w1 hb 35; have d36 : w1.cell? ⟨w.heap.size, 36, none⟩ = some (.string ⟨ho.toArray⟩) := HK.out w1 hb 36; clear hb)
        | (go_at_call 59; refine (C5.out _ HB.out).mono ?_; rintro e w' ⟨rfl, rfl⟩)
        | (go_at_call 60; refine (C6.out _ HB.out).mono ?_; rintro e w' ⟨rfl, rfl⟩)
        | (go_at_call 37; refine (C7.out _ HB.out).mono ?_; rintro e w2 ⟨rfl, hb⟩; have HB := Lib.hid (Below.and HB.out hb); have B1 := Lib.hid (Below.and B1.out hb); have d37 : w2.cell? ⟨w.heap.size, 37, none⟩ = some (.int .i64 pos) := HK.out w2 B1.out 37; have d38 : w2.cell? ⟨w.heap.size, 38, none⟩ = some (.slice a4 ex.length k4) := HK.out w2 B1.out 38; clear hb)
        | (go_at_call 61; refine (C10.out _ HB.out).mono ?_; rintro e w3 ⟨rfl, hb⟩; have HB := Lib.hid (Below.and HB.out hb); clear hb))
      go_ret
      exact ⟨rfl, HB.out⟩
    · have f3 := decide_eq_false s3
      go_enter Tryz.func40, Tryz.ntmps40
      go_wp2_with (first
        | (refine wpList_load_row rfl 28 (.tmp 1) rfl w.heap.size rfl 28 _ (0, 0) _ HGB.out Tryz.underlying28 rfl HGI.out ?_)
        | (go_at_call 58; refine C1.out.mono ?_; rintro e w1 ⟨rfl, hb⟩; have HB := Lib.hid (Below.and HB0.out hb); have B1 := Lib.hid hb; have d0 : w1.cell? ⟨w.heap.size, 0, none⟩ = some (.int .i64 mi) := HK.out w1 hb 0; have d33 : w1.cell? ⟨w.heap.size, 33, none⟩ = some (.slice a1 ses.length k1) := HK.out w1 hb 33; have d34 : w1.cell? ⟨w.heap.size, 34, none⟩ = some (.slice a2 su.length k2) := HK.out w1 hb 34; have d35 : w1.cell? ⟨w.heap.size, 35, none⟩ = some (.slice a3 me.length k3) := HK.out w1 hb 35; have d36 : w1.cell? ⟨w.heap.size, 36, none⟩ = some (.string ⟨ho.toArray⟩) := HK.out w1 hb 36; clear hb)
        | (go_at_call 59; refine (C5.out _ HB.out).mono ?_; rintro e w' ⟨rfl, rfl⟩)
        | (go_at_call 60; refine (C6.out _ HB.out).mono ?_; rintro e w' ⟨rfl, rfl⟩)
        | (go_at_call 37; refine (C7.out _ HB.out).mono ?_; rintro e w2 ⟨rfl, hb⟩; have HB := Lib.hid (Below.and HB.out hb); have B1 := Lib.hid (Below.and B1.out hb); have d37 : w2.cell? ⟨w.heap.size, 37, none⟩ = some (.int .i64 pos) := HK.out w2 B1.out 37; have d38 : w2.cell? ⟨w.heap.size, 38, none⟩ = some (.slice a4 ex.length k4) := HK.out w2 B1.out 38; clear hb)
        | (go_at_call 61; refine (C10.out _ HB.out).mono ?_; rintro e w3 ⟨rfl, hb⟩; have HB := Lib.hid (Below.and HB.out hb); clear hb))
      go_ret
      exact ⟨rfl, HB.out⟩
    · have f4 := decide_eq_false s4
      go_enter Tryz.func40, Tryz.ntmps40
      go_wp2_with (first
        | (refine wpList_load_row rfl 28 (.tmp 1) rfl w.heap.size rfl 28 _ (0, 0) _ HGB.out Tryz.underlying28 rfl HGI.out ?_)
        | (go_at_call 58; refine C1.out.mono ?_; rintro e w1 ⟨rfl, hb⟩; have HB := Lib.hid (Below.and HB0.out hb); have B1 := Lib.hid hb; have d0 : w1.cell? ⟨w.heap.size, 0, none⟩ = some (.int .i64 mi) := HK.out w1 hb 0; have d33 : w1.cell? ⟨w.heap.size, 33, none⟩ = some (.slice a1 ses.length k1) := HK.out w1 hb 33; have d34 : w1.cell? ⟨w.heap.size, 34, none⟩ = some (.slice a2 su.length k2) := HK.out w1 hb 34; have d35 : w1.cell? ⟨w.heap.size, 35, none⟩ = some (.slice a3 me.length k3) := HK.out w1 hb 35; have d36 : w1.cell? ⟨w.heap.size, 36, none⟩ = some (.string ⟨ho.toArray⟩) := HK.out w1 hb 36; clear hb)
        | (go_at_call 59; refine (C5.out _ HB.out).mono ?_; rintro e w' ⟨rfl, rfl⟩)
        | (go_at_call 60; refine (C6.out _ HB.out).mono ?_; rintro e w' ⟨rfl, rfl⟩)
        | (go_at_call 37; refine (C7.out _ HB.out).mono ?_; rintro e w2 ⟨rfl, hb⟩; have HB := Lib.hid (Below.and HB.out hb); have B1 := Lib.hid (Below.and B1.out hb); have d37 : w2.cell? ⟨w.heap.size, 37, none⟩ = some (.int .i64 pos) := HK.out w2 B1.out 37; have d38 : w2.cell? ⟨w.heap.size, 38, none⟩ = some (.slice a4 ex.length k4) := HK.out w2 B1.out 38; clear hb)
        | (go_at_call 61; refine (C10.out _ HB.out).mono ?_; rintro e w3 ⟨rfl, hb⟩; have HB := Lib.hid (Below.and HB.out hb); clear hb))
      go_ret
      exact ⟨rfl, HB.out⟩
    · go_enter Tryz.func40, Tryz.ntmps40
      go_wp2_with (first
        | (refine wpList_load_row rfl 28 (.tmp 1) rfl w.heap.size rfl 28 _ (0, 0) _ HGB.out Tryz.underlying28 rfl HGI.out ?_)
        | (go_at_call 58; refine C1.out.mono ?_; rintro e w1 ⟨rfl, hb⟩; have HB := Lib.hid (Below.and HB0.out hb); have B1 := Lib.hid hb; have d0 : w1.cell? ⟨w.heap.size, 0, none⟩ = some (.int .i64 mi) := HK.out w1 hb 0; have d33 : w1.cell? ⟨w.heap.size, 33, none⟩ = some (.slice a1 ses.length k1) := HK.out w1 hb 33; have d34 : w1.cell? ⟨w.heap.size, 34, none⟩ = some (.slice a2 su.length k2) := HK.out w1 hb 34; have d35 : w1.cell? ⟨w.heap.size, 35, none⟩ = some (.slice a3 me.length k3) := HK.out w1 hb 35; have d36 : w1.cell? ⟨w.heap.size, 36, none⟩ = some (.string ⟨ho.toArray⟩) := HK.out w1 hb 36; clear hb)
        | (go_at_call 59; refine (C5.out _ HB.out).mono ?_; rintro e w' ⟨rfl, rfl⟩)
        | (go_at_call 60; refine (C6.out _ HB.out).mono ?_; rintro e w' ⟨rfl, rfl⟩)
        | (go_at_call 37; refine (C7.out _ HB.out).mono ?_; rintro e w2 ⟨rfl, hb⟩; have HB := Lib.hid (Below.and HB.out hb); have B1 := Lib.hid (Below.and B1.out hb); have d37 : w2.cell? ⟨w.heap.size, 37, none⟩ = some (.int .i64 pos) := HK.out w2 B1.out 37; have d38 : w2.cell? ⟨w.heap.size, 38, none⟩ = some (.slice a4 ex.length k4) := HK.out w2 B1.out 38; clear hb)
        | (go_at_call 61; refine (C10.out _ HB.out).mono ?_; rintro e w3 ⟨rfl, hb⟩; have HB := Lib.hid (Below.and HB.out hb); clear hb))
      go_ret
      exact ⟨rfl, HB.out⟩
    · go_enter Tryz.func40, Tryz.ntmps40
      go_wp2_with (first
        | (refine wpList_load_row rfl 28 (.tmp 1) rfl w.heap.size rfl 28 _ (0, 0) _ HGB.out Tryz.underlying28 rfl HGI.out ?_)
        | (go_at_call 58; refine C1.out.mono ?_; rintro e w1 ⟨rfl, hb⟩; have HB := Lib.hid (Below.and HB0.out hb); have B1 := Lib.hid hb; have d0 : w1.cell? ⟨w.heap.size, 0, none⟩ = some (.int .i64 mi) := HK.out w1 hb 0; have d33 : w1.cell? ⟨w.heap.size, 33, none⟩ = some (.slice a1 ses.length k1) := HK.out w1 hb 33; have d34 : w1.cell? ⟨w.heap.size, 34, none⟩ = some (.slice a2 su.length k2) := HK.out w1 hb 34; have d35 : w1.cell? ⟨w.heap.size, 35, none⟩ = some (.slice a3 me.length k3) := HK.out w1 hb 35; have d36 : w1.cell? ⟨w.heap.size, 36, none⟩ = some (.string ⟨ho.toArray⟩) := HK.out w1 hb 36; clear hb)
        | (go_at_call 59; refine (C5.out _ HB.out).mono ?_; rintro e w' ⟨rfl, rfl⟩)
        | (go_at_call 60; refine (C6.out _ HB.out).mono ?_; rintro e w' ⟨rfl, rfl⟩)
        | (go_at_call 37; refine (C7.out _ HB.out).mono ?_; rintro e w2 ⟨rfl, hb⟩; have HB := Lib.hid (Below.and HB.out hb); have B1 := Lib.hid (Below.and B1.out hb); have d37 : w2.cell? ⟨w.heap.size, 37, none⟩ = some (.int .i64 pos) := HK.out w2 B1.out 37; have d38 : w2.cell? ⟨w.heap.size, 38, none⟩ = some (.slice a4 ex.length k4) := HK.out w2 B1.out 38; clear hb)
        | (go_at_call 61; refine (C10.out _ HB.out).mono ?_; rintro e w3 ⟨rfl, hb⟩; have HB := Lib.hid (Below.and HB.out hb); clear hb))
      go_ret
      exact ⟨rfl, HB.out⟩
    · go_enter Tryz.func40, Tryz.ntmps40
      go_wp2_with (first
        | (refine wpList_load_row rfl 28 (.tmp 1) rfl w.heap.size rfl 28 _ (0, 0) _ HGB.out Tryz.underlying28 rfl HGI.out ?_)
        | (go_at_call 58; refine C1.out.mono ?_; rintro e w1 ⟨rfl, hb⟩; have HB := Lib.hid (Below.and HB0.out hb); have B1 := Lib.hid hb; have d0 : w1.cell? ⟨w.heap.size, 0, none⟩ = some (.int .i64 mi) := HK.out w1 hb 0; have d33 : w1.cell? ⟨w.heap.size, 33, none⟩ = some (.slice a1 ses.length k1) := HK.out w1 hb 33; have d34 : w1.cell? ⟨w.heap.size, 34, none⟩ = some (.slice a2 su.length k2) := HK.out w1 hb 34; have d35 : w1.cell? ⟨w.heap.size, 35, none⟩ = some (.slice a3 me.length k3) := HK.out w1 hb 35; have d36 : w1.cell? ⟨w.heap.size, 36, none⟩ = some (.string ⟨ho.toArray⟩) := HK.out w1 hb 36; clear hb)
        | (go_at_call 59; refine (C5.out _ HB.out).mono ?_; rintro e w' ⟨rfl, rfl⟩)
        | (go_at_call 60; refine (C6.out _ HB.out).mono ?_; rintro e w' ⟨rfl, rfl⟩)
        | (go_at_call 37; refine (C7.out _ HB.out).mono ?_; rintro e w2 ⟨rfl, hb⟩; have HB := Lib.hid (Below.and HB.out hb); have B1 := Lib.hid (Below.and B1.out hb); have d37 : w2.cell? ⟨w.heap.size, 37, none⟩ = some (.int .i64 pos) := HK.out w2 B1.out 37; have d38 : w2.cell? ⟨w.heap.size, 38, none⟩ = some (.slice a4 ex.length k4) := HK.out w2 B1.out 38; clear hb)
        | (go_at_call 61; refine (C10.out _ HB.out).mono ?_; rintro e w3 ⟨rfl, hb⟩; have HB := Lib.hid (Below.and HB.out hb); clear hb))
      go_ret
      exact ⟨rfl, HB.out⟩
    · have f8 := decide_eq_false s8
      go_enter Tryz.func40, Tryz.ntmps40
      go_wp2_with (first
        | (refine wpList_load_row rfl 28 (.tmp 1) rfl w.heap.size rfl 28 _ (0, 0) _ HGB.out Tryz.underlying28 rfl HGI.out ?_)
        | (go_at_call 58; refine C1.out.mono ?_; rintro e w1 ⟨rfl, hb⟩; have HB := Lib.hid (Below.and HB0.out hb); have B1 := Lib.hid hb; have d0 : w1.cell? ⟨w.heap.size, 0, none⟩ = some (.int .i64 mi) := HK.out w1 hb 0; have d33 : w1.cell? ⟨w.heap.size, 33, none⟩ = some (.slice a1 ses.length k1) := HK.out w1 hb 33; have d34 : w1.cell? ⟨w.heap.size, 34, none⟩ = some (.slice a2 su.length k2) := HK.out w1 hb 34; have d35 : w1.cell? ⟨w.heap.size, 35, none⟩ = some (.slice a3 me.length k3) := HK.out w1 hb 35; have d36 : w1.cell? ⟨w.heap.size, 36, none⟩ = some (.string ⟨ho.toArray⟩) := HK.out w1 hb 36; clear hb)
        | (go_at_call 59; refine (C5.out _ HB.out).mono ?_; rintro e w' ⟨rfl, rfl⟩)
        | (go_at_call 60; refine (C6.out _ HB.out).mono ?_; rintro e w' ⟨rfl, rfl⟩)
        | (go_at_call 37; refine (C7.out _ HB.out).mono ?_; rintro e w2 ⟨rfl, hb⟩; have HB := Lib.hid (Below.and HB.out hb); have B1 := Lib.hid (Below.and B1.out hb); have d37 : w2.cell? ⟨w.heap.size, 37, none⟩ = some (.int .i64 pos) := HK.out w2 B1.out 37; have d38 : w2.cell? ⟨w.heap.size, 38, none⟩ = some (.slice a4 ex.length k4) := HK.out w2 B1.out 38; clear hb)
        | (go_at_call 61; refine (C10.out _ HB.out).mono ?_; rintro e w3 ⟨rfl, hb⟩; have HB := Lib.hid (Below.and HB.out hb); clear hb))
      go_ret
      exact ⟨rfl, HB.out⟩
    · have f9 := decide_eq_false s9
      go_enter Tryz.func40, Tryz.ntmps40
      go_wp2_with (first
        | (refine wpList_load_row rfl 28 (.tmp 1) rfl w.heap.size rfl 28 _ (0, 0) _ HGB.out Tryz.underlying28 rfl HGI.out ?_)
        | (go_at_call 58; refine C1.out.mono ?_; rintro e w1 ⟨rfl, hb⟩; have HB := Lib.hid (Below.and HB0.out hb); have B1 := Lib.hid hb; have d0 : w1.cell? ⟨w.heap.size, 0, none⟩ = some (.int .i64 mi) := HK.out w1 hb 0; have d33 : w1.cell? ⟨w.heap.size, 33, none⟩ = some (.slice a1 ses.length k1) := HK.out w1 hb 33; have d34 : w1.cell? ⟨w.heap.size, 34, none⟩ = some (.slice a2 su.length k2) := HK.out w1 hb 34; have d35 : w1.cell? ⟨w.heap.size, 35, none⟩ = some (.slice a3 me.length k3) := HK.out w1 hb 35; have d36 : w1.cell? ⟨w.heap.size, 36, none⟩ = some (.string ⟨ho.toArray⟩) := HK.out w1 hb 36; clear hb)
        | (go_at_call 59; refine (C5.out _ HB.out).mono ?_; rintro e w' ⟨rfl, rfl⟩)
        | (go_at_call 60; refine (C6.out _ HB.out).mono ?_; rintro e w' ⟨rfl, rfl⟩)
        | (go_at_call 37; refine (C7.out _ HB.out).mono ?_; rintro e w2 ⟨rfl, hb⟩; have HB := Lib.hid (Below.and HB.out hb); have B1 := Lib.hid (Below.and B1.out hb); have d37 : w2.cell? ⟨w.heap.size, 37, none⟩ = some (.int .i64 pos) := HK.out w2 B1.out 37; have d38 : w2.cell? ⟨w.heap.size, 38, none⟩ = some (.slice a4 ex.length k4) := HK.out w2 B1.out 38; clear hb)
        | (go_at_call 61; refine (C10.out _ HB.out).mono ?_; rintro e w3 ⟨rfl, hb⟩; have HB := Lib.hid (Below.and HB.out hb); clear hb))
      go_ret
      exact ⟨rfl, HB.out⟩
    · go_enter Tryz.func40, Tryz.ntmps40
      go_wp2_with (first
        | (refine wpList_load_row rfl 28 (.tmp 1) rfl w.heap.size rfl 28 _ (0, 0) _ HGB.out Tryz.underlying28 rfl HGI.out ?_)
        | (go_at_call 58; refine C1.out.mono ?_; rintro e w1 ⟨rfl, hb⟩; have HB := Lib.hid (Below.and HB0.out hb); have B1 := Lib.hid hb; have d0 : w1.cell? ⟨w.heap.size, 0, none⟩ = some (.int .i64 mi) := HK.out w1 hb 0; have d33 : w1.cell? ⟨w.heap.size, 33, none⟩ = some (.slice a1 ses.length k1) := HK.out w1 hb 33; have d34 : w1.cell? ⟨w.heap.size, 34, none⟩ = some (.slice a2 su.length k2) := HK.out w1 hb 34; have d35 : w1.cell? ⟨w.heap.size, 35, none⟩ = some (.slice a3 me.length k3) := HK.out w1 hb 35; have d36 : w1.cell? ⟨w.heap.size, 36, none⟩ = some (.string ⟨ho.toArray⟩) := HK.out w1 hb 36; clear hb)
        | (go_at_call 59; refine (C5.out _ HB.out).mono ?_; rintro e w' ⟨rfl, rfl⟩)
        | (go_at_call 60; refine (C6.out _ HB.out).mono ?_; rintro e w' ⟨rfl, rfl⟩)
        | (go_at_call 37; refine (C7.out _ HB.out).mono ?_; rintro e w2 ⟨rfl, hb⟩; have HB := Lib.hid (Below.and HB.out hb); have B1 := Lib.hid (Below.and B1.out hb); have d37 : w2.cell? ⟨w.heap.size, 37, none⟩ = some (.int .i64 pos) := HK.out w2 B1.out 37; have d38 : w2.cell? ⟨w.heap.size, 38, none⟩ = some (.slice a4 ex.length k4) := HK.out w2 B1.out 38; clear hb)
        | (go_at_call 61; refine (C10.out _ HB.out).mono ?_; rintro e w3 ⟨rfl, hb⟩; have HB := Lib.hid (Below.and HB.out hb); clear hb))
      go_ret
      exact ⟨rfl, HB.out⟩
  have dz : ∀ {p q : Prop} [Decidable p] [Decidable q], (p ↔ q) → decide p = decide q := fun h => decide_eq_decide.2 h
  have HM' : R = (decide ((SZ : Int) ≤ 16384) && decide (0 ≤ mi) && decide (mi ≤ 4) && decide ((ses.length : Int) ≤ 32) && b5 && b6 && b7 && decide (0 ≤ pos) && decide (pos ≤ (ex.length : Int)) && b10) := by
    rw [HM.out, dz (show (SZ ≤ 16384) ↔ ((SZ : Int) ≤ 16384) by omega), dz (show (ses.length ≤ 32) ↔ ((ses.length : Int) ≤ 32) by omega)]
  clear HM
  by_cases s1 : (SZ : Int) ≤ 16384
  rotate_left
  · exact key R (Lib.hid rfl) (.inl ⟨by rw [HM', decide_eq_false s1]; rfl, .inl s1⟩)
  by_cases s2 : 0 ≤ mi
  rotate_left
  · exact key R (Lib.hid rfl) (.inl ⟨by rw [HM', decide_eq_false s2]; simp, .inr (.inl ⟨s1, s2⟩)⟩)
  by_cases s3 : mi ≤ 4
  rotate_left
  · exact key R (Lib.hid rfl) (.inl ⟨by rw [HM', decide_eq_false s3]; simp, .inr (.inr (.inl ⟨s1, s2, s3⟩))⟩)
  by_cases s4 : (ses.length : Int) ≤ 32
  rotate_left
  · exact key R (Lib.hid rfl) (.inl ⟨by rw [HM', decide_eq_false s4]; simp, .inr (.inr (.inr (.inl ⟨s1, s2, s3, s4⟩)))⟩)
  cases hb5 : b5 with
  | false => exact key R (Lib.hid rfl) (.inl ⟨by rw [HM', hb5]; simp, .inr (.inr (.inr (.inr (.inl ⟨s1, s2, s3, s4, hb5⟩))))⟩)
  | true =>
    cases hb6 : b6 with
    | false => exact key R (Lib.hid rfl) (.inl ⟨by rw [HM', hb6]; simp, .inr (.inr (.inr (.inr (.inr (.inl ⟨s1, s2, s3, s4, hb5, hb6⟩)))))⟩)
    | true =>
      rcases hLV with ⟨h7, hl⟩ | ⟨h7, hl⟩
      · by_cases s8 : 0 ≤ pos
        · by_cases s9 : pos ≤ (ex.length : Int)
          · exact key R (Lib.hid rfl) (.inr ⟨by rw [HM', hb5, hb6, h7, decide_eq_true s1, decide_eq_true s2, decide_eq_true s3, decide_eq_true s4, decide_eq_true s8, decide_eq_true s9]; rfl, s1, s2, s3, s4, hb5, hb6, hl, s8, s9⟩)
          · exact key R (Lib.hid rfl) (.inl ⟨by rw [HM', decide_eq_false s9]; simp, .inr (.inr (.inr (.inr (.inr (.inr (.inr (.inr ⟨s1, s2, s3, s4, hb5, hb6, hl, s8, s9⟩)))))))⟩)
        · exact key R (Lib.hid rfl) (.inl ⟨by rw [HM', decide_eq_false s8]; simp, .inr (.inr (.inr (.inr (.inr (.inr (.inr (.inl ⟨s1, s2, s3, s4, hb5, hb6, hl, s8⟩)))))))⟩)
      · exact key R (Lib.hid rfl) (.inl ⟨by rw [HM', h7]; simp, .inr (.inr (.inr (.inr (.inr (.inr (.inl ⟨s1, s2, s3, s4, hb5, hb6, hl⟩))))))⟩)
end Go.Proofs.YtiakbmllpnabnaaGreatDoor
