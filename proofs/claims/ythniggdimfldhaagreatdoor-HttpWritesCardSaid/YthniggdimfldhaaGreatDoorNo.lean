/- The reader: what the headers tell of the body. -/
import Derived.Test.YthniggdimfldhaaGreatDoorNn
import Derived.Deep.DeepCutAuto
namespace Go.Proofs.YthniggdimfldhaaGreatDoor
open Go Go.RowKit

theorem sm_ok {l : List Hd} (h : l.length ≤ 20) (ho : ∀ x ∈ l, okH x = true) : Sm l := ⟨by omega, fun x hx => by
  obtain ⟨a, b⟩ := okH_one.1 (ho x hx)
  exact ⟨Nat.le_trans (isNm_len a) (by decide), Nat.le_trans (isVl_len b) (by decide)⟩⟩
theorem fstV_len {l : List Hd} (h : Sm l) : (fstV l).length ≤ 1000 := by
  cases l with
  | nil => exact Nat.zero_le _
  | cons x l => exact (h.2 x List.mem_cons_self).2
theorem lower_anyL (z : List UInt8) (hz : z.length ≤ 1000) (w : World) : Calls Tryz.prog 91 #[.string ⟨z.toArray⟩] w fun e w' => e = .returned (.string ⟨(lowS z).toArray⟩) ∧ Below w.heap.size w w' :=
  lower_any ⟨z.toArray⟩ w (by rw [mk_size]; unfold maxLen; omega) (lowS z) (by rw [mk_toList])
theorem OwnH.lenIs {w : World} {base : Nat} {A : Option Addr} {n c : Nat} {l : List Hd} (h : OwnH w base (.slice A n c) l) : l.length = n := by
  obtain ⟨A', c', e⟩ := OwnH.shape h
  injection e with _ e _
  exact e.symm
/-- what the empty line leaves -/
def EmptyP (g D : Nat) (A : Option Addr) (c : Nat) (x a p : List UInt8) (n : Int) (l : List Hd) (w : World) (e : Ending) (w' : World) : Prop :=
  Kp g w.heap.size w w' ∧ match lenP l with
    | .error E => e = .returned (.int .i64 E) ∧ E ≠ 0
    | .ok o => e = .returned (.int .i64 0) ∧ ∃ (hV : Value) (ch : Bool) (k : Nat), k ≤ 2000 ∧ o = (if ch = true then none else some k) ∧ RSt w' g D A c x a p n hV nilV ch k ∧ OwnH w' (g + 1) hV (l.filter fun h => keptN h.1)
theorem get_nil {l : List Hd} {y : List UInt8} (h : (getL l y).length = 0) : fstV (getL l y) = [] := by
  rw [List.eq_nil_of_length_eq_zero h]; rfl
def dropN : Nat → List Hd → List Hd
  | 0, l => l
  | 1, l => dropL l nCL
  | 2, l => dropL (dropL l nCL) nTE
  | _, l => dropL (dropL (dropL l nCL) nTE) nCo
theorem dropN_kept (l : List Hd) : dropN 3 l = l.filter fun h => keptN h.1 := by
  show dropL (dropL (dropL l nCL) nTE) nCo = _
  unfold dropL
  rw [List.filter_filter, List.filter_filter]
  refine List.filter_congr fun h _ => ?_
  unfold keptN
  cases alikeS h.1 nCL <;> cases alikeS h.1 nTE <;> cases alikeS h.1 nCo <;> rfl
theorem dropN_sm {l : List Hd} (h : Sm l) : ∀ j, Sm (dropN j l)
  | 0 => h
  | 1 => h.filter _
  | 2 => (h.filter _).filter _
  | _ + 3 => ((h.filter _).filter _).filter _
set_option maxRecDepth 100000 in
set_option maxHeartbeats 8000000 in
theorem emptyLine_any {w : World} {g D : Nat} {A : Option Addr} {c : Nat} {x a p : List UInt8} {n : Int} {Ah : Option Addr} {hl chh : Nat} {l : List Hd} {base : Nat} (h : RSt w g D A c x a p n (.slice Ah hl chh) nilV false 0) (hO : OwnH w base (.slice Ah hl chh) l) (hgb : g < base) (h20 : l.length ≤ 20) (hok : ∀ y ∈ l, okH y = true) :
    Calls Tryz.prog 82 #[.pointer (some ⟨g, 0, none⟩)] w (EmptyP g D A c x a p n l w) := by
  have hsm := sm_ok h20 hok
  have d4 := h.c4
  have hgw := h.cs.lt
  have H := Lib.hid h
  have HO := Lib.hid hO
  have hT := fstV_len (hsm.filter fun h => alikeS h.1 nTE)
  have hC := fstV_len (hsm.filter fun h => alikeS h.1 nCL)
  have C1 := Lib.hid (get_any _ l nTE w hO.hs hsm (by decide))
  have G2 := Lib.hid fun w1 (hb : Below w.heap.size w w1) => get_any _ l nCL w1 (hO.hs.below hb) hsm (by decide)
  have G3 := fun w2 (hb : Below w.heap.size w w2) => number10_any (fstV (getL l nCL)) (Nat.le_trans hC (by decide)) w2 (h.gl.fresh hb)
  unfold numV at G3
  have G3 := Lib.hid G3
  have C4 := Lib.hid fun w => lower_anyL (fstV (getL l nTE)) hT w
  have hT0 := @get_nil l nTE
  have hC0 := @get_nil l nCL
  have hlt := fun v => @numO_lt 10 (.inl rfl) (fstV (getL l nCL)) v
  have HL : Hid (lenP l = _) := Lib.hid (by unfold lenP; exact rfl)
  have HSM := Lib.hid hsm
  have HLL := Lib.hid (hO.lenIs : l.length = hl)
  have hTl : (getL l nTE).length ≤ 20 := Nat.le_trans (List.length_filter_le _ _) h20
  have hCl : (getL l nCL).length ≤ 20 := Nat.le_trans (List.length_filter_le _ _) h20
  clear h hO hT hC hsm hok h20
  generalize getL l nTE = T at *
  generalize getL l nCL = Lc at *
  generalize fstV T = cd at *
  generalize fstV Lc = dg at *
  generalize T.length = tl at *
  generalize Lc.length = cl at *
  have tl0 : (0 : Int) ≤ tl := by omega
  have cl0 : (0 : Int) ≤ cl := by omega
  by_cases h1 : 1 < tl + cl
  · have HF := Lib.hid (show lenP l = .error 50 by rw [HL.out, if_pos h1])
    have h1z : (1 : Int) < (tl : Int) + (cl : Int) := by omega
    clear HL
    go_enter Tryz.func82, Tryz.ntmps82
    go_wp2_with fail
    go_at_call 32
    refine C1.out.mono ?_
    rintro e w1 ⟨rfl, hb1⟩
    have B1 := Lib.hid hb1
    have d14 := (H.out.fresh hb1).c4
    have C2 := Lib.hid (G2.out w1 hb1)
    clear hb1 C1
    go_wp2_with fail
    go_at_call 32
    refine C2.out.mono ?_
    rintro e w2 ⟨rfl, hb2⟩
    have B2 := Lib.hid (Below.and B1.out hb2)
    have C3 := Lib.hid (G3.out w2 B2.out)
    clear hb2 C2
    go_wp2_with fail
    go_at_call 96
    refine C3.out.mono ?_
    rintro e w3 ⟨rfl, hb3⟩
    have B3 := Lib.hid (Below.and B2.out hb3)
    clear hb3 C3
    go_wp2_with fail
    go_ret
    unfold EmptyP
    rw [HF.out]
    exact ⟨kp_fresh (Nat.le_refl _) B3.out, rfl, by decide⟩
  · have h1z : ¬ (1 : Int) < (tl : Int) + (cl : Int) := by omega
    by_cases h2 : tl = 1
    · subst h2
      have hc0 : cl = 0 := by omega
      subst hc0
      have hd0 := hC0 rfl
      subst hd0
      have G3 : Hid (∀ w2, Below w.heap.size w w2 → Calls Tryz.prog 96 #[.string ⟨#[]⟩, .int .i64 10] w2 fun e w' => e = .returned (.tuple #[.int .i64 0, .bool false]) ∧ Below w2.heap.size w2 w') := G3
      by_cases h3 : lowS cd = sChunked
      · have HF := Lib.hid (show lenP l = .ok none by rw [HL.out, h3]; rfl)
        rw [h3] at C4
        have C4 : Hid (∀ w, Calls Tryz.prog 91 #[.string ⟨cd.toArray⟩] w fun e w' => e = .returned (.string ⟨#[99, 104, 117, 110, 107, 101, 100]⟩) ∧ Below w.heap.size w w') := C4
        clear HL h1 h3 hT0 hC0 hlt h1z hTl hCl tl0 cl0
        go_enter Tryz.func82, Tryz.ntmps82
        go_wp2_with fail
        go_at_call 32
        refine C1.out.mono ?_
        rintro e w1 ⟨rfl, hb1⟩
        have B1 := Lib.hid hb1
        have d14 := (H.out.fresh hb1).c4
        have C2 := Lib.hid (G2.out w1 hb1)
        clear hb1 C1
        go_wp2_with fail
        go_at_call 32
        refine C2.out.mono ?_
        rintro e w2 ⟨rfl, hb2⟩
        have B2 := Lib.hid (Below.and B1.out hb2)
        have C3 := Lib.hid (G3.out w2 B2.out)
        clear hb2 C2
        go_wp2_with fail
        go_at_call 96
        refine C3.out.mono ?_
        rintro e w3 ⟨rfl, hb3⟩
        have B3 := Lib.hid (Below.and B2.out hb3)
        clear hb3 C3
        go_wp2_with fail
        go_at_call 91
        refine (C4.out w3).mono ?_
        rintro e w4 ⟨rfl, hb4⟩
        have B4 := Lib.hid (Below.and B3.out hb4)
        clear hb4
        have HKL := Lib.hid (show 0 ≤ 2000 by omega)
        have HR4 := Lib.hid (H.out.fresh B4.out)
        have d46 := HR4.out.c6
        have d47 := HR4.out.c7
        have f46 := HR4.out.f 6 (by decide)
        have f47 := HR4.out.f 7 (by decide)
        have HO4 := Lib.hid (OwnH.below HO.out B4.out)
        have HR6 := Lib.hid ((HR4.out.set6 true).set7 0)
        have HO6 := Lib.hid ((OwnH.kept HO4.out hgb (kp_set w4 6 (.bool true))).kept hgb (kp_set _ 7 (.int .i64 0)))
        have HK6 := Lib.hid ((kp_fresh (g := g) (Nat.le_refl _) B4.out).trans ((kp_set w4 6 (.bool true)).trans (kp_set _ 7 (.int .i64 0))))
        have g0 : _ = some (Value.string ⟨nCL.toArray⟩) := HR6.out.gl.e0
        have g1 : _ = some (Value.string ⟨nTE.toArray⟩) := HR6.out.gl.e1
        have g2 : _ = some (Value.string ⟨nCo.toArray⟩) := HR6.out.gl.e2
        go_upto_region 13 with fail
        generalize (w4.setCell ⟨g, 6, none⟩ (.bool true)).setCell ⟨g, 7, none⟩ (.int .i64 0) = w6 at *
        go_wp2_with fail
        clear g0 g1 g2
        go_loopg [67] 3 (fun f i wr => ∃ (j : Nat) (A1 : Option Addr) (c1 : Nat) (L : List Hd), i = .int .i64 j ∧ f + j = 3 ∧ Hid (RSt wr g D A c x a p n (.slice A1 L.length c1) nilV true 0 ∧ OwnH wr (g + 1) (.slice A1 L.length c1) L ∧ Kp g w.heap.size w wr ∧ L = dropN j l))
        case atStart => exact ⟨0, Ah, chh, l, rfl, rfl, ⟨HLL.out ▸ HR6.out, HLL.out ▸ HO6.out.up hgb rfl, HK6.out, rfl⟩⟩
        case round =>
          obtain ⟨j, A1, c1, L, rfl, hfj, HI⟩ := hrel
          obtain ⟨hR, hO1, hK1, rfl⟩ := HI.out
          have HR := Lib.hid hR
          have HO1 := Lib.hid hO1
          have HK1 := Lib.hid hK1
          have d4 := hR.c4
          have f4 := hR.f 4 (by decide)
          cases gk with
          | zero =>
            obtain rfl : j = 3 := by omega
            clear HI hR hO1 hK1 d4 f4
            go_wp2_with fail
            go_ret
            unfold EmptyP
            rw [HF.out]
            exact ⟨HK1.out, rfl, _, true, 0, HKL.out, rfl, HR.out, by rw [← dropN_kept]; exact HO1.out⟩
          | succ f =>
            have hbw : g + 1 ≤ wr.heap.size := hR.cs.lt
            have CD := Lib.hid fun y (hy : y.length ≤ 1000) => drop_any _ _ y wr hO1.hs (dropN_sm HSM.out j) hy
            clear HI hR hO1 hK1
            have i0 : ∀ w, (Instr.index 51 (.agg #[.string ⟨nCL.toArray⟩, .string ⟨nTE.toArray⟩, .string ⟨nCo.toArray⟩]) (.int .i64 0)).run Tryz.prog w = .ok (.string ⟨nCL.toArray⟩) w := fun _ => by kernel_rfl
            have i1 : ∀ w, (Instr.index 51 (.agg #[.string ⟨nCL.toArray⟩, .string ⟨nTE.toArray⟩, .string ⟨nCo.toArray⟩]) (.int .i64 1)).run Tryz.prog w = .ok (.string ⟨nTE.toArray⟩) w := fun _ => by kernel_rfl
            have i2 : ∀ w, (Instr.index 51 (.agg #[.string ⟨nCL.toArray⟩, .string ⟨nTE.toArray⟩, .string ⟨nCo.toArray⟩]) (.int .i64 2)).run Tryz.prog w = .ok (.string ⟨nCo.toArray⟩) w := fun _ => by kernel_rfl
            rcases (show j = 0 ∨ j = 1 ∨ j = 2 by omega) with rfl | rfl | rfl
            all_goals
              go_wp2_with fail
              go_at_call 97
              refine (CD.out _ (by decide)).mono ?_
              rintro e w7 ⟨u, rfl, hu, hb7⟩
              obtain ⟨A7, c7, rfl⟩ := OwnH.shape hu
              have HR7 := Lib.hid (HR.out.fresh hb7)
              have HO7 := Lib.hid (hu.up hbw rfl)
              have HK7 := Lib.hid (HK1.out.trans (kp_fresh (g := g) HK1.out.size hb7))
              have q4 := HR7.out.c4
              have r4 := HR7.out.f 4 (by decide)
              clear hu hb7
              go_wp2_with fail
              go_roundg f
              case measure => omega
              case rel => exact ⟨_, A7, c7, _, by first | rfl | go_num, by omega, ⟨HR7.out.set4 _, OwnH.kept HO7.out (Nat.lt_succ_self g) (kp_set _ 4 _), HK7.out.trans (kp_set _ 4 _), rfl⟩⟩
      · have HF := Lib.hid (show lenP l = .error 50 by rw [HL.out, if_neg (by decide), if_pos ⟨rfl, h3⟩])
        have hne : ¬ (lowS cd = [99, 104, 117, 110, 107, 101, 100]) := h3
        have HNE : Hid ((lowS cd == [99, 104, 117, 110, 107, 101, 100]) = false) := by show _ = _; rw [beq_eq_false_iff_ne]; exact hne
        clear HL h1 h3 hT0 hC0 hlt h1z hTl hCl tl0 cl0 hne
        generalize lowS cd = lo at *
        have hne := HNE.out
        go_enter Tryz.func82, Tryz.ntmps82
        go_wp2_with fail
        go_at_call 32
        refine C1.out.mono ?_
        rintro e w1 ⟨rfl, hb1⟩
        have B1 := Lib.hid hb1
        have d14 := (H.out.fresh hb1).c4
        have C2 := Lib.hid (G2.out w1 hb1)
        clear hb1 C1
        go_wp2_with fail
        go_at_call 32
        refine C2.out.mono ?_
        rintro e w2 ⟨rfl, hb2⟩
        have B2 := Lib.hid (Below.and B1.out hb2)
        have C3 := Lib.hid (G3.out w2 B2.out)
        clear hb2 C2
        go_wp2_with fail
        go_at_call 96
        refine C3.out.mono ?_
        rintro e w3 ⟨rfl, hb3⟩
        have B3 := Lib.hid (Below.and B2.out hb3)
        clear hb3 C3
        go_wp2_with fail
        go_at_call 91
        refine (C4.out w3).mono ?_
        rintro e w4 ⟨rfl, hb4⟩
        have B4 := Lib.hid (Below.and B3.out hb4)
        clear hb4
        go_wp2_with fail
        go_ret
        unfold EmptyP
        rw [HF.out]
        exact ⟨kp_fresh (Nat.le_refl _) B4.out, rfl, by decide⟩
    · have htl : tl = 0 := by omega
      subst htl
      have hcz : cl = 1 ∨ cl = 0 := by omega
      by_cases h3 : cl = 1
      · subst h3
        cases ho : numO 10 dg with
        | none =>
          rw [ho] at HL G3
          have HF := Lib.hid (show lenP l = .error 50 from HL.out)
          have G3 : Hid (∀ w2, Below w.heap.size w w2 → Calls Tryz.prog 96 #[.string ⟨dg.toArray⟩, .int .i64 10] w2 fun e w' => e = .returned (.tuple #[.int .i64 0, .bool false]) ∧ Below w2.heap.size w2 w') := G3
          clear HL h1 h2 hT0 hC0 hlt ho hcz h1z hTl hCl tl0 cl0
          go_enter Tryz.func82, Tryz.ntmps82
          go_wp2_with fail
          go_at_call 32
          refine C1.out.mono ?_
          rintro e w1 ⟨rfl, hb1⟩
          have B1 := Lib.hid hb1
          have d14 := (H.out.fresh hb1).c4
          have C2 := Lib.hid (G2.out w1 hb1)
          clear hb1 C1
          go_wp2_with fail
          go_at_call 32
          refine C2.out.mono ?_
          rintro e w2 ⟨rfl, hb2⟩
          have B2 := Lib.hid (Below.and B1.out hb2)
          have C3 := Lib.hid (G3.out w2 B2.out)
          clear hb2 C2
          go_wp2_with fail
          go_at_call 96
          refine C3.out.mono ?_
          rintro e w3 ⟨rfl, hb3⟩
          have B3 := Lib.hid (Below.and B2.out hb3)
          clear hb3 C3
          go_wp2_with fail
          go_ret
          unfold EmptyP
          rw [HF.out]
          exact ⟨kp_fresh (Nat.le_refl _) B3.out, rfl, by decide⟩
        | some v =>
          have hv := hlt v ho
          rw [ho] at HL G3
          have HL : Hid (lenP l = if 2000 < v then .error 5 else .ok (some v)) := HL
          have G3 : Hid (∀ w2, Below w.heap.size w w2 → Calls Tryz.prog 96 #[.string ⟨dg.toArray⟩, .int .i64 10] w2 fun e w' => e = .returned (.tuple #[.int .i64 v, .bool true]) ∧ Below w2.heap.size w2 w') := G3
          clear h1 h2 hT0 hC0 hlt ho hcz h1z hTl hCl tl0 cl0
          by_cases h5 : 2000 < v
          · have HF := Lib.hid (show lenP l = .error 5 by rw [HL.out, if_pos h5])
            have h5z : (2000 : Int) < (v : Int) := by omega
            clear HL h5
            go_enter Tryz.func82, Tryz.ntmps82
            go_wp2_with fail
            go_at_call 32
            refine C1.out.mono ?_
            rintro e w1 ⟨rfl, hb1⟩
            have B1 := Lib.hid hb1
            have d14 := (H.out.fresh hb1).c4
            have C2 := Lib.hid (G2.out w1 hb1)
            clear hb1 C1
            go_wp2_with fail
            go_at_call 32
            refine C2.out.mono ?_
            rintro e w2 ⟨rfl, hb2⟩
            have B2 := Lib.hid (Below.and B1.out hb2)
            have C3 := Lib.hid (G3.out w2 B2.out)
            clear hb2 C2
            go_wp2_with fail
            go_at_call 96
            refine C3.out.mono ?_
            rintro e w3 ⟨rfl, hb3⟩
            have B3 := Lib.hid (Below.and B2.out hb3)
            clear hb3 C3
            go_wp2_with fail
            go_ret
            unfold EmptyP
            rw [HF.out]
            exact ⟨kp_fresh (Nat.le_refl _) B3.out, rfl, by decide⟩
          · have HF := Lib.hid (show lenP l = .ok (some v) by rw [HL.out, if_neg h5])
            have h5z : ¬ (2000 : Int) < (v : Int) := by omega
            clear HL h5
            go_enter Tryz.func82, Tryz.ntmps82
            go_wp2_with fail
            go_at_call 32
            refine C1.out.mono ?_
            rintro e w1 ⟨rfl, hb1⟩
            have B1 := Lib.hid hb1
            have d14 := (H.out.fresh hb1).c4
            have C2 := Lib.hid (G2.out w1 hb1)
            clear hb1 C1
            go_wp2_with fail
            go_at_call 32
            refine C2.out.mono ?_
            rintro e w2 ⟨rfl, hb2⟩
            have B2 := Lib.hid (Below.and B1.out hb2)
            have C3 := Lib.hid (G3.out w2 B2.out)
            clear hb2 C2
            go_wp2_with fail
            go_at_call 96
            refine C3.out.mono ?_
            rintro e w3 ⟨rfl, hb3⟩
            have B3 := Lib.hid (Below.and B2.out hb3)
            clear hb3 C3
            have HKL := Lib.hid (show v ≤ 2000 by omega)
            have HR4 := Lib.hid (H.out.fresh B3.out)
            have d46 := HR4.out.c6
            have d47 := HR4.out.c7
            have f46 := HR4.out.f 6 (by decide)
            have f47 := HR4.out.f 7 (by decide)
            have HO4 := Lib.hid (OwnH.below HO.out B3.out)
            have HR6 := Lib.hid ((HR4.out.set6 false).set7 v)
            have HO6 := Lib.hid ((OwnH.kept HO4.out hgb (kp_set w3 6 (.bool false))).kept hgb (kp_set _ 7 (.int .i64 v)))
            have HK6 := Lib.hid ((kp_fresh (g := g) (Nat.le_refl _) B3.out).trans ((kp_set w3 6 (.bool false)).trans (kp_set _ 7 (.int .i64 v))))
            have g0 : _ = some (Value.string ⟨nCL.toArray⟩) := HR6.out.gl.e0
            have g1 : _ = some (Value.string ⟨nTE.toArray⟩) := HR6.out.gl.e1
            have g2 : _ = some (Value.string ⟨nCo.toArray⟩) := HR6.out.gl.e2
            go_upto_region 13 with fail
            generalize (w3.setCell ⟨g, 6, none⟩ (.bool false)).setCell ⟨g, 7, none⟩ (.int .i64 v) = w6 at *
            go_wp2_with fail
            clear g0 g1 g2
            go_loopg [67] 3 (fun f i wr => ∃ (j : Nat) (A1 : Option Addr) (c1 : Nat) (L : List Hd), i = .int .i64 j ∧ f + j = 3 ∧ Hid (RSt wr g D A c x a p n (.slice A1 L.length c1) nilV false v ∧ OwnH wr (g + 1) (.slice A1 L.length c1) L ∧ Kp g w.heap.size w wr ∧ L = dropN j l))
            case atStart => exact ⟨0, Ah, chh, l, rfl, rfl, ⟨HLL.out ▸ HR6.out, HLL.out ▸ HO6.out.up hgb rfl, HK6.out, rfl⟩⟩
            case round =>
              obtain ⟨j, A1, c1, L, rfl, hfj, HI⟩ := hrel
              obtain ⟨hR, hO1, hK1, rfl⟩ := HI.out
              have HR := Lib.hid hR
              have HO1 := Lib.hid hO1
              have HK1 := Lib.hid hK1
              have d4 := hR.c4
              have f4 := hR.f 4 (by decide)
              cases gk with
              | zero =>
                obtain rfl : j = 3 := by omega
                clear HI hR hO1 hK1 d4 f4
                go_wp2_with fail
                go_ret
                unfold EmptyP
                rw [HF.out]
                exact ⟨HK1.out, rfl, _, false, v, HKL.out, rfl, HR.out, by rw [← dropN_kept]; exact HO1.out⟩
              | succ f =>
                have hbw : g + 1 ≤ wr.heap.size := hR.cs.lt
                have CD := Lib.hid fun y (hy : y.length ≤ 1000) => drop_any _ _ y wr hO1.hs (dropN_sm HSM.out j) hy
                clear HI hR hO1 hK1
                have i0 : ∀ w, (Instr.index 51 (.agg #[.string ⟨nCL.toArray⟩, .string ⟨nTE.toArray⟩, .string ⟨nCo.toArray⟩]) (.int .i64 0)).run Tryz.prog w = .ok (.string ⟨nCL.toArray⟩) w := fun _ => by kernel_rfl
                have i1 : ∀ w, (Instr.index 51 (.agg #[.string ⟨nCL.toArray⟩, .string ⟨nTE.toArray⟩, .string ⟨nCo.toArray⟩]) (.int .i64 1)).run Tryz.prog w = .ok (.string ⟨nTE.toArray⟩) w := fun _ => by kernel_rfl
                have i2 : ∀ w, (Instr.index 51 (.agg #[.string ⟨nCL.toArray⟩, .string ⟨nTE.toArray⟩, .string ⟨nCo.toArray⟩]) (.int .i64 2)).run Tryz.prog w = .ok (.string ⟨nCo.toArray⟩) w := fun _ => by kernel_rfl
                rcases (show j = 0 ∨ j = 1 ∨ j = 2 by omega) with rfl | rfl | rfl
                all_goals
                  go_wp2_with fail
                  go_at_call 97
                  refine (CD.out _ (by decide)).mono ?_
                  rintro e w7 ⟨u, rfl, hu, hb7⟩
                  obtain ⟨A7, c7, rfl⟩ := OwnH.shape hu
                  have HR7 := Lib.hid (HR.out.fresh hb7)
                  have HO7 := Lib.hid (hu.up hbw rfl)
                  have HK7 := Lib.hid (HK1.out.trans (kp_fresh (g := g) HK1.out.size hb7))
                  have q4 := HR7.out.c4
                  have r4 := HR7.out.f 4 (by decide)
                  clear hu hb7
                  go_wp2_with fail
                  go_roundg f
                  case measure => omega
                  case rel => exact ⟨_, A7, c7, _, by first | rfl | go_num, by omega, ⟨HR7.out.set4 _, OwnH.kept HO7.out (Nat.lt_succ_self g) (kp_set _ 4 _), HK7.out.trans (kp_set _ 4 _), rfl⟩⟩
      · have hcl : cl = 0 := by omega
        subst hcl
        have hd0 := hC0 rfl
        subst hd0
        have HF := Lib.hid (show lenP l = .ok (some 0) from HL.out)
        have G3 : Hid (∀ w2, Below w.heap.size w w2 → Calls Tryz.prog 96 #[.string ⟨#[]⟩, .int .i64 10] w2 fun e w' => e = .returned (.tuple #[.int .i64 0, .bool false]) ∧ Below w2.heap.size w2 w') := G3
        clear HL h1 h2 h3 hT0 hC0 hlt hcz h1z hTl hCl tl0 cl0
        go_enter Tryz.func82, Tryz.ntmps82
        go_wp2_with fail
        go_at_call 32
        refine C1.out.mono ?_
        rintro e w1 ⟨rfl, hb1⟩
        have B1 := Lib.hid hb1
        have d14 := (H.out.fresh hb1).c4
        have C2 := Lib.hid (G2.out w1 hb1)
        clear hb1 C1
        go_wp2_with fail
        go_at_call 32
        refine C2.out.mono ?_
        rintro e w2 ⟨rfl, hb2⟩
        have B2 := Lib.hid (Below.and B1.out hb2)
        have C3 := Lib.hid (G3.out w2 B2.out)
        clear hb2 C2
        go_wp2_with fail
        go_at_call 96
        refine C3.out.mono ?_
        rintro e w3 ⟨rfl, hb3⟩
        have B3 := Lib.hid (Below.and B2.out hb3)
        clear hb3 C3
        have HKL := Lib.hid (show 0 ≤ 2000 by omega)
        have HR4 := Lib.hid (H.out.fresh B3.out)
        have d46 := HR4.out.c6
        have d47 := HR4.out.c7
        have f46 := HR4.out.f 6 (by decide)
        have f47 := HR4.out.f 7 (by decide)
        have HO4 := Lib.hid (OwnH.below HO.out B3.out)
        have HR6 := Lib.hid ((HR4.out.set6 false).set7 0)
        have HO6 := Lib.hid ((OwnH.kept HO4.out hgb (kp_set w3 6 (.bool false))).kept hgb (kp_set _ 7 (.int .i64 0)))
        have HK6 := Lib.hid ((kp_fresh (g := g) (Nat.le_refl _) B3.out).trans ((kp_set w3 6 (.bool false)).trans (kp_set _ 7 (.int .i64 0))))
        have g0 : _ = some (Value.string ⟨nCL.toArray⟩) := HR6.out.gl.e0
        have g1 : _ = some (Value.string ⟨nTE.toArray⟩) := HR6.out.gl.e1
        have g2 : _ = some (Value.string ⟨nCo.toArray⟩) := HR6.out.gl.e2
        go_upto_region 13 with fail
        generalize (w3.setCell ⟨g, 6, none⟩ (.bool false)).setCell ⟨g, 7, none⟩ (.int .i64 0) = w6 at *
        go_wp2_with fail
        clear g0 g1 g2
        go_loopg [67] 3 (fun f i wr => ∃ (j : Nat) (A1 : Option Addr) (c1 : Nat) (L : List Hd), i = .int .i64 j ∧ f + j = 3 ∧ Hid (RSt wr g D A c x a p n (.slice A1 L.length c1) nilV false 0 ∧ OwnH wr (g + 1) (.slice A1 L.length c1) L ∧ Kp g w.heap.size w wr ∧ L = dropN j l))
        case atStart => exact ⟨0, Ah, chh, l, rfl, rfl, ⟨HLL.out ▸ HR6.out, HLL.out ▸ HO6.out.up hgb rfl, HK6.out, rfl⟩⟩
        case round =>
          obtain ⟨j, A1, c1, L, rfl, hfj, HI⟩ := hrel
          obtain ⟨hR, hO1, hK1, rfl⟩ := HI.out
          have HR := Lib.hid hR
          have HO1 := Lib.hid hO1
          have HK1 := Lib.hid hK1
          have d4 := hR.c4
          have f4 := hR.f 4 (by decide)
          cases gk with
          | zero =>
            obtain rfl : j = 3 := by omega
            clear HI hR hO1 hK1 d4 f4
            go_wp2_with fail
            go_ret
            unfold EmptyP
            rw [HF.out]
            exact ⟨HK1.out, rfl, _, false, 0, HKL.out, rfl, HR.out, by rw [← dropN_kept]; exact HO1.out⟩
          | succ f =>
            have hbw : g + 1 ≤ wr.heap.size := hR.cs.lt
            have CD := Lib.hid fun y (hy : y.length ≤ 1000) => drop_any _ _ y wr hO1.hs (dropN_sm HSM.out j) hy
            clear HI hR hO1 hK1
            have i0 : ∀ w, (Instr.index 51 (.agg #[.string ⟨nCL.toArray⟩, .string ⟨nTE.toArray⟩, .string ⟨nCo.toArray⟩]) (.int .i64 0)).run Tryz.prog w = .ok (.string ⟨nCL.toArray⟩) w := fun _ => by kernel_rfl
            have i1 : ∀ w, (Instr.index 51 (.agg #[.string ⟨nCL.toArray⟩, .string ⟨nTE.toArray⟩, .string ⟨nCo.toArray⟩]) (.int .i64 1)).run Tryz.prog w = .ok (.string ⟨nTE.toArray⟩) w := fun _ => by kernel_rfl
            have i2 : ∀ w, (Instr.index 51 (.agg #[.string ⟨nCL.toArray⟩, .string ⟨nTE.toArray⟩, .string ⟨nCo.toArray⟩]) (.int .i64 2)).run Tryz.prog w = .ok (.string ⟨nCo.toArray⟩) w := fun _ => by kernel_rfl
            rcases (show j = 0 ∨ j = 1 ∨ j = 2 by omega) with rfl | rfl | rfl
            all_goals
              go_wp2_with fail
              go_at_call 97
              refine (CD.out _ (by decide)).mono ?_
              rintro e w7 ⟨u, rfl, hu, hb7⟩
              obtain ⟨A7, c7, rfl⟩ := OwnH.shape hu
              have HR7 := Lib.hid (HR.out.fresh hb7)
              have HO7 := Lib.hid (hu.up hbw rfl)
              have HK7 := Lib.hid (HK1.out.trans (kp_fresh (g := g) HK1.out.size hb7))
              have q4 := HR7.out.c4
              have r4 := HR7.out.f 4 (by decide)
              clear hu hb7
              go_wp2_with fail
              go_roundg f
              case measure => omega
              case rel => exact ⟨_, A7, c7, _, by first | rfl | go_num, by omega, ⟨HR7.out.set4 _, OwnH.kept HO7.out (Nat.lt_succ_self g) (kp_set _ 4 _), HK7.out.trans (kp_set _ 4 _), rfl⟩⟩
end Go.Proofs.YthniggdimfldhaaGreatDoor
