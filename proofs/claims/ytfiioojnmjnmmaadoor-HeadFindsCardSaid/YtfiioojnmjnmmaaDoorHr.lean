/- works: the chapter's examples hold. -/
import Derived.Test.YtfiioojnmjnmmaaDoorHq
import Derived.Deep.DeepCutAuto
namespace Go.Proofs.YtfiioojnmjnmmaaDoor
open Go Go.RowKit

theorem sm3 : Sm [([65], [49]), ([98], [50]), ([97], [51])] := ⟨by decide, by intro h hh; simp at hh; rcases hh with rfl | rfl | rfl <;> decide⟩

abbrev L3 : List Hd := [([65], [49]), ([98], [50]), ([97], [51])]
theorem hs_made (w : World) (xs : List Hd) (n : Nat) (hn : n = xs.length) (cs : Array Value) (hc : cs = (hv xs).toArray) : Hs (w.alloc (.cells cs 28)) (.slice (some ⟨w.heap.size, 0, none⟩) n n) xs := by
  subst hn hc
  exact ⟨_, _, rfl, Nat.le_refl _, fun e => (by cases e), Rd.made w (hv xs) _⟩
theorem hs_alloc {W : World} {v : Value} {l : List Hd} (h : Hid (Hs W v l)) (o : Obj) : Hid (Hs (W.alloc o) v l) := Lib.hid (h.out.below (below_new W o))
theorem same_two (u v : Value) (L : List Hd) (W : World) (h : Hid (Hs W u L)) (k : Hid (Hs W v L)) (hl : L.length ≤ 1000) : Calls Tryd.prog 20 #[u, v] W fun e w' => e = .returned (.bool true) ∧ Below W.heap.size W w' :=
  (same_anyH u v L L W h.out k.out hl hl).mono fun _ _ ⟨h1, h2⟩ => ⟨by rw [h1, decide_eq_true rfl], h2⟩
theorem get_w : fstV (getL L3 [65]) = [49] ∧ (getL L3 [65]).length = 2 := by decide
theorem set_w : setE L3 [97] [52] = 0 ∧ setL L3 [97] [52] = [([98], [50]), ([97], [52])] := by decide
theorem drop_w : dropL L3 [66] = [([65], [49]), ([97], [51])] := by decide
theorem strip_w : stripL L3 [65] = [([98], [50])] := by decide
theorem bytes_w : chkE [([65], [49]), ([98], [])] = 0 ∧ byR [([65], [49]), ([98], [])] = [65, 58, 32, 49, 13, 10, 98, 58, 32, 13, 10] := by decide
theorem two_sm : Sm [([65], [49]), ([98], [])] := ⟨by decide, by intro h hh; simp at hh; rcases hh with rfl | rfl <;> decide⟩

theorem same_arm (W : World) (v : Value) (L xs : List Hd) (h : Hid (Hs W v L)) (hl : L.length ≤ 1000) (hx : xs.length ≤ 1000) (n : Nat) (hn : n = xs.length) (cs : Array Value) (hc : cs = (hv xs).toArray) (z : Bool) (hz : decide (L = xs) = z) :
    Calls Tryd.prog 20 #[v, .slice (some ⟨W.heap.size, 0, none⟩) n n] (W.alloc (.cells cs 28)) fun e w' => e = .returned (.bool z) ∧ Below W.heap.size W w' :=
  (same_anyH v _ L xs _ (h.out.below (below_new _ _)) (hs_made W xs n hn cs hc) hl hx).mono fun _ _ ⟨h1, h2⟩ => ⟨by rw [h1, hz], Below.and (below_new _ _) h2⟩
theorem Hs.drew {w : World} {v : Value} {l : List Hd} (h : Hs w v l) : Hs w.drew v l := h
theorem l3_cells {W : World} {g : Nat} (h : Hs W (.slice (some ⟨g, 0, none⟩) 3 3) L3) : W.cell? ⟨g, 0, none⟩ = some (.string ⟨#[65]⟩) ∧ W.cell? ⟨g, 1, none⟩ = some (.string ⟨#[49]⟩) ∧ W.cell? ⟨g, 2, none⟩ = some (.string ⟨#[98]⟩) ∧
    W.cell? ⟨g, 3, none⟩ = some (.string ⟨#[50]⟩) ∧ W.cell? ⟨g, 4, none⟩ = some (.string ⟨#[97]⟩) ∧ W.cell? ⟨g, 5, none⟩ = some (.string ⟨#[51]⟩) := by
  obtain ⟨A, c, e, _, _, hr⟩ := h
  injection e with e1 _ _
  subst e1
  have f : ∀ i (hi : i < (hv L3).length), W.cell? ⟨g, i, none⟩ = some (hv L3)[i] := fun i hi => by
    obtain ⟨b, off, e, _, hc⟩ := hr i hi
    injection e with e
    injection e with e1 e2
    subst e1 e2
    simpa using hc
  exact ⟨f 0 (by decide), f 1 (by decide), f 2 (by decide), f 3 (by decide), f 4 (by decide), f 5 (by decide)⟩

set_option maxHeartbeats 16000000 in
set_option maxRecDepth 100000 in
theorem works_any (w : World) : Calls Tryd.prog 28 #[] w fun e w' => e = .returned (.bool true) ∧ Below w.heap.size w w' := by
  have a1 := Lib.hid fun w => alike_anyL [88, 45, 67, 116, 120] [120, 45, 99, 116, 120] (by decide) (by decide) true (by decide) w
  have a2 := Lib.hid fun w => alike_anyL [97, 32, 98] [97, 32, 98] (by decide) (by decide) false (by decide) w
  have a3 := Lib.hid fun w => lower_any ⟨#[88, 45, 67, 116, 120]⟩ w (by show 5 ≤ _; unfold maxLen; omega) [120, 45, 99, 116, 120] (by decide)
  have l1 := Lib.hid fun w => lawLine_any [65, 58, 32, 49] [65] [49] w (by decide)
  have l2 := Lib.hid fun w => lawLine_any [65, 58, 9, 49, 32] [65] [49] w (by decide)
  have l3 := Lib.hid fun w => lawWrong_any [65, 32, 58, 32, 49] w (by decide)
  have l4 := Lib.hid fun w => lawWrong_any [58, 32, 49] w (by decide)
  have l5 := Lib.hid fun w => lawWrong_any [65] w (by decide)
  rw [show decide (lineP [65, 58, 32, 49] = some ([65], [49])) = true by decide] at l1
  rw [show decide (lineP [65, 58, 9, 49, 32] = some ([65], [49])) = true by decide] at l2
  rw [show (lineP [65, 32, 58, 32, 49]).isNone = true by decide] at l3
  rw [show (lineP [58, 32, 49]).isNone = true by decide] at l4
  rw [show (lineP [65]).isNone = true by decide] at l5
  go_enter Tryd.func28, Tryd.ntmps28
  go_wp2_with fail
  go_at_call 16
  refine (a1.out _).mono ?_
  rintro e w1 ⟨rfl, b1⟩
  clear a1
  go_wp2_with fail
  go_at_call 16
  refine (a2.out _).mono ?_
  rintro e w2 ⟨rfl, b2⟩
  clear a2
  have b2 := Below.and b1 b2
  clear b1
  go_wp2_with fail
  go_at_call 18
  refine (a3.out _).mono ?_
  rintro e w3 ⟨rfl, b3⟩
  clear a3
  have b3 := Below.and b2 b3
  clear b2 
  go_wp2_with fail
  refine (l1.out _).mono ?_
  rintro e w4 ⟨rfl, b4⟩
  have b4 := Below.and b3 b4
  clear b3 l1
  go_wp2_with fail
  refine (l2.out _).mono ?_
  rintro e w5 ⟨rfl, b5⟩
  have b5 := Below.and b4 b5
  clear b4 l2
  go_wp2_with fail
  refine (l3.out _).mono ?_
  rintro e w6 ⟨rfl, b6⟩
  have b6 := Below.and b5 b6
  clear b5 l3
  go_wp2_with fail
  refine (l4.out _).mono ?_
  rintro e w7 ⟨rfl, b7⟩
  have b7 := Below.and b6 b7
  clear b6 l4
  go_wp2_with fail
  refine (l5.out _).mono ?_
  rintro e w8 ⟨rfl, b8⟩
  have b8 := Below.and b7 b8
  clear b7 l5
  go_wp2_with fail
  have H9 := hs_made w8 L3 3 rfl _ rfl
  have B9 := Below.and b8 (below_new w8 (.cells (hv L3).toArray 28))
  have C9 : (hv L3).toArray = #[.string ⟨#[65]⟩, .string ⟨#[49]⟩, .string ⟨#[98]⟩, .string ⟨#[50]⟩, .string ⟨#[97]⟩, .string ⟨#[51]⟩] := rfl
  rw [C9] at H9 B9
  clear C9 b8
  generalize w8.heap.size = g at *
  generalize w8.alloc (.cells #[.string ⟨#[65]⟩, .string ⟨#[49]⟩, .string ⟨#[98]⟩, .string ⟨#[50]⟩, .string ⟨#[97]⟩, .string ⟨#[51]⟩] 28) = w9 at *
  have con := get_any _ _ [65] w9 H9 sm3 (by decide)
  rw [get_w.1, get_w.2] at con
  have B9 := Lib.hid B9
  have H9 := Lib.hid H9
  refine con.mono ?_
  rintro e w10 ⟨rfl, b10⟩
  clear con
  have H10 := H9.out.below b10
  have B10 := Lib.hid (Below.and B9.out b10)
  clear H9 B9 b10
  have con := set_any _ _ [97] [52] w10 H10 sm3 (by decide) (by decide)
  rw [set_w.1, set_w.2] at con
  have H10 := Lib.hid H10
  have con := Lib.hid con
  go_wp2_with fail
  refine con.out.mono ?_
  rintro e w11 ⟨u, rfl, hu, b11⟩
  have H11 := H10.out.below b11
  have U11 := hu.hs
  have B11 := Lib.hid (Below.and B10.out b11)
  clear H10 B10 b11 hu con
  obtain ⟨A2, c2, hue, _, _, _⟩ := id U11
  obtain rfl : u = .slice A2 2 c2 := hue
  have HL0 := Lib.hid H11
  have HL := Lib.hid H11.drew
  have HU := Lib.hid U11.drew
  have HB : Hid (Below w.heap.size w w11.drew) := below_drewN B11.out 1
  clear H11 U11 B11
  have C1 := Lib.hid fun W (h : Hid (Hs W (.slice A2 2 c2) [([98], [50]), ([97], [52])])) => same_arm W _ _ [([98], [50]), ([97], [52])] h (by decide) (by decide) 2 rfl #[.string ⟨#[98]⟩, .string ⟨#[50]⟩, .string ⟨#[97]⟩, .string ⟨#[52]⟩] rfl true (by decide)
  have C2 := Lib.hid fun W u (h : Hid (Hs W u [([65], [49]), ([97], [51])])) => same_arm W u _ [([65], [49]), ([97], [51])] h (by decide) (by decide) 2 rfl #[.string ⟨#[65]⟩, .string ⟨#[49]⟩, .string ⟨#[97]⟩, .string ⟨#[51]⟩] rfl true (by decide)
  have C3 := Lib.hid fun W u (h : Hid (Hs W u [([98], [50])])) => same_arm W u _ [([98], [50])] h (by decide) (by decide) 1 rfl #[.string ⟨#[98]⟩, .string ⟨#[50]⟩] rfl true (by decide)
  have D1 := Lib.hid fun W (h : Hid (Hs W (.slice (some ⟨g, 0, none⟩) 3 3) L3)) => drop_any _ _ [66] W h.out sm3 (by decide)
  have D2 := Lib.hid fun W (h : Hid (Hs W (.slice (some ⟨g, 0, none⟩) 3 3) L3)) => strip_any _ _ [65] W h.out sm3 (by decide)
  rw [drop_w] at D1
  rw [strip_w] at D2
  have hS := l3_cells HL.out
  go_upto_region 6 with fail
  go_cut [8] from 47 to 84 (fun u wx => u = .bool true ∧ Hid (Below w.heap.size w wx))
  case first =>
    go_wp2_with fail
    go_region_held3 (fun w' => w'.cell? ⟨g, 0, none⟩ = some (.string ⟨#[65]⟩) ∧ w'.cell? ⟨g, 1, none⟩ = some (.string ⟨#[49]⟩) ∧ w'.cell? ⟨g, 2, none⟩ = some (.string ⟨#[98]⟩) ∧ w'.cell? ⟨g, 3, none⟩ = some (.string ⟨#[50]⟩) ∧ w'.cell? ⟨g, 4, none⟩ = some (.string ⟨#[97]⟩) ∧ w'.cell? ⟨g, 5, none⟩ = some (.string ⟨#[51]⟩))
      (first | exact l3_cells (Hid.out (by assumption)) | exact l3_cells (Hs.drew (Hs.below (Hid.out (by assumption)) (below_new _ _))) | exact l3_cells (Hs.below (Hid.out (by assumption)) (below_new _ _)))
      ((first
        | (go_at_call 20; have hq1 := HUd; have hq2 := HVd; refine Calls.mono (same_two _ _ _ _ hq1 hq2 (by decide)) ?_; rintro e we ⟨rfl, hbe⟩; have HLe := Lib.hid (Hs.below (v := .slice (some ⟨g, 0, none⟩) 3 3) (l := L3) (Hid.out (by assumption)) hbe); have HBe := Lib.hid (below_next (B := w.heap.size) (a := w) (Hid.out (by assumption)) (Nat.le_refl _) hbe))
        | (go_at_call 20; have hq3 := HUd; with_reducible refine Calls.mono (C3.out _ _ hq3) ?_; rintro e we ⟨rfl, hbe⟩; have HLe := Lib.hid (Hs.below (v := .slice (some ⟨g, 0, none⟩) 3 3) (l := L3) (Hid.out (by assumption)) hbe); have HBe := Lib.hid (below_next (B := w.heap.size) (a := w) (Hid.out (by assumption)) (Nat.le_refl _) hbe))
        | (go_at_call 24; refine Calls.mono (D2.out _ (by assumption)) ?_; rintro e wd ⟨ud, rfl, hud, hbd⟩; have HLd := Lib.hid (Hs.below (v := .slice (some ⟨g, 0, none⟩) 3 3) (l := L3) (Hid.out (by assumption)) hbd); have HBd := Lib.hid (below_next (B := w.heap.size) (a := w) (Hid.out (by assumption)) (Nat.le_refl _) hbd); have HUd := Lib.hid hud.hs)
        | (go_at_call 24; refine Calls.mono (D2.out _ (hs_alloc (by assumption) _)) ?_; rintro e wd ⟨ud, rfl, hud, hbd⟩; have HLd := Lib.hid (Hs.below (v := .slice (some ⟨g, 0, none⟩) 3 3) (l := L3) (Hid.out (hs_alloc (by assumption) _)) hbd); have HBd := Lib.hid (below_next (B := w.heap.size) (a := w) (Hid.out (by assumption)) (Nat.le_refl _) (Below.and (below_new _ _) hbd)); have HVd := Lib.hid (Hs.below (hs_made _ [([98], [50])] 1 rfl _ rfl) hbd); have HUd := Lib.hid hud.hs)
        | (go_at_call 20; have hq1 := HUb; have hq2 := HVb; refine Calls.mono (same_two _ _ _ _ hq1 hq2 (by decide)) ?_; rintro e wc ⟨rfl, hbc⟩; have HLc := Lib.hid (Hs.below (v := .slice (some ⟨g, 0, none⟩) 3 3) (l := L3) (Hid.out (by assumption)) hbc); have HBc := Lib.hid (below_next (B := w.heap.size) (a := w) (Hid.out (by assumption)) (Nat.le_refl _) hbc))
        | (go_at_call 20; have hq2 := HUb; with_reducible refine Calls.mono (C2.out _ _ hq2) ?_; rintro e wc ⟨rfl, hbc⟩; have HLc := Lib.hid (Hs.below (v := .slice (some ⟨g, 0, none⟩) 3 3) (l := L3) (Hid.out (by assumption)) hbc); have HBc := Lib.hid (below_next (B := w.heap.size) (a := w) (Hid.out (by assumption)) (Nat.le_refl _) hbc))
        | (go_at_call 23; refine Calls.mono (D1.out _ (by assumption)) ?_; rintro e wb ⟨ub, rfl, hub, hbb⟩; have HLb := Lib.hid (Hs.below (v := .slice (some ⟨g, 0, none⟩) 3 3) (l := L3) (Hid.out (by assumption)) hbb); have HBb := Lib.hid (below_next (B := w.heap.size) (a := w) (Hid.out (by assumption)) (Nat.le_refl _) hbb); have HUb := Lib.hid hub.hs)
        | (go_at_call 23; refine Calls.mono (D1.out _ (hs_alloc (by assumption) _)) ?_; rintro e wb ⟨ub, rfl, hub, hbb⟩; have HLb := Lib.hid (Hs.below (v := .slice (some ⟨g, 0, none⟩) 3 3) (l := L3) (Hid.out (hs_alloc (by assumption) _)) hbb); have HBb := Lib.hid (below_next (B := w.heap.size) (a := w) (Hid.out (by assumption)) (Nat.le_refl _) (Below.and (below_new _ _) hbb)); have HVb := Lib.hid (Hs.below (hs_made _ [([65], [49]), ([97], [51])] 2 rfl _ rfl) hbb); have HUb := Lib.hid hub.hs)
        | (go_at_call 20; skip; with_reducible refine Calls.mono (C1.out _ (by assumption)) ?_; rintro e wa ⟨rfl, hba⟩; have HLa := Lib.hid (Hs.below (v := .slice (some ⟨g, 0, none⟩) 3 3) (l := L3) (Hid.out (by assumption)) hba); have HBa := Lib.hid (below_next (B := w.heap.size) (a := w) (Hid.out (by assumption)) (Nat.le_refl _) hba))))
    all_goals (go_wp2_with fail; go_meet; case rel => exact ⟨rfl, by assumption⟩)
  case rest =>
    obtain ⟨rfl, HB2⟩ := hcut
    clear hS HL HL0 HU HB C1 C2 C3 D1 D2
    have CB := Lib.hid fun wq => bytes_any _ _ _ (hs_made wq [([65], [49]), ([98], [])] 2 rfl #[.string ⟨#[65]⟩, .string ⟨#[49]⟩, .string ⟨#[98]⟩, .string ⟨#[]⟩] rfl) two_sm
    rw [bytes_w.1, bytes_w.2] at CB
    go_wp2_with fail
    refine Calls.mono (CB.out _) ?_
    rintro e w12 ⟨ub, rfl, hub, hb12⟩
    have cv := hub.conv
    have HB3 := Lib.hid (below_next HB2.out (Nat.le_refl _) (Below.and (below_new _ _) hb12))
    clear CB HB2 hub hb12
    go_wp2_with fail
    go_ret
    exact ⟨ret_bool rfl, HB3.out⟩
end Go.Proofs.YtfiioojnmjnmmaaDoor
