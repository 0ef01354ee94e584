/- The program: first lines. -/
import Derived.Test.YthniggdimfldhaaGreatDoorNe
import Derived.Test.YthniggdimfldhaaGreatDoorNf
import Derived.Laws.ResultCell
namespace Go.Proofs.YthniggdimfldhaaGreatDoor
open Go Go.RowKit

/-! A message in memory: five cells. -/
def msgV (a p : List UInt8) (n : Int) (hV bV : Value) : Value := .agg #[.string ⟨a.toArray⟩, .string ⟨p.toArray⟩, .int .i64 n, hV, bV]
abbrev nilV : Value := .slice none 0 0
def msg0 : Value := .agg #[.string ⟨#[]⟩, .string ⟨#[]⟩, .int .i64 0, .slice none 0 0, .slice none 0 0]
theorem Cs.c {w : World} {g : Nat} {l : List Value} (h : Cs w g l) (j : Nat) (hj : j < l.length) : w.cell? ⟨g, j, none⟩ = some l[j] := by rw [h.cell j hj, List.getElem?_eq_getElem]
theorem Cs.new (w : World) (l : List Value) (t : TypeId) : Cs (w.alloc (.cells l.toArray t)) w.heap.size l := ⟨by simp, fun j hj => by rw [World.cell?_alloc_at _ _ _ _ rfl]; simp, fun j _ => alloc_free w _ _ j⟩
theorem load_msg (w : World) (g o : Nat) (v0 v1 v2 v3 v4 : Value) (h0 : w.cell? ⟨g, o, none⟩ = some v0) (h1 : w.cell? ⟨g, o + 1, none⟩ = some v1) (h2 : w.cell? ⟨g, o + 2, none⟩ = some v2) (h3 : w.cell? ⟨g, o + 3, none⟩ = some v3) (h4 : w.cell? ⟨g, o + 4, none⟩ = some v4) :
    (loadVar 25 ⟨g, o, none⟩).run Tryz.prog w = .ok (.agg #[v0, v1, v2, v3, v4]) w := by
  simp [loadVar, Tryz.isAgg25, go_sem, Tryz.sizeOf25, h0, h1, h2, h3, h4, Result.andThen]
theorem results_msg {fn : Func} {p u : Tmp} (h : fn.results = #[.cell p 25, .tmp u]) (tmps : Array Value) (w : World) (g : Nat) (v0 v1 v2 v3 v4 : Value) (hp : tmps.getD p undef = .pointer (some ⟨g, 0, none⟩)) (hc : Cs w g [v0, v1, v2, v3, v4]) :
    (results fn tmps).run Tryz.prog w = .ok (.tuple #[.agg #[v0, v1, v2, v3, v4], tmps.getD u undef]) w := by
  rw [results_cell_tmp h, hp]
  simp [asAddr, Result.andThen, load_msg w g 0 v0 v1 v2 v3 v4 (hc.c 0 (by simp)) (hc.c 1 (by simp)) (hc.c 2 (by simp)) (hc.c 3 (by simp)) (hc.c 4 (by simp))]
theorem msg_set {w : World} {g : Nat} {z0 z1 z2 z3 z4 : Value} (h : Cs w g [z0, z1, z2, z3, z4]) (v0 v1 v2 v3 v4 : Value) :
    Cs (((((w.setCell ⟨g, 0, none⟩ v0).setCell ⟨g, 1, none⟩ v1).setCell ⟨g, 2, none⟩ v2).setCell ⟨g, 3, none⟩ v3).setCell ⟨g, 4, none⟩ v4) g [v0, v1, v2, v3, v4] :=
  ((((h.set 0 (by simp) v0).set 1 (by simp) v1).set 2 (by simp) v2).set 3 (by simp) v3).set 4 (by simp) v4
theorem msg_set_below {B : Nat} {w w1 : World} (hb : Below B w w1) {g : Nat} (hB : B ≤ g) (v0 v1 v2 v3 v4 : Value) :
    Below B w (((((w1.setCell ⟨g, 0, none⟩ v0).setCell ⟨g, 1, none⟩ v1).setCell ⟨g, 2, none⟩ v2).setCell ⟨g, 3, none⟩ v3).setCell ⟨g, 4, none⟩ v4) :=
  ((((hb.setCell (p := ⟨g, 0, none⟩) hB v0).setCell (p := ⟨g, 1, none⟩) hB v1).setCell (p := ⟨g, 2, none⟩) hB v2).setCell (p := ⟨g, 3, none⟩) hB v3).setCell (p := ⟨g, 4, none⟩) hB v4
/-- what a first line's reader hands back -/
def firstV : Option (List UInt8 × List UInt8 × Int) → Value
  | none => .tuple #[msg0, .bool false]
  | some (a, p, n) => .tuple #[msgV a p n nilV nilV, .bool true]
theorem cutSuffix_any (s p : List UInt8) (w : World) (hs : s.length ≤ 1000000) (z : Bool) (hz : Lib.hasSuffix s p = z) :
    Calls Tryz.prog 109 #[.string ⟨s.toArray⟩, .string ⟨p.toArray⟩] w fun e w' => e = .returned (.tuple #[.string ⟨(Lib.trimSuffix s p).toArray⟩, .bool z]) ∧ w = w' := by
  subst hz
  have := Tryz.strings_CutSuffix ⟨s.toArray⟩ ⟨p.toArray⟩ w (by rw [mk_size]; omega)
  rw [mk_toList, mk_toList] at this
  exact this.mono fun _ _ ⟨h1, h2⟩ => ⟨h1, h2.symm⟩
theorem trim_suf {s p : List UInt8} (h : Lib.hasSuffix s p = true) : Lib.trimSuffix s p = s.take (s.length - p.length) := by unfold Lib.trimSuffix; rw [if_pos h]
theorem trim_suf_le (s p : List UInt8) : (Lib.trimSuffix s p).length ≤ s.length := by unfold Lib.trimSuffix; split <;> simp
set_option maxRecDepth 100000 in
set_option maxHeartbeats 1000000 in
theorem requestOf_any (s : List UInt8) (w : World) (hs : s.length ≤ 1000000) : Calls Tryz.prog 93 #[.string ⟨s.toArray⟩] w fun e w' => e = .returned (firstV (reqP s)) ∧ Below w.heap.size w w' := by
  have C1 := Lib.hid fun w => cutB_any s 32 w hs
  have hp : (pastB 32 s).length ≤ 1000000 := Nat.le_trans (past_len _ _) hs
  have C2 := Lib.hid fun w => cutSuffix_any (pastB 32 s) [32, 72, 84, 84, 80, 47, 49, 46, 49] w hp _ rfl
  have C3 := Lib.hid fun w => isMethod_any (uptoB 32 s) w
  have C4 := Lib.hid fun w => isPath_any (Lib.trimSuffix (pastB 32 s) [32, 72, 84, 84, 80, 47, 49, 46, 49]) w (Nat.le_trans (trim_suf_le _ _) hp)
  have hcs : Cs (w.alloc (.cells #[.string ⟨#[]⟩, .string ⟨#[]⟩, .int .i64 0, .slice none 0 0, .slice none 0 0] 25)) w.heap.size [.string ⟨#[]⟩, .string ⟨#[]⟩, .int .i64 0, .slice none 0 0, .slice none 0 0] := Cs.new w _ _
  have hb0 := below_new w (.cells #[.string ⟨#[]⟩, .string ⟨#[]⟩, .int .i64 0, .slice none 0 0, .slice none 0 0] 25)
  have HCS := Lib.hid hcs
  have HB0 := Lib.hid hb0
  clear hcs hb0
  have hE : Hid (∀ m f p : Bool, Lib.hasSuffix (pastB 32 s) (32 :: ver) = f → isMeth (uptoB 32 s) = m → isPath ((pastB 32 s).take ((pastB 32 s).length - 9)) = p →
      reqP s = if f && (m && p) then some (uptoB 32 s, (pastB 32 s).take ((pastB 32 s).length - 9), 0) else none) := fun m f p h1 h2 h3 => by
    subst h1 h2 h3
    unfold reqP
    by_cases h : Lib.hasSuffix (pastB 32 s) (32 :: ver) = true ∧ isMeth (uptoB 32 s) = true ∧ isPath ((pastB 32 s).take ((pastB 32 s).length - 9)) = true
    · rw [if_pos h, h.1, h.2.1, h.2.2]; rfl
    · rw [if_neg h, if_neg (by simpa using h)]
  cases h1 : Lib.hasSuffix (pastB 32 s) [32, 72, 84, 84, 80, 47, 49, 46, 49] with
  | false =>
    have HE := Lib.hid (hE.out _ _ _ h1 rfl rfl)
    rw [h1] at C2
    clear hE h1 C3 C4
    generalize uptoB 32 s = m at *
    generalize pastB 32 s = r at *
    generalize Lib.trimSuffix r _ = t at *
    go_enter Tryz.func93, Tryz.ntmps93
    go_wp2_with fail
    generalize w.alloc (.cells #[.string ⟨#[]⟩, .string ⟨#[]⟩, .int .i64 0, .slice none 0 0, .slice none 0 0] 25) = w1 at *
    go_at_call 108
    refine (C1.out _).mono ?_
    rintro e w2 ⟨rfl, q, rfl⟩
    go_wp2_with fail
    go_at_call 109
    refine (C2.out _).mono ?_
    rintro e w2 ⟨rfl, rfl⟩
    have HC := Lib.hid (HCS.out.keep (w' := w1.drewN q) (Nat.le_refl _) rfl)
    have d0 := HC.out.c 0 (by simp)
    have d1 := HC.out.c 1 (by simp)
    have d2 := HC.out.c 2 (by simp)
    have d3 := HC.out.c 3 (by simp)
    have d4 := HC.out.c 4 (by simp)
    have f0 := HC.out.free 0 (by simp)
    have f1 := HC.out.free 1 (by simp)
    have f2 := HC.out.free 2 (by simp)
    have f3 := HC.out.free 3 (by simp)
    have f4 := HC.out.free 4 (by simp)
    go_wp2_with fail
    refine bodyPost_ret (results_msg rfl _ _ w.heap.size _ _ _ _ _ rfl (msg_set HC.out _ _ _ _ _)) rfl ?_
    rw [HE.out]
    exact ⟨rfl, msg_set_below (below_drewN HB0.out q) (Nat.le_refl _) _ _ _ _ _⟩
  | true =>
    have ht : Lib.trimSuffix (pastB 32 s) [32, 72, 84, 84, 80, 47, 49, 46, 49] = (pastB 32 s).take ((pastB 32 s).length - 9) := trim_suf h1
    rw [ht] at C2 C4
    rw [h1] at C2
    cases h2 : isMeth (uptoB 32 s) with
    | false =>
      have HE := Lib.hid (hE.out _ _ _ h1 h2 rfl)
      rw [h2] at C3
      clear hE h1 h2 C4 ht
      generalize uptoB 32 s = m at *
      generalize pastB 32 s = r at *
      generalize r.take (r.length - 9) = t at *
      go_enter Tryz.func93, Tryz.ntmps93
      go_wp2_with fail
      generalize w.alloc (.cells #[.string ⟨#[]⟩, .string ⟨#[]⟩, .int .i64 0, .slice none 0 0, .slice none 0 0] 25) = w1 at *
      go_at_call 108
      refine (C1.out _).mono ?_
      rintro e w2 ⟨rfl, q, rfl⟩
      go_wp2_with fail
      go_at_call 109
      refine (C2.out _).mono ?_
      rintro e w2 ⟨rfl, rfl⟩
      have HC := Lib.hid (HCS.out.keep (w' := w1.drewN q) (Nat.le_refl _) rfl)
      have d0 := HC.out.c 0 (by simp)
      have d1 := HC.out.c 1 (by simp)
      have d2 := HC.out.c 2 (by simp)
      have d3 := HC.out.c 3 (by simp)
      have d4 := HC.out.c 4 (by simp)
      have f0 := HC.out.free 0 (by simp)
      have f1 := HC.out.free 1 (by simp)
      have f2 := HC.out.free 2 (by simp)
      have f3 := HC.out.free 3 (by simp)
      have f4 := HC.out.free 4 (by simp)
      go_wp2_with fail
      go_at_call 56
      refine (C3.out _).mono ?_
      rintro e w2 ⟨rfl, rfl⟩
      go_wp2_with fail
      refine bodyPost_ret (results_msg rfl _ _ w.heap.size _ _ _ _ _ rfl (msg_set HC.out _ _ _ _ _)) rfl ?_
      rw [HE.out]
      exact ⟨rfl, msg_set_below (below_drewN HB0.out q) (Nat.le_refl _) _ _ _ _ _⟩
    | true =>
      rw [h2] at C3
      cases h3 : isPath ((pastB 32 s).take ((pastB 32 s).length - 9)) with
      | false =>
        have HE := Lib.hid (hE.out _ _ _ h1 h2 h3)
        rw [h3] at C4
        clear hE h1 h2 h3 ht
        generalize uptoB 32 s = m at *
        generalize pastB 32 s = r at *
        generalize r.take (r.length - 9) = t at *
        go_enter Tryz.func93, Tryz.ntmps93
        go_wp2_with fail
        generalize w.alloc (.cells #[.string ⟨#[]⟩, .string ⟨#[]⟩, .int .i64 0, .slice none 0 0, .slice none 0 0] 25) = w1 at *
        go_at_call 108
        refine (C1.out _).mono ?_
        rintro e w2 ⟨rfl, q, rfl⟩
        go_wp2_with fail
        go_at_call 109
        refine (C2.out _).mono ?_
        rintro e w2 ⟨rfl, rfl⟩
        have HC := Lib.hid (HCS.out.keep (w' := w1.drewN q) (Nat.le_refl _) rfl)
        have d0 := HC.out.c 0 (by simp)
        have d1 := HC.out.c 1 (by simp)
        have d2 := HC.out.c 2 (by simp)
        have d3 := HC.out.c 3 (by simp)
        have d4 := HC.out.c 4 (by simp)
        have f0 := HC.out.free 0 (by simp)
        have f1 := HC.out.free 1 (by simp)
        have f2 := HC.out.free 2 (by simp)
        have f3 := HC.out.free 3 (by simp)
        have f4 := HC.out.free 4 (by simp)
        go_wp2_with fail
        go_at_call 56
        refine (C3.out _).mono ?_
        rintro e w2 ⟨rfl, rfl⟩
        go_wp2_with fail
        go_at_call 57
        refine (C4.out _).mono ?_
        rintro e w2 ⟨rfl, rfl⟩
        go_wp2_with fail
        refine bodyPost_ret (results_msg rfl _ _ w.heap.size _ _ _ _ _ rfl (msg_set HC.out _ _ _ _ _)) rfl ?_
        rw [HE.out]
        exact ⟨rfl, msg_set_below (below_drewN HB0.out q) (Nat.le_refl _) _ _ _ _ _⟩
      | true =>
        have HE := Lib.hid (hE.out _ _ _ h1 h2 h3)
        rw [h3] at C4
        clear hE h1 h2 h3 ht
        generalize uptoB 32 s = m at *
        generalize pastB 32 s = r at *
        generalize r.take (r.length - 9) = t at *
        go_enter Tryz.func93, Tryz.ntmps93
        go_wp2_with fail
        generalize w.alloc (.cells #[.string ⟨#[]⟩, .string ⟨#[]⟩, .int .i64 0, .slice none 0 0, .slice none 0 0] 25) = w1 at *
        go_at_call 108
        refine (C1.out _).mono ?_
        rintro e w2 ⟨rfl, q, rfl⟩
        go_wp2_with fail
        go_at_call 109
        refine (C2.out _).mono ?_
        rintro e w2 ⟨rfl, rfl⟩
        have HC := Lib.hid (HCS.out.keep (w' := w1.drewN q) (Nat.le_refl _) rfl)
        have d0 := HC.out.c 0 (by simp)
        have d1 := HC.out.c 1 (by simp)
        have d2 := HC.out.c 2 (by simp)
        have d3 := HC.out.c 3 (by simp)
        have d4 := HC.out.c 4 (by simp)
        have f0 := HC.out.free 0 (by simp)
        have f1 := HC.out.free 1 (by simp)
        have f2 := HC.out.free 2 (by simp)
        have f3 := HC.out.free 3 (by simp)
        have f4 := HC.out.free 4 (by simp)
        go_wp2_with fail
        go_at_call 56
        refine (C3.out _).mono ?_
        rintro e w2 ⟨rfl, rfl⟩
        go_wp2_with fail
        go_at_call 57
        refine (C4.out _).mono ?_
        rintro e w2 ⟨rfl, rfl⟩
        go_wp2_with fail
        refine bodyPost_ret (results_msg rfl _ _ w.heap.size _ _ _ _ _ rfl (msg_set HC.out _ _ _ _ _)) rfl ?_
        rw [HE.out]
        exact ⟨rfl, msg_set_below (below_drewN HB0.out q) (Nat.le_refl _) _ _ _ _ _⟩
theorem cutPrefix_any (s p : List UInt8) (w : World) (z : Bool) (hz : Lib.hasPrefix s p = z) :
    Calls Tryz.prog 110 #[.string ⟨s.toArray⟩, .string ⟨p.toArray⟩] w fun e w' => e = .returned (.tuple #[.string ⟨(Lib.trimPrefix s p).toArray⟩, .bool z]) ∧ w = w' := by
  subst hz
  have := Tryz.strings_CutPrefix ⟨s.toArray⟩ ⟨p.toArray⟩ w
  rw [mk_toList, mk_toList] at this
  exact this.mono fun _ _ ⟨h1, h2⟩ => ⟨h1, h2.symm⟩
theorem trim_pre_le (s p : List UInt8) : (Lib.trimPrefix s p).length ≤ s.length := by unfold Lib.trimPrefix; split <;> simp
theorem ansP_is (s t dg ph : List UInt8) (ht : Lib.trimPrefix s [72, 84, 84, 80, 47, 49, 46, 49, 32] = t) (hd : uptoB 32 t = dg) (hp : pastB 32 t = ph) (f b c l z y : Bool) (h1 : Lib.hasPrefix s [72, 84, 84, 80, 47, 49, 46, 49, 32] = f) (h2 : hasB 32 t = b)
    (h3 : (numO 10 dg).isSome = c) (h4 : ((dg.length : Int) != 3) = l) (h5 : isSt (((numO 10 dg).getD 0 : Nat) : Int) = z) (h6 : ph.all (wiB 32 126) = y) :
    ansP s = if f && (b && (c && (!l && (z && y)))) then some ([], [], (((numO 10 dg).getD 0 : Nat) : Int)) else none := by
  unfold ansP
  cases f with
  | false => rw [if_neg (show ¬ Lib.hasPrefix s (ver ++ [32]) = true by rw [show ver ++ [32] = [72, 84, 84, 80, 47, 49, 46, 49, 32] from rfl, h1]; simp)]; rfl
  | true =>
    rw [if_pos (show Lib.hasPrefix s (ver ++ [32]) = true from h1)]
    have ht2 : s.drop 9 = t := by rw [← ht]; unfold Lib.trimPrefix; rw [if_pos h1]; rfl
    rw [ht2, hd, hp]
    cases b with
    | false => rw [if_neg (of_decide_eq_false h2)]; rfl
    | true =>
      rw [if_pos (of_decide_eq_true h2)]
      cases ho : numO 10 dg with
      | none => rw [ho] at h3; cases h3; rfl
      | some n =>
        rw [ho] at h3 h5
        cases h3
        have h5 : isSt (n : Int) = z := h5
        dsimp only
        have e3 : (dg.length = 3) ↔ l = false := by rw [← h4, bne_eq_false_iff_eq]; omega
        rw [show (ph.all vlB) = y from h6, h5]
        simp only [e3]
        cases l <;> cases z <;> cases y <;> rfl
set_option maxRecDepth 100000 in
set_option maxHeartbeats 4000000 in
theorem responseOf_any (s : List UInt8) (w : World) (hs : s.length ≤ 1000000) (hG : Gl w) : Calls Tryz.prog 94 #[.string ⟨s.toArray⟩] w fun e w' => e = .returned (firstV (ansP s)) ∧ Below w.heap.size w w' := by
  have C1 := Lib.hid fun w => cutPrefix_any s [72, 84, 84, 80, 47, 49, 46, 49, 32] w _ rfl
  have hE := Lib.hid (ansP_is s _ _ _ rfl rfl rfl)
  have htl := trim_pre_le s [72, 84, 84, 80, 47, 49, 46, 49, 32]
  generalize ht : Lib.trimPrefix s [72, 84, 84, 80, 47, 49, 46, 49, 32] = t at *
  clear ht
  have hu := upto_len 32 t
  have hpl := past_len 32 t
  have C2 := Lib.hid fun w => cutB_any t 32 w (by omega)
  have C3 := fun w hG => number10_any (uptoB 32 t) (by omega) w hG
  unfold numV at C3
  have C3 := Lib.hid C3
  have C5 := Lib.hid fun w => isStatus_any (((numO 10 (uptoB 32 t)).getD 0 : Nat) : Int) w
  have C6 := Lib.hid fun w => allWithin_any (pastB 32 t) 32 126 w (by omega) _ rfl
  have hsz := mk_size (uptoB 32 t)
  have hcs : Cs (w.alloc (.cells #[.string ⟨#[]⟩, .string ⟨#[]⟩, .int .i64 0, .slice none 0 0, .slice none 0 0] 25)) w.heap.size [.string ⟨#[]⟩, .string ⟨#[]⟩, .int .i64 0, .slice none 0 0, .slice none 0 0] := Cs.new w _ _
  have hb0 := below_new w (.cells #[.string ⟨#[]⟩, .string ⟨#[]⟩, .int .i64 0, .slice none 0 0, .slice none 0 0] 25)
  have HCS := Lib.hid hcs
  have HG := Lib.hid (hG.fresh hb0)
  have HB0 := Lib.hid hb0
  have hlt : (numO 10 (uptoB 32 t)).getD 0 < 65536 := by
    cases ho : numO 10 (uptoB 32 t) with
    | none => decide
    | some v => exact numO_lt (.inl rfl) ho
  clear hcs hb0 hu hpl htl hG
  cases q1 : (Lib.hasPrefix s [72, 84, 84, 80, 47, 49, 46, 49, 32]) with
  | false =>
    have HE := Lib.hid (hE.out _ _ _ _ _ _ q1 rfl rfl rfl rfl rfl)
    rw [q1] at C1
    clear hE q1
    generalize uptoB 32 t = dg at *
    generalize pastB 32 t = ph at *
    generalize (numO 10 dg).getD 0 = n at *
    go_enter Tryz.func94, Tryz.ntmps94
    go_wp2_with fail
    generalize w.alloc (.cells #[.string ⟨#[]⟩, .string ⟨#[]⟩, .int .i64 0, .slice none 0 0, .slice none 0 0] 25) = w1 at *
    go_at_call 110
    refine (C1.out _).mono ?_
    rintro e w2 ⟨rfl, rfl⟩
    go_wp2_with fail
    go_at_call 108
    refine (C2.out _).mono ?_
    rintro e w2 ⟨rfl, q, rfl⟩
    go_wp2_with fail
    go_at_call 96
    refine (C3.out _ (HG.out.drewN q)).mono ?_
    rintro e w3 ⟨rfl, hb3⟩
    have HC := Lib.hid (HCS.out.keep (w' := w3) hb3.size (hb3.block _ HCS.out.lt))
    have HB3 := Lib.hid (Below.trans (below_drewN HB0.out q) (hb3.mono HB0.out.size))
    clear hb3
    have d0 := HC.out.c 0 (by simp)
    have d1 := HC.out.c 1 (by simp)
    have d2 := HC.out.c 2 (by simp)
    have d3 := HC.out.c 3 (by simp)
    have d4 := HC.out.c 4 (by simp)
    have f0 := HC.out.free 0 (by simp)
    have f1 := HC.out.free 1 (by simp)
    have f2 := HC.out.free 2 (by simp)
    have f3 := HC.out.free 3 (by simp)
    have f4 := HC.out.free 4 (by simp)
    go_wp2_with fail
    refine bodyPost_ret (results_msg rfl _ _ w.heap.size _ _ _ _ _ rfl (msg_set HC.out _ _ _ _ _)) rfl ?_
    rw [HE.out]
    exact ⟨rfl, msg_set_below HB3.out (Nat.le_refl _) _ _ _ _ _⟩
  | true =>
    rw [q1] at C1
    cases q2 : (hasB 32 t) with
    | false =>
      have HE := Lib.hid (hE.out _ _ _ _ _ _ q1 q2 rfl rfl rfl rfl)
      rw [q2] at C2
      clear hE q1 q2
      generalize uptoB 32 t = dg at *
      generalize pastB 32 t = ph at *
      generalize (numO 10 dg).getD 0 = n at *
      go_enter Tryz.func94, Tryz.ntmps94
      go_wp2_with fail
      generalize w.alloc (.cells #[.string ⟨#[]⟩, .string ⟨#[]⟩, .int .i64 0, .slice none 0 0, .slice none 0 0] 25) = w1 at *
      go_at_call 110
      refine (C1.out _).mono ?_
      rintro e w2 ⟨rfl, rfl⟩
      go_wp2_with fail
      go_at_call 108
      refine (C2.out _).mono ?_
      rintro e w2 ⟨rfl, q, rfl⟩
      go_wp2_with fail
      go_at_call 96
      refine (C3.out _ (HG.out.drewN q)).mono ?_
      rintro e w3 ⟨rfl, hb3⟩
      have HC := Lib.hid (HCS.out.keep (w' := w3) hb3.size (hb3.block _ HCS.out.lt))
      have HB3 := Lib.hid (Below.trans (below_drewN HB0.out q) (hb3.mono HB0.out.size))
      clear hb3
      have d0 := HC.out.c 0 (by simp)
      have d1 := HC.out.c 1 (by simp)
      have d2 := HC.out.c 2 (by simp)
      have d3 := HC.out.c 3 (by simp)
      have d4 := HC.out.c 4 (by simp)
      have f0 := HC.out.free 0 (by simp)
      have f1 := HC.out.free 1 (by simp)
      have f2 := HC.out.free 2 (by simp)
      have f3 := HC.out.free 3 (by simp)
      have f4 := HC.out.free 4 (by simp)
      go_wp2_with fail
      refine bodyPost_ret (results_msg rfl _ _ w.heap.size _ _ _ _ _ rfl (msg_set HC.out _ _ _ _ _)) rfl ?_
      rw [HE.out]
      exact ⟨rfl, msg_set_below HB3.out (Nat.le_refl _) _ _ _ _ _⟩
    | true =>
      rw [q2] at C2
      cases q3 : ((numO 10 (uptoB 32 t)).isSome) with
      | false =>
        have HE := Lib.hid (hE.out _ _ _ _ _ _ q1 q2 q3 rfl rfl rfl)
        rw [q3] at C3
        clear hE q1 q2 q3
        generalize uptoB 32 t = dg at *
        generalize pastB 32 t = ph at *
        generalize (numO 10 dg).getD 0 = n at *
        go_enter Tryz.func94, Tryz.ntmps94
        go_wp2_with fail
        generalize w.alloc (.cells #[.string ⟨#[]⟩, .string ⟨#[]⟩, .int .i64 0, .slice none 0 0, .slice none 0 0] 25) = w1 at *
        go_at_call 110
        refine (C1.out _).mono ?_
        rintro e w2 ⟨rfl, rfl⟩
        go_wp2_with fail
        go_at_call 108
        refine (C2.out _).mono ?_
        rintro e w2 ⟨rfl, q, rfl⟩
        go_wp2_with fail
        go_at_call 96
        refine (C3.out _ (HG.out.drewN q)).mono ?_
        rintro e w3 ⟨rfl, hb3⟩
        have HC := Lib.hid (HCS.out.keep (w' := w3) hb3.size (hb3.block _ HCS.out.lt))
        have HB3 := Lib.hid (Below.trans (below_drewN HB0.out q) (hb3.mono HB0.out.size))
        clear hb3
        have d0 := HC.out.c 0 (by simp)
        have d1 := HC.out.c 1 (by simp)
        have d2 := HC.out.c 2 (by simp)
        have d3 := HC.out.c 3 (by simp)
        have d4 := HC.out.c 4 (by simp)
        have f0 := HC.out.free 0 (by simp)
        have f1 := HC.out.free 1 (by simp)
        have f2 := HC.out.free 2 (by simp)
        have f3 := HC.out.free 3 (by simp)
        have f4 := HC.out.free 4 (by simp)
        go_wp2_with fail
        refine bodyPost_ret (results_msg rfl _ _ w.heap.size _ _ _ _ _ rfl (msg_set HC.out _ _ _ _ _)) rfl ?_
        rw [HE.out]
        exact ⟨rfl, msg_set_below HB3.out (Nat.le_refl _) _ _ _ _ _⟩
      | true =>
        rw [q3] at C3
        cases q4 : (((uptoB 32 t).length : Int) != 3) with
        | true =>
          have HE := Lib.hid (hE.out _ _ _ _ _ _ q1 q2 q3 q4 rfl rfl)
          clear hE q1 q2 q3
          generalize uptoB 32 t = dg at *
          generalize pastB 32 t = ph at *
          generalize (numO 10 dg).getD 0 = n at *
          go_enter Tryz.func94, Tryz.ntmps94
          go_wp2_with fail
          generalize w.alloc (.cells #[.string ⟨#[]⟩, .string ⟨#[]⟩, .int .i64 0, .slice none 0 0, .slice none 0 0] 25) = w1 at *
          go_at_call 110
          refine (C1.out _).mono ?_
          rintro e w2 ⟨rfl, rfl⟩
          go_wp2_with fail
          go_at_call 108
          refine (C2.out _).mono ?_
          rintro e w2 ⟨rfl, q, rfl⟩
          go_wp2_with fail
          go_at_call 96
          refine (C3.out _ (HG.out.drewN q)).mono ?_
          rintro e w3 ⟨rfl, hb3⟩
          have HC := Lib.hid (HCS.out.keep (w' := w3) hb3.size (hb3.block _ HCS.out.lt))
          have HB3 := Lib.hid (Below.trans (below_drewN HB0.out q) (hb3.mono HB0.out.size))
          clear hb3
          have d0 := HC.out.c 0 (by simp)
          have d1 := HC.out.c 1 (by simp)
          have d2 := HC.out.c 2 (by simp)
          have d3 := HC.out.c 3 (by simp)
          have d4 := HC.out.c 4 (by simp)
          have f0 := HC.out.free 0 (by simp)
          have f1 := HC.out.free 1 (by simp)
          have f2 := HC.out.free 2 (by simp)
          have f3 := HC.out.free 3 (by simp)
          have f4 := HC.out.free 4 (by simp)
          go_wp2_with fail
          refine bodyPost_ret (results_msg rfl _ _ w.heap.size _ _ _ _ _ rfl (msg_set HC.out _ _ _ _ _)) rfl ?_
          rw [HE.out]
          exact ⟨rfl, msg_set_below HB3.out (Nat.le_refl _) _ _ _ _ _⟩
        | false =>
          cases q5 : (isSt (((numO 10 (uptoB 32 t)).getD 0 : Nat) : Int)) with
          | false =>
            have HE := Lib.hid (hE.out _ _ _ _ _ _ q1 q2 q3 q4 q5 rfl)
            rw [q5] at C5
            clear hE q1 q2 q3 q5
            generalize uptoB 32 t = dg at *
            generalize pastB 32 t = ph at *
            generalize (numO 10 dg).getD 0 = n at *
            go_enter Tryz.func94, Tryz.ntmps94
            go_wp2_with fail
            generalize w.alloc (.cells #[.string ⟨#[]⟩, .string ⟨#[]⟩, .int .i64 0, .slice none 0 0, .slice none 0 0] 25) = w1 at *
            go_at_call 110
            refine (C1.out _).mono ?_
            rintro e w2 ⟨rfl, rfl⟩
            go_wp2_with fail
            go_at_call 108
            refine (C2.out _).mono ?_
            rintro e w2 ⟨rfl, q, rfl⟩
            go_wp2_with fail
            go_at_call 96
            refine (C3.out _ (HG.out.drewN q)).mono ?_
            rintro e w3 ⟨rfl, hb3⟩
            have HC := Lib.hid (HCS.out.keep (w' := w3) hb3.size (hb3.block _ HCS.out.lt))
            have HB3 := Lib.hid (Below.trans (below_drewN HB0.out q) (hb3.mono HB0.out.size))
            clear hb3
            have d0 := HC.out.c 0 (by simp)
            have d1 := HC.out.c 1 (by simp)
            have d2 := HC.out.c 2 (by simp)
            have d3 := HC.out.c 3 (by simp)
            have d4 := HC.out.c 4 (by simp)
            have f0 := HC.out.free 0 (by simp)
            have f1 := HC.out.free 1 (by simp)
            have f2 := HC.out.free 2 (by simp)
            have f3 := HC.out.free 3 (by simp)
            have f4 := HC.out.free 4 (by simp)
            go_wp2_with fail
            go_at_call 46
            refine (C5.out _).mono ?_
            rintro e w2 ⟨rfl, rfl⟩
            go_wp2_with fail
            refine bodyPost_ret (results_msg rfl _ _ w.heap.size _ _ _ _ _ rfl (msg_set HC.out _ _ _ _ _)) rfl ?_
            rw [HE.out]
            exact ⟨rfl, msg_set_below HB3.out (Nat.le_refl _) _ _ _ _ _⟩
          | true =>
            rw [q5] at C5
            cases q6 : ((pastB 32 t).all (wiB 32 126)) with
            | false =>
              have HE := Lib.hid (hE.out _ _ _ _ _ _ q1 q2 q3 q4 q5 q6)
              rw [q6] at C6
              clear hE q1 q2 q3 q5 q6
              generalize uptoB 32 t = dg at *
              generalize pastB 32 t = ph at *
              generalize (numO 10 dg).getD 0 = n at *
              go_enter Tryz.func94, Tryz.ntmps94
              go_wp2_with fail
              generalize w.alloc (.cells #[.string ⟨#[]⟩, .string ⟨#[]⟩, .int .i64 0, .slice none 0 0, .slice none 0 0] 25) = w1 at *
              go_at_call 110
              refine (C1.out _).mono ?_
              rintro e w2 ⟨rfl, rfl⟩
              go_wp2_with fail
              go_at_call 108
              refine (C2.out _).mono ?_
              rintro e w2 ⟨rfl, q, rfl⟩
              go_wp2_with fail
              go_at_call 96
              refine (C3.out _ (HG.out.drewN q)).mono ?_
              rintro e w3 ⟨rfl, hb3⟩
              have HC := Lib.hid (HCS.out.keep (w' := w3) hb3.size (hb3.block _ HCS.out.lt))
              have HB3 := Lib.hid (Below.trans (below_drewN HB0.out q) (hb3.mono HB0.out.size))
              clear hb3
              have d0 := HC.out.c 0 (by simp)
              have d1 := HC.out.c 1 (by simp)
              have d2 := HC.out.c 2 (by simp)
              have d3 := HC.out.c 3 (by simp)
              have d4 := HC.out.c 4 (by simp)
              have f0 := HC.out.free 0 (by simp)
              have f1 := HC.out.free 1 (by simp)
              have f2 := HC.out.free 2 (by simp)
              have f3 := HC.out.free 3 (by simp)
              have f4 := HC.out.free 4 (by simp)
              go_wp2_with fail
              go_at_call 46
              refine (C5.out _).mono ?_
              rintro e w2 ⟨rfl, rfl⟩
              go_wp2_with fail
              go_at_call 73
              refine (C6.out _).mono ?_
              rintro e w2 ⟨rfl, rfl⟩
              go_wp2_with fail
              refine bodyPost_ret (results_msg rfl _ _ w.heap.size _ _ _ _ _ rfl (msg_set HC.out _ _ _ _ _)) rfl ?_
              rw [HE.out]
              exact ⟨rfl, msg_set_below HB3.out (Nat.le_refl _) _ _ _ _ _⟩
            | true =>
              have HE := Lib.hid (hE.out _ _ _ _ _ _ q1 q2 q3 q4 q5 q6)
              rw [q6] at C6
              clear hE q1 q2 q3 q5 q6
              generalize uptoB 32 t = dg at *
              generalize pastB 32 t = ph at *
              generalize (numO 10 dg).getD 0 = n at *
              go_enter Tryz.func94, Tryz.ntmps94
              go_wp2_with fail
              generalize w.alloc (.cells #[.string ⟨#[]⟩, .string ⟨#[]⟩, .int .i64 0, .slice none 0 0, .slice none 0 0] 25) = w1 at *
              go_at_call 110
              refine (C1.out _).mono ?_
              rintro e w2 ⟨rfl, rfl⟩
              go_wp2_with fail
              go_at_call 108
              refine (C2.out _).mono ?_
              rintro e w2 ⟨rfl, q, rfl⟩
              go_wp2_with fail
              go_at_call 96
              refine (C3.out _ (HG.out.drewN q)).mono ?_
              rintro e w3 ⟨rfl, hb3⟩
              have HC := Lib.hid (HCS.out.keep (w' := w3) hb3.size (hb3.block _ HCS.out.lt))
              have HB3 := Lib.hid (Below.trans (below_drewN HB0.out q) (hb3.mono HB0.out.size))
              clear hb3
              have d0 := HC.out.c 0 (by simp)
              have d1 := HC.out.c 1 (by simp)
              have d2 := HC.out.c 2 (by simp)
              have d3 := HC.out.c 3 (by simp)
              have d4 := HC.out.c 4 (by simp)
              have f0 := HC.out.free 0 (by simp)
              have f1 := HC.out.free 1 (by simp)
              have f2 := HC.out.free 2 (by simp)
              have f3 := HC.out.free 3 (by simp)
              have f4 := HC.out.free 4 (by simp)
              go_wp2_with fail
              go_at_call 46
              refine (C5.out _).mono ?_
              rintro e w2 ⟨rfl, rfl⟩
              go_wp2_with fail
              go_at_call 73
              refine (C6.out _).mono ?_
              rintro e w2 ⟨rfl, rfl⟩
              go_wp2_with fail
              refine bodyPost_ret (results_msg rfl _ _ w.heap.size _ _ _ _ _ rfl (msg_set HC.out _ _ _ _ _)) rfl ?_
              rw [HE.out]
              exact ⟨rfl, msg_set_below HB3.out (Nat.le_refl _) _ _ _ _ _⟩
end Go.Proofs.YthniggdimfldhaaGreatDoor
