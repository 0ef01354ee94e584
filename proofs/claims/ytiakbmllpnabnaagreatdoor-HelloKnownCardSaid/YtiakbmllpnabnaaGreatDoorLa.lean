/- The chapter's cursor: rest; name. The chapter's Parse: what stands in memory while it reads. The chapter's Parse: its loop over the extensions, what stands in memory. The chapter's Parse: its loop over the extensions, plain facts; what stands behind it. -/
import Derived.Test.YtiakbmllpnabnaaGreatDoorJg
import Derived.Test.YtiakbmllpnabnaaGreatDoorKzl
import Derived.Test.YtiakbmllpnabnaaGreatDoorKzm
import Derived.Test.YtiakbmllpnabnaaGreatDoorKzg
namespace Go.Proofs.YtiakbmllpnabnaaGreatDoor
open Go Go.RowKit

theorem re_any {st : Cu} {k n : Nat} (h : ∀ R, tkC st k = some R → n = R.length) : muC (tkC st k) (((nmV st k : Nat) : Int) == (n : Int)) = reC st k := by
  unfold reC
  cases e : tkC st k with
  | none => cases ((nmV st k : Int) == (n : Int)) <;> cases decide (nmV st k = lenC none) <;> rfl
  | some R =>
    rw [h R e]
    congr 1
    rw [Bool.eq_iff_iff, beq_iff_eq, decide_eq_true_iff]
    show _ ↔ nmV st k = R.length
    omega
set_option maxRecDepth 100000 in
set_option maxHeartbeats 400000 in
theorem rest_ref7 {w : World} {g D : Nat} {st : Cu} {A : Option Addr} {n c : Nat} (h : Cur w g D st A n c) (k : Nat) (hk : k ≤ 3) :
    Calls Tryz.prog 32 #[.pointer (some ⟨g, 0, none⟩), .int .i64 k] w fun e w' => e = .returned (.tuple #[]) ∧ CurP g D (reC st k) w w' := by
  have CN := Lib.hid (number_ref7 h k hk)
  have HE : Hid (∀ n, (∀ R, tkC st k = some R → n = R.length) → muC (tkC st k) (((nmV st k : Nat) : Int) == (n : Int)) = reC st k) := Lib.hid fun n hn => re_any hn
  generalize reC st k = S2 at *
  generalize tkC st k = S at *
  generalize nmV st k = N at *
  unfold CurP at *
  clear h
  go_enter Tryz.func32, Tryz.ntmps32
  go_wp2_with (go_at_call 31; refine CN.out.mono ?_; rintro e w1 ⟨rfl, hk1, A1, n1, c1, hc1⟩; have K1 := Lib.hid hk1; have C1 := Lib.hid hc1; have d0 := cur_c0 hc1; clear hk1 hc1)
  have CM := Lib.hid (must_ref7 C1.out ((N : Int) == (n1 : Int)))
  rw [HE.out n1 fun R e => (C1.out.rb R e).1] at CM
  refine CM.out.mono ?_
  rintro e w2 ⟨rfl, hk2, hc2⟩
  have K2 := Lib.hid (K1.out.trans (hk2.mono K1.out.size))
  have C2 := Lib.hid hc2
  clear hk2 hc2 CM C1 d0 CN
  go_wp2_with fail
  go_end0
  exact ⟨rfl, K2.out, C2.out⟩
theorem mu_zero {st : Cu} {n : Nat} (h : ∀ R, st = some R → n = R.length) : muC st ((n : Int) == 0) = muC st (decide (lenC st = 0)) := by
  cases st with
  | none => cases ((n : Int) == 0) <;> cases decide (lenC none = 0) <;> rfl
  | some R =>
    rw [h R rfl]
    congr 1
    rw [Bool.eq_iff_iff, beq_iff_eq, decide_eq_true_iff]
    show _ ↔ R.length = 0
    omega
theorem mu_num (st : Cu) (v k : Nat) : muC st ((v : Int) == (k : Int)) = muC st (decide (v = k)) := by
  congr 1
  rw [Bool.eq_iff_iff, beq_iff_eq, decide_eq_true_iff]
  omega
theorem cur_new {D : Nat} {w : World} {A : Option Addr} {c : Nat} {d : List UInt8} (h : Rb D w A c d) (hD : D ≤ w.heap.size) (hl : d.length ≤ 1000000) :
    Cur (w.alloc (.cells #[.slice A d.length c, .bool false] 68)) w.heap.size w.heap.size (some d) A d.length c := by
  have hb := below_new w (.cells #[.slice A d.length c, .bool false] 68)
  refine ⟨cs_alloc w #[.slice A d.length c, .bool false] 68, Nat.le_refl _, fun B e => ?_⟩
  obtain rfl := Option.some.inj e
  exact ⟨rfl, (h.keep fun k hk => hb.block k (by omega)).mono hD, hl⟩
theorem conv_text {D : Nat} {w : World} {A : Option Addr} {c : Nat} {x : List UInt8} (h : Rb D w A c x) : (convert 22 9 (.slice A x.length c)).run Tryz.prog w = .ok (.string ⟨x.toArray⟩) w := h.conv
set_option maxRecDepth 100000 in
set_option maxHeartbeats 400000 in
theorem name_ref7 {D : Nat} {w : World} {A : Option Addr} {c n : Nat} {d : List UInt8} (h : Rb D w A c d) (hD : D ≤ w.heap.size) (hn : n = d.length) (hl : d.length ≤ 1000000) :
    Calls Tryz.prog 35 #[.slice A n c] w fun e w' => e = .returned (.tuple #[.string ⟨(naV d).toArray⟩, .bool (naC d).isSome]) ∧ Below w.heap.size w w' := by
  subst hn
  have hb0 := below_new w (.cells #[.slice A d.length c, .bool false] 68)
  have B0 := Lib.hid hb0
  have C1 := Lib.hid (rest_ref7 (cur_new h hD hl) 2 (by decide))
  have HN1 : Hid (naC1 d = muC (tkC (reC (some d) 2) 1) (decide (nmV (reC (some d) 2) 1 = 0))) := Lib.hid rfl
  have HV : Hid (naV d = flV (naC1 d) 2) := Lib.hid rfl
  have HC : Hid (naC d = muC (flC (naC1 d) 2) (decide (lenC (flC (naC1 d) 2) = 0))) := Lib.hid rfl
  have hlt : Hid (w.heap.size < (w.alloc (.cells #[.slice A d.length c, .bool false] 68)).heap.size) := Lib.hid (by simp)
  clear h hb0 hl
  unfold CurP at C1
  generalize reC (some d) 2 = S1 at *
  generalize naC1 d = S3 at *
  generalize naV d = V at *
  generalize naC d = S5 at *
  go_enter Tryz.func35, Tryz.ntmps35
  go_wp2_with fail
  refine C1.out.mono ?_
  generalize w.alloc (.cells #[.slice A d.length c, .bool false] 68) = w0 at *
  rintro e w1 ⟨rfl, hk1, A1, n1, c1, hc1⟩
  have K1 := Lib.hid hk1
  have C2 := Lib.hid (number_ref7 hc1 1 (by decide))
  unfold CurP at C2
  clear hk1 hc1 C1
  go_wp2_with fail
  refine C2.out.mono ?_
  rintro e w2 ⟨rfl, hk2, A2, n2, c2, hc2⟩
  have K2 := Lib.hid (K1.out.trans (hk2.mono K1.out.size))
  have cm := must_ref7 hc2 ((nmV S1 1 : Int) == 0)
  have e0 := mu_num (tkC S1 1) (nmV S1 1) 0
  rw [show ((nmV S1 1 : Int) == ((0 : Nat) : Int)) = ((nmV S1 1 : Int) == 0) from rfl] at e0
  rw [e0, ← HN1.out] at cm
  have CM := Lib.hid cm
  unfold CurP at CM
  clear hk2 hc2 C2 K1 cm e0 HN1
  go_wp2_with fail
  refine CM.out.mono ?_
  rintro e w3 ⟨rfl, hk3, A3, n3, c3, hc3⟩
  have K3 := Lib.hid (K2.out.trans (hk3.mono K2.out.size))
  have CF := Lib.hid (cfilled_ref7 hc3 2 (by decide))
  unfold CurP at CF
  rw [← HV.out] at CF
  clear hk3 hc3 CM K2 HV
  go_wp2_with fail
  refine CF.out.mono ?_
  rintro e w4 ⟨A4, c4, rfl, hr4, hk4, A5, n5, c5, hc5⟩
  have K4 := Lib.hid (K3.out.trans (hk4.mono K3.out.size))
  have C5 := Lib.hid hc5
  have d0 := cur_c0 hc5
  have cm := must_ref7 hc5 ((n5 : Int) == 0)
  rw [mu_zero fun R e => (hc5.rb R e).1, ← HC.out] at cm
  have CM := Lib.hid cm
  have hcv := conv_text hr4.rb
  unfold CurP at CM
  clear hk4 hc5 hr4 CF K3 cm
  go_wp2_with fail
  refine CM.out.mono ?_
  rintro e w5 ⟨rfl, hk5, A6, n6, c6, hc6⟩
  have K5 := Lib.hid (K4.out.trans (hk5.mono K4.out.size))
  have d1 := cur_c1 hc6
  have d2 : w5.drew.cell? ⟨w.heap.size, 1, none⟩ = some (.bool S5.isNone) := d1
  have HS : Hid ((!S5.isNone) = S5.isSome) := Lib.hid (by cases S5 <;> rfl)
  have HB : Hid (Below w.heap.size w w5.drew) := Lib.hid (below_drewN (B0.out.trans (K5.out.to (Nat.le_refl _) (Nat.le_of_lt hlt.out))) 1)
  clear hk5 hc6 CM K4 C5 d0 hcv d1
  generalize S5.isNone = bn at *
  go_wp2_with fail
  go_region_law fail
  all_goals
    go_wp2_with fail
    go_ret2
    exact ⟨by rw [← HS.out] <;> rfl, HB.out⟩
end Go.Proofs.YtiakbmllpnabnaaGreatDoor
namespace Go.Proofs.YtiakbmllpnabnaaGreatDoor
open Go Go.RowKit

/-- the result's box, the greeting's, the cursor's -/
structure Lst (w wr : World) (st : Cu) (l : List Value) : Prop where
  bel : Below w.heap.size w wr
  ret : wr.heap[w.heap.size]? = some (.cells (gArr 0) 28 (0, 0))
  shp : Shp wr (w.heap.size + 1)
  cs : Cs wr (w.heap.size + 1) l
  cur : ∃ A n c, Cur wr (w.heap.size + 2) w.heap.size st A n c
theorem Lst.gt {w wr : World} {st : Cu} {l : List Value} (h : Lst w wr st l) : w.heap.size + 2 < wr.heap.size := by
  obtain ⟨_, _, _, hc⟩ := h.cur
  exact hc.cs.lt
theorem Lst.step {w wr wx : World} {st st' : Cu} {l : List Value} (h : Lst w wr st l) (hk : Kp (w.heap.size + 2) wr.heap.size wr wx) (hc : ∃ A n c, Cur wx (w.heap.size + 2) w.heap.size st' A n c) : Lst w wx st' l := by
  have hg := h.gt
  exact ⟨h.bel.trans (hk.to (by omega) (by omega)), (hk.block _ (by omega) (by omega)).trans h.ret, h.shp.keep (hk.block _ (by omega) (by omega)), h.cs.keep hk.size (hk.block _ (by omega) (by omega)), hc⟩
theorem Lst.set {w wr : World} {st : Cu} {l : List Value} (h : Lst w wr st l) (j : Nat) (hj : j < l.length) (v : Value) : Lst w (wr.setCell ⟨w.heap.size + 1, j, none⟩ v) st (l.set j v) := by
  refine ⟨h.bel.setCell (p := ⟨w.heap.size + 1, j, none⟩) (by show _ ≤ w.heap.size + 1; omega) v, (Below.heap_setCell _ _ _ _ (by show w.heap.size ≠ w.heap.size + 1; omega)).trans h.ret, h.shp.set j v, h.cs.set j hj v, ?_⟩
  obtain ⟨A, n, c, hc⟩ := h.cur
  exact ⟨A, n, c, hc.cs.keep (by simp [World.setCell]) (Below.heap_setCell _ _ _ _ (by show w.heap.size + 2 ≠ w.heap.size + 1; omega)), hc.dg, fun B e => by
    obtain ⟨h1, h2, h3⟩ := hc.rb B e
    exact ⟨h1, h2.keep fun k hk => Below.heap_setCell _ _ _ _ (by show k ≠ w.heap.size + 1; omega), h3⟩⟩
theorem Lst.low {w wr wx : World} {st : Cu} {l : List Value} (h : Lst w wr st l) (hb : Below wr.heap.size wr wx) : Lst w wx st l := by
  have hg := h.gt
  refine h.step (kp_below hb) ?_
  obtain ⟨A, n, c, hc⟩ := h.cur
  exact ⟨A, n, c, hc.cs.below hb, hc.dg, fun B e => by
    obtain ⟨h1, h2, h3⟩ := hc.rb B e
    exact ⟨h1, h2.keep fun k hk => hb.block k (by omega), h3⟩⟩
theorem Lst.lowB {w wr wx : World} {st : Cu} {l : List Value} {base : Nat} (h : Lst w wr st l) (hb : Below base wr wx) (hlo : w.heap.size + 3 ≤ base) : Lst w wx st l := by
  obtain ⟨A, n, c, hc⟩ := h.cur
  exact ⟨h.bel.trans (hb.mono (by omega)), (hb.block _ (by omega)).trans h.ret, h.shp.keep (hb.block _ (by omega)), h.cs.keep hb.size (hb.block _ (by omega)), A, n, c, hc.cs.keep hb.size (hb.block _ (by omega)), hc.dg, fun B e => by
    obtain ⟨h1, h2, h3⟩ := hc.rb B e
    exact ⟨h1, h2.keep fun k hk => hb.block k (by omega), h3⟩⟩
def LP (w wr : World) (st : Cu) (l : List Value) (w' : World) : Prop := Lst w w' st l ∧ Kp (w.heap.size + 2) wr.heap.size wr w'
theorem l_num {w wr : World} {st : Cu} {l : List Value} (h : Lst w wr st l) (k : Nat) (hk : k ≤ 3) :
    Calls Tryz.prog 31 #[.pointer (some ⟨w.heap.size + 2, 0, none⟩), .int .i64 k] wr fun e w' => e = .returned (.int .i64 (nmV st k : Nat)) ∧ LP w wr (tkC st k) l w' := by
  obtain ⟨A, n, c, hc⟩ := h.cur
  exact (number_ref7 hc k hk).mono fun e w' ⟨he, hkp, hc'⟩ => ⟨he, h.step hkp hc', hkp⟩
theorem l_must {w wr : World} {st : Cu} {l : List Value} (h : Lst w wr st l) (b : Bool) :
    Calls Tryz.prog 30 #[.pointer (some ⟨w.heap.size + 2, 0, none⟩), .bool b] wr fun e w' => e = .returned (.tuple #[]) ∧ LP w wr (muC st b) l w' := by
  obtain ⟨A, n, c, hc⟩ := h.cur
  exact (must_ref7 hc b).mono fun e w' ⟨he, hkp, hc'⟩ => ⟨he, h.step hkp hc', hkp⟩
theorem l_rest {w wr : World} {st : Cu} {l : List Value} (h : Lst w wr st l) (k : Nat) (hk : k ≤ 3) :
    Calls Tryz.prog 32 #[.pointer (some ⟨w.heap.size + 2, 0, none⟩), .int .i64 k] wr fun e w' => e = .returned (.tuple #[]) ∧ LP w wr (reC st k) l w' := by
  obtain ⟨A, n, c, hc⟩ := h.cur
  exact (rest_ref7 hc k hk).mono fun e w' ⟨he, hkp, hc'⟩ => ⟨he, h.step hkp hc', hkp⟩
theorem l_take {w wr : World} {st : Cu} {l : List Value} (h : Lst w wr st l) (m : Nat) (hm : m ≤ 1000000000) :
    Calls Tryz.prog 33 #[.pointer (some ⟨w.heap.size + 2, 0, none⟩), .int .i64 m] wr fun e w' => ∃ A c, e = .returned (.slice A (tkV st m).length c) ∧ RowG w' wr.heap.size A c (tkV st m) ∧ LP w wr (tkC st m) l w' := by
  obtain ⟨A, n, c, hc⟩ := h.cur
  exact (take_ref7 hc m hm).mono fun e w' ⟨A', c', he, hr, hkp, hc'⟩ => ⟨A', c', he, hr, h.step hkp hc', hkp⟩
theorem l_fill {w wr : World} {st : Cu} {l : List Value} (h : Lst w wr st l) (k : Nat) (hk : k ≤ 3) :
    Calls Tryz.prog 34 #[.pointer (some ⟨w.heap.size + 2, 0, none⟩), .int .i64 k] wr fun e w' => ∃ A c, e = .returned (.slice A (flV st k).length c) ∧ RowG w' wr.heap.size A c (flV st k) ∧ LP w wr (flC st k) l w' := by
  obtain ⟨A, n, c, hc⟩ := h.cur
  exact (cfilled_ref7 hc k hk).mono fun e w' ⟨A', c', he, hr, hkp, hc'⟩ => ⟨A', c', he, hr, h.step hkp hc', hkp⟩
end Go.Proofs.YtiakbmllpnabnaaGreatDoor
namespace Go.Proofs.YtiakbmllpnabnaaGreatDoor
open Go Go.RowKit

theorem runX_succ : ∀ (k : Nat) (p : Pst), live (runX k p) = true → runX (k + 1) p = rnd1 (runX k p)
  | 0, p, h => by
    have h' : live p = true := h
    show (if live p = true then runX 0 (rnd1 p) else p) = rnd1 p
    rw [if_pos h']; rfl
  | k + 1, p, h => by
    by_cases hl : live p = true
    · have e : runX (k + 1) p = runX k (rnd1 p) := by rw [runX, if_pos hl]
      rw [e] at h ⊢
      have e2 : runX (k + 1 + 1) p = runX (k + 1) (rnd1 p) := by rw [runX, if_pos hl]
      rw [e2]
      exact runX_succ k (rnd1 p) h
    · have e : runX (k + 1) p = p := by rw [runX, if_neg hl]
      rw [e] at h
      exact absurd h hl
theorem runX_add : ∀ (m n : Nat) (p : Pst), runX (m + n) p = runX n (runX m p)
  | 0, n, p => by rw [Nat.zero_add]; rfl
  | m + 1, n, p => by
    by_cases hl : live p = true
    · have e : runX (m + 1) p = runX m (rnd1 p) := by rw [runX, if_pos hl]
      rw [e, show m + 1 + n = (m + n) + 1 by omega, runX, if_pos hl]
      exact runX_add m n (rnd1 p)
    · have hl' : live p = false := by simpa using hl
      have e : runX (m + 1) p = p := by rw [runX, if_neg hl]
      rw [e, run_done hl', run_done hl']
/-- where the loop has ended it has come to the end -/
theorem runX_end {k n : Nat} {p : Pst} (hd : live (runX k p) = false) (hn : live (runX n p) = false) : runX k p = runX n p := by
  rcases Nat.le_total k n with h | h
  · have := runX_add k (n - k) p
    rw [show k + (n - k) = n by omega, run_done hd] at this
    exact this.symm
  · have := runX_add n (k - n) p
    rw [show n + (k - n) = k by omega, run_done hn] at this
    exact this
/-- how far the extensions are -/
structure Lex (w wr : World) (base : Nat) (mi : Int) (R ses : List UInt8) (As : Option Addr) (ks : Nat) (Au : Option Addr) (j cu : Nat) (me : List UInt8) (Am : Option Addr) (km : Nat) (SU : List Int) (p : Pst) (L : List Xc) (Ax : Option Addr) (cx : Nat) : Prop where
  l : Lst w wr p.c (gCells mi R (.slice As ses.length ks) (.slice Au j cu) (.slice Am me.length km) (.string ⟨p.host.toArray⟩) (.int .i64 (p.pos : Int)) (.slice Ax L.length cx))
  x : RowV 2 wr base Ax L.length cx (xcV L)
  rb : ∀ y ∈ L, RbS (Own base wr Ax) wr y.a y.c y.d
  xe : L.map xcE = p.exts
  s : RbS (Mid (w.heap.size + 2) base) wr As ks ses
  u : NumsS (Mid (w.heap.size + 2) base) wr Au SU
  m : RbS (Mid (w.heap.size + 2) base) wr Am km me
  lo : w.heap.size + 3 ≤ base
  sz : base ≤ wr.heap.size
  pe : p.pos ≤ p.exts.length
  xl : L.length + lenC p.c ≤ 1000000
  xd : ∀ y ∈ L, y.d.length ≤ 1000000
theorem lex_call {w wr wx : World} {base : Nat} {mi : Int} {R ses me : List UInt8} {As Au Am Ax : Option Addr} {ks j cu km cx : Nat} {SU : List Int} {p : Pst} {L : List Xc} {st : Cu} (h : Lex w wr base mi R ses As ks Au j cu me Am km SU p L Ax cx)
    (hp : LP w wr st (gCells mi R (.slice As ses.length ks) (.slice Au j cu) (.slice Am me.length km) (.string ⟨p.host.toArray⟩) (.int .i64 (p.pos : Int)) (.slice Ax L.length cx)) wx) (hc : lenC st ≤ lenC p.c) :
    Lex w wx base mi R ses As ks Au j cu me Am km SU { p with c := st } L Ax cx := by
  obtain ⟨hl, hk⟩ := hp
  have hlo := h.lo
  have hsz := h.sz
  have hxl := h.xl
  exact ⟨hl, h.x.kp hk (by omega), fun y hy => (h.rb y hy).keep fun k hk2 => ⟨hk.block k hk2.2.1 (by have := hk2.1; omega), hk2.1, Nat.lt_of_lt_of_le hk2.2.1 hk.size, hk2.2.2⟩, h.xe, h.s.keep fun k hk2 => ⟨hk.block k (by have := hk2.2; omega) (by have := hk2.1; omega), hk2⟩,
    h.u.keep fun k hk2 => ⟨hk.block k (by have := hk2.2; omega) (by have := hk2.1; omega), hk2⟩, h.m.keep fun k hk2 => ⟨hk.block k (by have := hk2.2; omega) (by have := hk2.1; omega), hk2⟩, hlo, Nat.le_trans hsz hk.size, h.pe, by show L.length + lenC st ≤ 1000000; omega, h.xd⟩
theorem lex_push {w wd w5 : World} {base : Nat} {mi : Int} {R ses me : List UInt8} {As Au Am Ax A5 : Option Addr} {ks j cu km cx c5 : Nat} {SU : List Int} {p : Pst} {L : List Xc} {y : Xc} {ob : Obj} (h : Lex w wd base mi R ses As ks Au j cu me Am km SU p L Ax cx) (hR : R.length = 32)
    (hy : RbS (Own base wd Ax) wd y.a y.c y.d) (hyd : y.d.length ≤ 1000000) (hL : L.length + 1 + lenC p.c ≤ 1000000) (hb : Gw base Ax A5 (wd.alloc ob) w5) (hr : RowV 2 w5 base A5 (L.length + 1) c5 (xcV L ++ [.int .i64 y.k, .slice y.a y.d.length y.c])) :
    Lex w (w5.setCell ⟨w.heap.size + 1, 38, none⟩ (.slice A5 (L.length + 1) c5)) base mi R ses As ks Au j cu me Am km SU { p with exts := p.exts ++ [xcE y] } (L ++ [y]) A5 c5 := by
  have hlo := h.lo
  have hsz := h.sz
  have hn := below_new wd ob
  have hns := hn.size
  have hbb : Below base wd w5 := (hn.mono hsz).trans hb.below
  have hs5 := hbb.size
  have hqs : ∀ k, k ≠ w.heap.size + 1 → (w5.setCell ⟨w.heap.size + 1, 38, none⟩ (.slice A5 (L.length + 1) c5)).heap[k]? = w5.heap[k]? := fun k hk => Below.heap_setCell _ _ _ _ hk
  have hmid : ∀ k, Mid (w.heap.size + 2) base k → (w5.setCell ⟨w.heap.size + 1, 38, none⟩ (.slice A5 (L.length + 1) c5)).heap[k]? = wd.heap[k]? ∧ Mid (w.heap.size + 2) base k := fun k hk => ⟨(hqs k (by have := hk.1; omega)).trans (hbb.block k hk.2), hk⟩
  have hset := (h.l.lowB hbb hlo).set 38 (by rw [gCells_len _ _ _ _ _ _ _ _ hR]; decide) (.slice A5 (L.length + 1) c5)
  rw [(gCells_set mi R (.slice As ses.length ks) (.slice Au j cu) (.slice Am me.length km) (.string ⟨p.host.toArray⟩) (.int .i64 (p.pos : Int)) (.slice Ax L.length cx) (.slice A5 (L.length + 1) c5) hR).2.2.2.2.2] at hset
  have hll : (L ++ [y]).length = L.length + 1 := by rw [List.length_append]; rfl
  refine ⟨by rw [hll]; exact hset, ?_, fun z hz => ?_, by rw [List.map_append, h.xe]; rfl, h.s.keep hmid, h.u.keep hmid, h.m.keep hmid, hlo, by simp only [World.setCell, Array.size_modify]; omega, ?_, by rw [hll]; exact hL, fun z hz => ?_⟩
  · rw [hll, xcV_app, xcV_one]
    exact hr.set (by omega)
  · have hz' : RbS (Own base wd Ax) wd z.a z.c z.d := by
      rcases List.mem_append.1 hz with hz | hz
      · exact h.rb z hz
      · rw [List.mem_singleton.1 hz]; exact hy
    refine hz'.keep fun k hk => ⟨(hqs k (by have := hk.1; omega)).trans ((hb.old k (by have := hk.2.1; omega) hk.2.2).trans (hn.block k hk.2.1)), hk.1, ?_, fun e => ?_⟩
    · have := hk.2.1
      simp only [World.setCell, Array.size_modify]
      omega
    · rcases hb.at_ with rfl | ⟨g, hg, rfl⟩
      · exact hk.2.2 e
      · cases e
        have := hk.2.1
        omega
  · show p.pos ≤ (p.exts ++ [xcE y]).length
    rw [List.length_append]
    have := h.pe
    omega
  · rcases List.mem_append.1 hz with hz | hz
    · exact h.xd z hz
    · rw [List.mem_singleton.1 hz]; exact hyd
theorem lex_host {w wr : World} {base : Nat} {mi : Int} {R ses me nv : List UInt8} {As Au Am Ax : Option Addr} {ks j cu km cx : Nat} {SU : List Int} {p : Pst} {L : List Xc} (h : Lex w wr base mi R ses As ks Au j cu me Am km SU p L Ax cx) (hR : R.length = 32) :
    Lex w ((wr.setCell ⟨w.heap.size + 1, 36, none⟩ (.string ⟨nv.toArray⟩)).setCell ⟨w.heap.size + 1, 37, none⟩ (.int .i64 (p.exts.length : Int))) base mi R ses As ks Au j cu me Am km SU { p with named := true, host := nv, pos := p.exts.length } L Ax cx := by
  have hlo := h.lo
  have hs1 := h.l.set 36 (by rw [gCells_len _ _ _ _ _ _ _ _ hR]; decide) (.string ⟨nv.toArray⟩)
  rw [(gCells_set mi R (.slice As ses.length ks) (.slice Au j cu) (.slice Am me.length km) (.string ⟨p.host.toArray⟩) (.int .i64 (p.pos : Int)) (.slice Ax L.length cx) (.string ⟨nv.toArray⟩) hR).2.2.2.1] at hs1
  have hs2 := hs1.set 37 (by rw [gCells_len _ _ _ _ _ _ _ _ hR]; decide) (.int .i64 (p.exts.length : Int))
  rw [(gCells_set mi R (.slice As ses.length ks) (.slice Au j cu) (.slice Am me.length km) (.string ⟨nv.toArray⟩) (.int .i64 (p.pos : Int)) (.slice Ax L.length cx) (.int .i64 (p.exts.length : Int)) hR).2.2.2.2.1] at hs2
  have hq : ∀ k, k ≠ w.heap.size + 1 → ((wr.setCell ⟨w.heap.size + 1, 36, none⟩ (.string ⟨nv.toArray⟩)).setCell ⟨w.heap.size + 1, 37, none⟩ (.int .i64 (p.exts.length : Int))).heap[k]? = wr.heap[k]? := fun k hk => (Below.heap_setCell _ _ _ _ hk).trans (Below.heap_setCell _ _ _ _ hk)
  have hmid : ∀ k, Mid (w.heap.size + 2) base k → ((wr.setCell ⟨w.heap.size + 1, 36, none⟩ (.string ⟨nv.toArray⟩)).setCell ⟨w.heap.size + 1, 37, none⟩ (.int .i64 (p.exts.length : Int))).heap[k]? = wr.heap[k]? ∧ Mid (w.heap.size + 2) base k := fun k hk => ⟨hq k (by have := hk.1; omega), hk⟩
  have hsz : ((wr.setCell ⟨w.heap.size + 1, 36, none⟩ (.string ⟨nv.toArray⟩)).setCell ⟨w.heap.size + 1, 37, none⟩ (.int .i64 (p.exts.length : Int))).heap.size = wr.heap.size := by simp [World.setCell]
  exact ⟨hs2, (h.x.set (by omega)).set (by omega), fun z hz => (h.rb z hz).keep fun k hk => ⟨hq k (by have := hk.1; omega), hk.1, by rw [hsz]; exact hk.2.1, hk.2.2⟩, h.xe, h.s.keep hmid, h.u.keep hmid, h.m.keep hmid, hlo, by rw [hsz]; exact h.sz, Nat.le_refl _, h.xl, h.xd⟩
end Go.Proofs.YtiakbmllpnabnaaGreatDoor
namespace Go.Proofs.YtiakbmllpnabnaaGreatDoor
open Go Go.RowKit

theorem lenC_tk_le (c : Cu) (n : Nat) : lenC (tkC c n) ≤ lenC c := by
  cases e : tkC c n with
  | none => exact Nat.zero_le _
  | some B => rw [lenC_tk e]; show B.length ≤ n + B.length; omega
theorem lenC_fl_le (c : Cu) (k : Nat) : lenC (flC c k) ≤ lenC c := Nat.le_trans (lenC_tk_le _ _) (lenC_tk_le _ _)
theorem lenC_mu_le (c : Cu) (b : Bool) : lenC (muC c b) ≤ lenC c := by
  cases b with
  | false => exact Nat.zero_le _
  | true => exact Nat.le_refl _
theorem lenC_re_le (c : Cu) (k : Nat) : lenC (reC c k) ≤ lenC c := Nat.le_trans (lenC_mu_le _ _) (lenC_tk_le _ _)
theorem lenC_c13 (b : List UInt8) : lenC (c13 b) ≤ b.length := by
  have h1 : lenC (c1 b) ≤ b.length := Nat.le_trans (lenC_mu_le _ _) (lenC_tk_le _ _)
  have h2 : lenC (c2 b) ≤ lenC (c1 b) := Nat.le_trans (lenC_mu_le _ _) (lenC_tk_le _ _)
  have h3 : lenC (c3 b) ≤ lenC (c2 b) := lenC_tk_le _ _
  have h4 : lenC (c4 b) ≤ lenC (c3 b) := lenC_re_le _ _
  have h5 : lenC (c5 b) ≤ lenC (c4 b) := lenC_mu_le _ _
  have h6 : lenC (c6 b) ≤ lenC (c5 b) := Nat.le_trans (lenC_mu_le _ _) (lenC_tk_le _ _)
  have h7 : lenC (c7 b) ≤ lenC (c6 b) := lenC_re_le _ _
  have h8 : lenC (c8 b) ≤ lenC (c7 b) := Nat.le_trans (lenC_mu_le _ _) (lenC_tk_le _ _)
  have h9 : lenC (c9 b) ≤ lenC (c8 b) := lenC_tk_le _ _
  have h10 : lenC (c10 b) ≤ lenC (c9 b) := lenC_fl_le _ _
  have h11 : lenC (c11 b) ≤ lenC (c10 b) := Nat.le_trans (lenC_mu_le _ _) (lenC_fl_le _ _)
  have h12 : lenC (c12 b) ≤ lenC (c11 b) := lenC_fl_le _ _
  have h13 : lenC (c13 b) ≤ lenC (c12 b) := lenC_re_le _ _
  omega
theorem lenC_start (b : List UInt8) : lenC (start7 b).c ≤ b.length := by
  unfold start7
  dsimp only
  exact lenC_c13 b
theorem live_some {p : Pst} (h : live p = true) : ∃ x r, p.c = some (x :: r) := by
  unfold live at h
  split at h
  · rename_i x r hc; exact ⟨x, r, hc⟩
  · cases h
theorem live_len {p : Pst} (h : live p = true) : lenC (tkC p.c 2) < lenC p.c := by
  obtain ⟨x, r, hc⟩ := live_some h
  cases e : tkC p.c 2 with
  | none => rw [hc]; show 0 < (x :: r).length; simp
  | some B => rw [lenC_tk e]; show B.length < 2 + B.length; omega
theorem rnd_len {p : Pst} (h : live p = true) : lenC (rnd1 p).c < lenC p.c := by
  have h1 := live_len h
  have h2 := lenC_fl_le (tkC p.c 2) 2
  unfold rnd1
  split
  · show lenC (flC _ _) < _; omega
  · have := lenC_mu_le (flC (tkC p.c 2) 2) ((naC (flV (tkC p.c 2) 2)).isSome && !p.named)
    show lenC (muC _ _) < _
    omega
theorem flV_small1 (st : Cu) (k : Nat) (hk : k ≤ 2) : (flV st k).length ≤ 1000000 := by
  have h1 := tkV_len (tkC st k) (nmV st k)
  have h2 := be_lt (tkV st k)
  have h3 : (256 : Nat) ^ (tkV st k).length ≤ 256 ^ 2 := Nat.pow_le_pow_right (by decide) (Nat.le_trans (tkV_len st k) hk)
  have h4 : (flV st k).length ≤ nmV st k := h1
  have h5 : nmV st k < 256 ^ (tkV st k).length := h2
  omega
theorem rnd_host {p : Pst} (h : p.host.length ≤ 1000000) : (rnd1 p).host.length ≤ 1000000 := by
  unfold rnd1
  split
  · exact h
  · exact flV_small1 _ 2 (Nat.le_refl _)
theorem run_host : ∀ (k : Nat) (p : Pst), p.host.length ≤ 1000000 → (runX k p).host.length ≤ 1000000
  | 0, p, h => h
  | k + 1, p, h => by
    unfold runX
    split
    · exact run_host k _ (rnd_host h)
    · exact h
theorem rnd_yes {p : Pst} (h : 0 < nmV p.c 2) : rnd1 p = { p with c := flC (tkC p.c 2) 2, exts := p.exts ++ [((nmV p.c 2 : Int), flV (tkC p.c 2) 2)] } := if_pos h
theorem rnd_no {p : Pst} (h : nmV p.c 2 = 0) : rnd1 p = ⟨muC (flC (tkC p.c 2) 2) ((naC (flV (tkC p.c 2) 2)).isSome && !p.named), true, naV (flV (tkC p.c 2) 2), p.exts.length, p.exts⟩ := if_neg (by omega)
theorem lex_zero {w wr : World} {mi : Int} {b R ses me : List UInt8} {As Au Am : Option Addr} {ks j cu km : Nat} {SU : List Int} (h : Lst w wr (c13 b) (gCells mi R (.slice As ses.length ks) (.slice Au j cu) (.slice Am me.length km) noStr (.int .i64 0) nilS))
    (hs : RowG wr (w.heap.size + 3) As ks ses) (hu : RowV 1 wr (w.heap.size + 3) Au j cu (intV SU)) (hj : SU.length = j) (hm : RowG wr (w.heap.size + 3) Am km me) (hb : b.length ≤ 1000000) :
    Lex w wr wr.heap.size mi R ses As ks Au j cu me Am km SU (start7 b) [] none 0 := by
  subst hj
  have hl := lenC_c13 b
  unfold start7
  generalize c13 b = C at *
  exact ⟨h, RowV.nil 2 _ _, (fun y hy => by cases hy), rfl, hs.rbS.keep fun k hk => ⟨rfl, by have := hk.1; omega, hk.2⟩, hu.numsS.keep fun k hk => ⟨rfl, by have := hk.1; omega, hk.2⟩, hm.rbS.keep fun k hk => ⟨rfl, by have := hk.1; omega, hk.2⟩, h.gt, Nat.le_refl _, Nat.zero_le _, Nat.le_trans (Nat.le_of_eq (Nat.zero_add _)) (Nat.le_trans hl hb), (fun y hy => by cases hy)⟩
/-- the greeting that stands behind the loop -/
theorem lex_fin {w wr : World} {base : Nat} {mi : Int} {R ses me : List UInt8} {As Au Am Ax : Option Addr} {ks j cu km cx : Nat} {SU : List Int} {p : Pst} {L : List Xc} (h : Lex w wr base mi R ses As ks Au j cu me Am km SU p L Ax cx) (hR : R.length = 32) (hj : SU.length = j)
    (h1 : ses.length ≤ 1000000) (h2 : SU.length ≤ 1000000) (h3 : me.length ≤ 1000000) (h4 : p.host.length ≤ 1000000) :
    wr.heap[w.heap.size + 1]? = some (.cells (grtA ⟨mi, R, ses, SU, me, p.host, (p.pos : Int), p.exts⟩ ⟨As, ks, Au, cu, Am, km, Ax, cx⟩) 28 (0, 0)) ∧
    GrS (New (w.heap.size + 2) wr) wr ⟨mi, R, ses, SU, me, p.host, (p.pos : Int), p.exts⟩ ⟨As, ks, Au, cu, Am, km, Ax, cx⟩ ∧ ∀ x ∈ p.exts, x.2.length ≤ 1000000 := by
  subst hj
  have hsz := h.sz
  have hlo := h.lo
  have hll : p.exts.length = L.length := by rw [← h.xe, List.length_map]
  have hg : gCells mi R (.slice As ses.length ks) (.slice Au SU.length cu) (.slice Am me.length km) (.string ⟨p.host.toArray⟩) (.int .i64 (p.pos : Int)) (.slice Ax L.length cx) = (grtA ⟨mi, R, ses, SU, me, p.host, (p.pos : Int), p.exts⟩ ⟨As, ks, Au, cu, Am, km, Ax, cx⟩).toList := by
    have := gCells_grt ⟨mi, R, ses, SU, me, p.host, (p.pos : Int), p.exts⟩ ⟨As, ks, Au, cu, Am, km, Ax, cx⟩ hR
    rw [← this]
    dsimp only
    rw [hll]
  have hcs := h.l.cs
  rw [hg] at hcs
  have hrow := h.l.shp.row hcs rfl
  have hxl := h.xl
  refine ⟨hrow, ⟨?_, ?_, ?_, ?_, h1, h2, h3, h4, by show p.exts.length ≤ _; omega, hR⟩, fun x hx => ?_⟩
  · exact h.s.keep fun k hk => ⟨rfl, Nat.le_of_lt hk.1, by have := hk.2; omega⟩
  · exact h.u.keep fun k hk => ⟨rfl, Nat.le_of_lt hk.1, by have := hk.2; omega⟩
  · exact h.m.keep fun k hk => ⟨rfl, Nat.le_of_lt hk.1, by have := hk.2; omega⟩
  · have := h.x.extsS fun x hx => (h.rb x hx).keep fun k hk => ⟨rfl, hk.1, hk.2.1⟩
    rw [h.xe] at this
    exact this.keep fun k hk => ⟨rfl, by have := hk.1; omega, hk.2⟩
  · rw [← h.xe] at hx
    obtain ⟨y, hy, rfl⟩ := List.mem_map.1 hx
    exact h.xd y hy
theorem ret_bad {w wr : World} {st : Cu} {l : List Value} (h : Lst w wr st l) :
    (wr.setRow w.heap.size (gArr 0)).heap[w.heap.size]? = some (.cells (gArr 0) 28 (0, 0)) ∧ Below w.heap.size w (wr.setRow w.heap.size (gArr 0)) := ⟨setRow_heap _ _ _ _ _ _ h.ret, below_setRow7 h.bel (Nat.le_refl _) _⟩
theorem ret_ok {w wr : World} {st : Cu} {l : List Value} {G : Grt} {a : Adr} (h : Lst w wr st l) (hg : GrS (New (w.heap.size + 2) wr) wr G a) :
    (wr.setRow w.heap.size (grtA G a)).heap[w.heap.size]? = some (.cells (grtA G a) 28 (0, 0)) ∧ Below w.heap.size w (wr.setRow w.heap.size (grtA G a)) ∧ GrS (New w.heap.size (wr.setRow w.heap.size (grtA G a))) (wr.setRow w.heap.size (grtA G a)) G a :=
  ⟨setRow_heap _ _ _ _ _ _ h.ret, below_setRow7 h.bel (Nat.le_refl _) _, hg.keep fun k hk => ⟨setRow_other _ _ _ _ (by have := hk.1; omega), by have := hk.1; omega, by rw [size_setRow]; exact hk.2⟩⟩
theorem built07 : Tryz.prog.built 28 [] = some (gArr 0) := by kernel_rfl
theorem wpList_build07 {ops : Array Oper} {rest : List Oper} {o : Oper} {a : Act} {w : World} {Q : Exit → Act → World → Prop} (hg : o.guard = none) (ho : o.op = .build 28 #[])
    (h : wpList Tryz.prog ops Q rest (a.put o.dst (.agg (gArr 0))) w) : wpList Tryz.prog ops Q (o :: rest) a w := by
  refine wpList_build hg 28 #[] ho ?_ ?_
  · simp only [List.map_toArray, List.map_nil, built07, Option.isSome_some]
  · simp only [List.map_toArray, List.map_nil, built07, Option.getD_some]
    exact h
/-- what parseG is behind the loop -/
theorem last_of {b : List UInt8} {P : Pst} (hk : ∃ k, P = runX k (start7 b)) (hl : live P = false) : P = last7 b := by
  obtain ⟨k, rfl⟩ := hk
  exact runX_end hl (run_dead b.length (start7 b) (lenC_start b) (Nat.zero_le _))
theorem parseG_bad {b : List UInt8} {P : Pst} (h : P = last7 b) (hb : P.c = none ∨ P.named = false ∨ mayG (grtOf b P) = false) : parseG b = none := by
  unfold parseG
  rw [← h]
  rcases hb with e | e | e <;> rw [e] <;> simp
theorem parseG_ok {b : List UInt8} {P : Pst} {B : List UInt8} (h : P = last7 b) (h1 : P.c = some B) (h2 : P.named = true) (h3 : mayG (grtOf b P) = true) : parseG b = some (grtOf b P) := by
  unfold parseG
  rw [← h, h1, h2, h3]; rfl
theorem gCells_rcell (mi : Int) (rnd : List UInt8) (s u m h p x : Value) (i : Nat) (hi : i < rnd.length) : (gCells mi rnd s u m h p x)[1 + i]? = some (.int .u8 (rnd[i].toNat : Int)) := by
  unfold gCells
  rw [Nat.add_comm 1 i, List.getElem?_append_left (by simp; omega), List.getElem?_cons_succ, List.getElem?_map, List.getElem?_eq_getElem hi]
  rfl
end Go.Proofs.YtiakbmllpnabnaaGreatDoor
