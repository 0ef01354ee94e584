/- The program's reader: contents, walked. -/
import Derived.Test.YtiakbmllpnabnaaGreatDoorKw
namespace Go.Proofs.YtiakbmllpnabnaaGreatDoor
open Go Go.RowKit

/- what a set of blocks holds -/
def NumsS (S : Nat → Prop) (w : World) (A : Option Addr) (l : List Int) : Prop :=
  ∀ i (hi : i < l.length), ∃ b off, A = some ⟨b, off, none⟩ ∧ S b ∧ w.cell? ⟨b, off + i, none⟩ = some (.int .i64 l[i])
def ExtsS (S : Nat → Prop) (w : World) (A : Option Addr) (l : List (Int × List UInt8)) : Prop :=
  ∀ i (hi : i < l.length), ∃ b off Ad cd, A = some ⟨b, off, none⟩ ∧ S b ∧ w.cell? ⟨b, off + i * 2, none⟩ = some (.int .i64 l[i].1) ∧ w.cell? ⟨b, off + i * 2 + 1, none⟩ = some (.slice Ad l[i].2.length cd) ∧ RbS S w Ad cd l[i].2
theorem NumsS.keep {S S' : Nat → Prop} {w w' : World} {A : Option Addr} {l : List Int} (h : NumsS S w A l) (hb : ∀ k, S k → w'.heap[k]? = w.heap[k]? ∧ S' k) : NumsS S' w' A l := fun i hi => by
  obtain ⟨b, off, e, hl, hc⟩ := h i hi
  refine ⟨b, off, e, (hb b hl).2, Eq.trans ?_ hc⟩
  unfold World.cell?
  rw [(hb b hl).1]
theorem ExtsS.keep {S S' : Nat → Prop} {w w' : World} {A : Option Addr} {l : List (Int × List UInt8)} (h : ExtsS S w A l) (hb : ∀ k, S k → w'.heap[k]? = w.heap[k]? ∧ S' k) : ExtsS S' w' A l := fun i hi => by
  obtain ⟨b, off, Ad, cd, e, hl, h1, h2, h3⟩ := h i hi
  have hc : ∀ j, w'.cell? ⟨b, j, none⟩ = w.cell? ⟨b, j, none⟩ := fun j => by unfold World.cell?; rw [(hb b hl).1]
  exact ⟨b, off, Ad, cd, e, (hb b hl).2, (hc _).trans h1, (hc _).trans h2, h3.keep hb⟩
/-- a greeting in blocks of a set -/
structure GrS (S : Nat → Prop) (w : World) (g : Grt) (a : Adr) : Prop where
  ses : RbS S w a.a1 a.c1 g.ses
  sui : NumsS S w a.a2 g.suites
  met : RbS S w a.a3 a.c3 g.meth
  ext : ExtsS S w a.a4 g.exts
  sl : g.ses.length ≤ 1000000
  ul : g.suites.length ≤ 1000000
  ml : g.meth.length ≤ 1000000
  hl : g.host.length ≤ 1000000
  xl : g.exts.length ≤ 1000000
  rl : g.rnd.length = 32
theorem GrS.keep {S S' : Nat → Prop} {w w' : World} {g : Grt} {a : Adr} (h : GrS S w g a) (hb : ∀ k, S k → w'.heap[k]? = w.heap[k]? ∧ S' k) : GrS S' w' g a :=
  ⟨h.ses.keep hb, h.sui.keep hb, h.met.keep hb, h.ext.keep hb, h.sl, h.ul, h.ml, h.hl, h.xl, h.rl⟩
theorem GrS.grV {S : Nat → Prop} {D : Nat} {w : World} {g : Grt} {a : Adr} (h : GrS S w g a) (hb : ∀ k, S k → k < D) : GrV D w g a :=
  ⟨h.ses.rb hb, fun i hi => by
    obtain ⟨b, off, e, hl, hc⟩ := h.sui i hi
    exact ⟨b, off, e, hb b hl, hc⟩, h.met.rb hb, fun i hi => by
    obtain ⟨b, off, Ad, cd, e, hl, h1, h2, h3⟩ := h.ext i hi
    exact ⟨b, off, Ad, cd, e, hb b hl, h1, h2, h3.rb hb⟩, h.sl, h.ul, h.ml, h.hl, h.xl, h.rl⟩
def New (lo : Nat) (w : World) (k : Nat) : Prop := lo ≤ k ∧ k < w.heap.size
theorem RowV.numsS {w : World} {base : Nat} {A : Option Addr} {c : Nat} {l : List Int} (h : RowV 1 w base A l.length c (intV l)) : NumsS (New base w) w A l := fun i hi => by
  obtain ⟨g, e, h1, h2, h3⟩ := h.rd i (by unfold intV; rw [List.length_map]; exact hi)
  refine ⟨g, 0, e, ⟨h1, h2⟩, ?_⟩
  rw [Nat.zero_add, h3]
  unfold intV
  rw [List.getElem_map]
theorem RowV.extsS {w : World} {base : Nat} {A : Option Addr} {n c : Nat} {L : List Xc} (h : RowV 2 w base A n c (xcV L)) (hx : ∀ x ∈ L, RbS (New base w) w x.a x.c x.d) : ExtsS (New base w) w A (L.map xcE) := fun i hi => by
  have hi' : i < L.length := by rw [List.length_map] at hi; exact hi
  obtain ⟨h1, h2⟩ := xcV_at L i hi'
  have e : (L.map xcE)[i] = (L[i].k, L[i].d) := by rw [List.getElem_map]; rfl
  obtain ⟨g, rfl, hb, hg, hc⟩ := h.rd (i * 2) (by rw [xcV_len]; omega)
  obtain ⟨g', e', _, _, hc'⟩ := h.rd (i * 2 + 1) (by rw [xcV_len]; omega)
  cases e'
  rw [← List.getElem?_eq_getElem, h1] at hc
  rw [← List.getElem?_eq_getElem, h2] at hc'
  refine ⟨g, 0, L[i].a, L[i].c, rfl, ⟨hb, hg⟩, ?_, ?_, ?_⟩
  · rw [Nat.zero_add, hc, e]
  · rw [Nat.zero_add, hc', e]
  · rw [e]; exact hx _ (List.getElem_mem hi')
/- where it gives up -/
theorem flN (k : Nat) : flC none k = none := rfl
theorem e_none {B : List UInt8} : (e8 B = none → e9 B = none) ∧ (e9 B = none → e10 B = none) ∧ (e10 B = none → e11 B = none) ∧ (e11 B = none → e12 B = none) ∧ (e12 B = none → e13 B = none) :=
  ⟨fun h => by unfold e9; rw [h]; rfl, fun h => by unfold e10; rw [h]; rfl, fun h => by unfold e11; rw [h, flN]; exact muN _, fun h => by unfold e12; rw [h]; rfl, fun h => by unfold e13; rw [h]; exact muN _⟩
theorem con_no (mi : Int) {B : List UInt8} (h : e13 B = none) : conG mi B = none := by unfold conG; rw [h]
theorem con_un (mi : Int) {B x : List UInt8} (h : e13 B = some x) (hu : unA x = none) : conG mi B = none := by unfold conG; rw [h]; simp only [hu]
theorem con_x (mi : Int) {B x : List UInt8} {l : List (Int × List UInt8)} (h : e13 B = some x) (hu : unA x = some l) : conG mi B = conX mi B l := by unfold conG; rw [h]; simp only [hu]
def nilS : Value := .slice none 0 0
def noStr : Value := .string ⟨#[]⟩
/-- the block of a greeting, whole -/
def Shp (w : World) (q : Nat) : Prop := ∃ arr : Array Value, w.heap[q]? = some (.cells arr 28 (0, 0)) ∧ arr.size = 39
theorem Shp.keep {w w' : World} {q : Nat} (h : Shp w q) (hb : w'.heap[q]? = w.heap[q]?) : Shp w' q := by
  obtain ⟨arr, h1, h2⟩ := h
  exact ⟨arr, hb.trans h1, h2⟩
theorem Shp.set {w : World} {q : Nat} (h : Shp w q) (j : Nat) (v : Value) : Shp (w.setCell ⟨q, j, none⟩ v) q := by
  obtain ⟨arr, h1, h2⟩ := h
  have hlt := lt_of_block h1
  have h' : w.heap[q] = .cells arr 28 (0, 0) := by simpa [Array.getElem?_eq_getElem hlt] using h1
  refine ⟨arr.setIfInBounds j v, ?_, by rw [Array.size_setIfInBounds]; exact h2⟩
  show (w.heap.modify q _)[q]? = _
  rw [Array.getElem?_eq_getElem (by simpa using hlt), Array.getElem_modify_self, h']
  rfl
theorem Shp.setCells {q : Nat} : ∀ (vs : List Value) (o : Nat) (w : World), Shp w q → Shp (w.setCells q o vs) q
  | [], _, _, h => h
  | v :: vs, o, w, h => Shp.setCells vs (o + 1) (w.setCell ⟨q, o, none⟩ v) (h.set o v)
theorem Shp.row {w : World} {q : Nat} {arr : Array Value} (h : Shp w q) (hc : Cs w q arr.toList) (hl : arr.size = 39) : w.heap[q]? = some (.cells arr 28 (0, 0)) := by
  obtain ⟨ar2, h1, h2⟩ := h
  have e : ar2 = arr := by
    apply Array.ext
    · rw [h2, hl]
    · intro i hi hj
      have h3 := hc.cell i (by rw [Array.length_toList]; exact hj)
      unfold World.cell? at h3
      rw [h1] at h3
      simp only [Option.isSome_none, Bool.false_eq_true, if_false] at h3
      rw [Array.getElem?_eq_getElem hi, List.getElem?_eq_getElem (by rw [Array.length_toList]; exact hj)] at h3
      exact Option.some.inj h3
  rw [← e]; exact h1
/-- what contents leaves -/
def ConP (mi : Int) (B : List UInt8) (q D0 : Nat) (w : World) (e : Ending) (w' : World) : Prop :=
  (conG mi B = none → e = PanE ∧ Below D0 w w') ∧ ∀ G, conG mi B = some G → e = .returned (.tuple #[]) ∧ Below D0 w w' ∧ ∃ a : Adr, Cs w' q (grtA G a).toList ∧ Shp w' q ∧ GrS (New w.heap.size w') w' G a ∧ ∀ x ∈ G.exts, x.2.length ≤ 1000000
/-- what stands while contents is read -/
structure Con (w W : World) (q D0 : Nat) (l : List Value) : Prop where
  cs : Cs W q l
  bl : Below D0 w W
  sz : w.heap.size ≤ W.heap.size
  sh : Shp W q
theorem Con.kp {w W W' : World} {q D0 g : Nat} {l : List Value} (h : Con w W q D0 l) (hk : Kp g W.heap.size W W') (hne : q ≠ g) (hg : D0 ≤ g) (h0 : D0 ≤ w.heap.size) : Con w W' q D0 l :=
  ⟨h.cs.kp hk hne, h.bl.trans (hk.to hg (Nat.le_trans h0 h.sz)), Nat.le_trans h.sz hk.size, h.sh.keep (hk.block q h.cs.lt hne)⟩
theorem Con.below {w W W' : World} {q D0 : Nat} {l : List Value} (h : Con w W q D0 l) (hk : Below W.heap.size W W') (h0 : D0 ≤ w.heap.size) : Con w W' q D0 l :=
  ⟨h.cs.below hk, h.bl.trans (hk.mono (Nat.le_trans h0 h.sz)), Nat.le_trans h.sz hk.size, h.sh.keep (hk.block q h.cs.lt)⟩
theorem Con.set {w W : World} {q D0 : Nat} {l : List Value} (h : Con w W q D0 l) (j : Nat) (hj : j < l.length) (v : Value) (hq : D0 ≤ q) : Con w (W.setCell ⟨q, j, none⟩ v) q D0 (l.set j v) :=
  ⟨h.cs.set j hj v, h.bl.setCell (p := ⟨q, j, none⟩) hq v, by simpa [World.setCell] using h.sz, h.sh.set j v⟩
theorem flV_le {R R' : List UInt8} {k : Nat} (h : flC (some R) k = some R') : (flV (some R) k).length ≤ R.length ∧ R'.length ≤ R.length := by
  obtain ⟨h4, _⟩ := fl_some (c := some R) (k := k) h
  have h5 := congrArg List.length (Option.some.inj h4)
  unfold fillB at h5
  rw [List.length_append, List.length_append] at h5
  omega
theorem unX_small : ∀ (n : Nat) (R : List UInt8) (l : List (Int × List UInt8)), unX n R = some l → l.length ≤ R.length ∧ ∀ x ∈ l, x.2.length ≤ R.length
  | n, [], l, h => by
    have : l = [] := by cases n <;> exact (Option.some.inj h).symm
    subst this
    exact ⟨Nat.le_refl _, fun x hx => by cases hx⟩
  | 0, _ :: _, l, h => by cases h
  | n + 1, c :: r, l, h => by
    unfold unX at h
    cases hq : flC (tkC (some (c :: r)) 2) 2 with
    | none => rw [hq] at h; cases h
    | some R =>
      rw [hq] at h
      obtain ⟨l', hl', rfl⟩ := Option.map_eq_some_iff.1 h
      obtain ⟨i1, i2⟩ := unX_small n R l' hl'
      have h4 := fl_shorter hq
      obtain ⟨f1, _⟩ := fl_some (c := tkC (some (c :: r)) 2) (k := 2) hq
      obtain ⟨f3, _⟩ := nm_some f1
      have h5 := congrArg List.length (Option.some.inj f3)
      unfold fillB at h5
      simp only [List.length_append, rowB_len] at h5
      refine ⟨by rw [List.length_cons]; omega, fun x hx => ?_⟩
      rcases List.mem_cons.1 hx with rfl | hx
      · simp only; omega
      · have := i2 x hx; omega
theorem unA_small {R : List UInt8} {l : List (Int × List UInt8)} (h : unA R = some l) (hR : R.length ≤ 1000000) : l.length ≤ 1000000 ∧ ∀ x ∈ l, x.2.length ≤ 1000000 := by
  obtain ⟨h1, h2⟩ := unX_small _ _ _ h
  exact ⟨Nat.le_trans h1 hR, fun x hx => Nat.le_trans (h2 x hx) hR⟩
theorem Con.low {w W W' : World} {q D0 b : Nat} {l : List Value} (h : Con w W q D0 l) (hk : Below b W W') (hb : D0 ≤ b) (hq : q < b) : Con w W' q D0 l :=
  ⟨h.cs.keep hk.size (hk.block q hq), h.bl.trans (hk.mono hb), Nat.le_trans h.sz hk.size, h.sh.keep (hk.block q hq)⟩
theorem Rdr.low {w w' : World} {g D b : Nat} {B : List UInt8} {A : Option Addr} {c : Nat} (h : Rdr w g D B A c) (hk : Below b w w') (hD : D ≤ b) (hg : g < b) : Rdr w' g D B A c :=
  ⟨h.cs.keep hk.size (hk.block g hg), h.dg, h.rb.keep fun k hl => hk.block k (by omega), h.le⟩
theorem erase_map (L : List Xc) (i : Nat) : (L.eraseIdx i).map xcE = (L.map xcE).eraseIdx i := by
  rw [List.eraseIdx_eq_take_drop_succ, List.eraseIdx_eq_take_drop_succ, List.map_append, List.map_take, List.map_drop]
theorem conX_at {mi : Int} {B : List UInt8} {l : List (Int × List UInt8)} {k : Nat} (hk : atX l = k) (hi : k < l.length) : (hoC l[k].2 = none → conX mi B l = none) ∧ ∀ s, hoC l[k].2 = some s → conX mi B l = some (grtE mi B l s) := by
  subst hk
  unfold conX
  rw [dif_pos hi]
  cases hoC l[atX l].2 with
  | none => exact ⟨fun _ => rfl, fun s e => by cases e⟩
  | some t => exact ⟨(fun e => by cases e), fun s e => by cases e; rfl⟩
theorem con_fail {mi : Int} {B : List UInt8} {q D0 : Nat} {w w' : World} (h : conG mi B = none) (hb : Below D0 w w') : ConP mi B q D0 w PanE w' := ⟨fun _ => ⟨rfl, hb⟩, fun G e => by rw [h] at e; cases e⟩
theorem wrap_i64_7 (a : Nat) (ha : a < 1048576) : IntKind.i64.wrap (a : Int) = a := by
  simp [IntKind.wrap, IntKind.bits, IntKind.signed]
  omega
theorem con_end {w w' : World} {mi : Int} {B X8 X10 Y Z s : List UInt8} {q D0 ns nu nm c k : Nat} {su : List Int} {As Au Am A : Option Addr} {L : List Xc} {l : List (Int × List UInt8)}
    (hG : conG mi B = some (grtE mi B l s)) (hS : Con w w' q D0 (gCells mi X8 (.slice As X10.length ns) (.slice Au su.length nu) (.slice Am Z.length nm) (.string ⟨s.toArray⟩) (.int .i64 k) (.slice A (l.length - 1) c)))
    (h8 : tkV (e8 B) 32 = X8) (h10 : flV (e9 B) 1 = X10) (hY : flV (e10 B) 2 = Y) (hsu : su = suitesL Y) (hZ : flV (e11 B) 1 = Z) (hk : atX l = k) (hi : k < l.length) (h32 : X8.length = 32)
    (l1 : X10.length ≤ 1000000) (l2 : su.length ≤ 1000000) (l3 : Z.length ≤ 1000000) (l4 : s.length ≤ 1000000) (l5 : l.length ≤ 1000000)
    (r1 : RowG w' w.heap.size As ns X10) (r2 : RowV 1 w' w.heap.size Au su.length nu (intV su)) (r3 : RowG w' w.heap.size Am nm Z) (r4 : RowV 2 w' w.heap.size A (l.length - 1) c (delV (xcV L) k)) (hL : L.map xcE = l)
    (hx : ∀ x ∈ L, RbS (New w.heap.size w') w' x.a x.c x.d) (hlx : ∀ x ∈ l, x.2.length ≤ 1000000) : ConP mi B q D0 w (.returned (.tuple #[])) w' := by
  refine ⟨(fun e => by rw [hG] at e; cases e), fun G e => ?_⟩
  rw [hG] at e
  obtain rfl := Option.some.inj e
  have hlen : (l.eraseIdx k).length = l.length - 1 := List.length_eraseIdx_of_lt hi
  have hLl : k < L.length := by rw [← List.length_map (f := xcE), hL]; exact hi
  have hr : (grtE mi B l s).rnd.length = 32 := by show (tkV (e8 B) 32).length = 32; rw [h8, h32]
  rw [delV_xc L k hLl] at r4
  have hex := r4.extsS fun x hxx => hx x (List.mem_of_mem_eraseIdx hxx)
  rw [erase_map, hL] at hex
  subst hk h8 h10 hY hZ hsu
  refine ⟨rfl, hS.bl, ⟨As, ns, Au, nu, Am, nm, A, c⟩, ?_, hS.sh, ⟨r1.rbS, r2.numsS, r3.rbS, hex, l1, l2, l3, l4, by show (l.eraseIdx _).length ≤ _; omega, hr⟩, fun x hxx => hlx x (List.mem_of_mem_eraseIdx hxx)⟩
  rw [← gCells_grt _ _ hr]
  show Cs w' q (gCells mi (tkV (e8 B) 32) (.slice As (flV (e9 B) 1).length ns) (.slice Au (suitesL (flV (e10 B) 2)).length nu) (.slice Am (flV (e11 B) 1).length nm) (.string ⟨s.toArray⟩) (.int .i64 (atX l : Nat)) (.slice A (l.eraseIdx (atX l)).length c))
  rw [hlen]
  exact hS.cs
set_option maxRecDepth 100000 in
set_option maxHeartbeats 1000000 in
theorem rcontents_any {D D0 : Nat} {w : World} {g q : Nat} {B : List UInt8} {A : Option Addr} {c : Nat} {mi : Int} (h : Rdr w g D B A c) (hq : Cs w q (gCells mi (List.replicate 32 0) nilS nilS nilS noStr (.int .i64 0) nilS)) (hsh : Shp w q) (hne : g ≠ q) (hDq : D ≤ q) (hg0 : D0 ≤ g) (hq0 : D0 ≤ q) :
    Calls Tryz.prog 49 #[.pointer (some ⟨g, 0, none⟩), .pointer (some ⟨q, 0, none⟩)] w (ConP mi B q D0 w) := by
  have hqg : q ≠ g := fun e => hne e.symm
  have hgl := h.cs.lt
  have hql := hq.lt
  have hBl := h.le
  have C0 := Lib.hid (rexpect_any h 2 771 (by decide))
  have HQ := Lib.hid hq
  have HSH := Lib.hid hsh
  have HE8 : Hid (e8 B = muC (tkC (some B) 2) (decide (nmV (some B) 2 = 771))) := Lib.hid rfl
  obtain ⟨n8, n9, n10, n11, n12⟩ := e_none (B := B)
  have NN := Lib.hid n8
  have NN9 := Lib.hid n9
  have NN10 := Lib.hid n10
  have NN11 := Lib.hid n11
  have NN12 := Lib.hid n12
  have DD : Hid (D0 ≤ g ∧ D0 ≤ q ∧ g < w.heap.size ∧ q < w.heap.size) := Lib.hid ⟨hg0, hq0, hgl, hql⟩
  clear h hq hsh n8 n9 n10 n11 n12
  go_enter Tryz.func49, Tryz.ntmps49
  go_wp2_with fail
  refine C0.out.mono ?_
  intro e w1 hh
  rw [← HE8.out] at hh
  cases h8 : e8 B with
  | none =>
    obtain ⟨rfl, hk1⟩ := hh.1 h8
    have HX : Hid (e13 B = none) := Lib.hid (NN12.out (NN11.out (NN10.out (NN9.out (NN.out h8)))))
    have B1 := Lib.hid (hk1.to hg0 (show D0 ≤ w.heap.size by omega))
    clear hh hk1 C0 h8 HQ NN NN9 NN10 NN11 NN12
    go_wp2_with fail
    exact ⟨rfl, con_fail (con_no mi HX.out) B1.out⟩
  | some R8 =>
    obtain ⟨rfl, ⟨A1, c1, hr1⟩, hk1⟩ := hh.2 R8 h8
    have K1 := Lib.hid hk1
    have Q1 := Lib.hid (HQ.out.kp hk1 hqg)
    have R1 := Lib.hid hr1
    have H8 := Lib.hid h8
    have SH1 := Lib.hid (HSH.out.keep (hk1.block q HQ.out.lt hqg))
    clear hh hk1 C0 h8 HQ HSH hr1 HE8
    go_wp2_with fail
    cases h9 : tkC (some R8) 32 with
    | none =>
      have HX : Hid (e13 B = none) := Lib.hid (NN12.out (NN11.out (NN10.out (NN9.out (by unfold e9; rw [H8.out]; exact h9)))))
      have CN := Lib.hid (cut_no (R1.out.below (below_drewN (Below.refl _ _) 1)) 32 (tk_no h9))
      have B1 := Lib.hid (below_drewN (K1.out.to hg0 (show D0 ≤ w.heap.size by omega)) 1)
      clear h9 NN NN9 NN10 NN11 NN12
      refine wp_region_any (by kernel_rfl) ?_
      change wpAny _ _ _ _ _ _ _ (World.drew _)
      refine wpAny_take (i := 0) (v := .pointer (some ⟨q, 0, none⟩)) rfl (by kernel_rfl) (by kernel_rfl) (by kernel_rfl) (fun _ _ _ h => h) (Or.inl ⟨by rfl, fun w => by go_simp⟩) ?_
      refine wpAny_take (i := 1) (v := .pointer (some ⟨q, 0, none⟩)) rfl (by kernel_rfl) (by kernel_rfl) (by kernel_rfl) (fun _ _ _ h => h) (Or.inl ⟨by rfl, fun w => by go_simp⟩) ?_
      refine wpAny_take (i := 2) (v := .pointer (some ⟨q, 1, none⟩)) rfl (by kernel_rfl) (by kernel_rfl) (by kernel_rfl) (fun _ _ _ h => h) (Or.inl ⟨by rfl, fun w => by go_simp⟩) ?_
      refine wpAny_take (i := 3) (v := .slice (some ⟨q, 1, none⟩) 32 32) rfl (by kernel_rfl) (by kernel_rfl) (by kernel_rfl) (fun _ _ _ h => h) (Or.inl ⟨by rfl, fun w => by go_simp⟩) ?_
      refine wpAny_take (i := 4) (v := .pointer (some ⟨g, 0, none⟩)) rfl (by kernel_rfl) (by kernel_rfl) (by kernel_rfl) (fun _ _ _ h => h) (Or.inl ⟨by rfl, fun w => by go_simp⟩) ?_
      refine wpAny_ready (rs := [5]) (by kernel_rfl) (by simp) (AllReady.cons rfl (fun K hK => ?_) AllReady.nil)
      go_simp
      refine CN.out.mono ?_
      rintro e w' ⟨rfl, rfl⟩
      exact ⟨rfl, con_fail (con_no mi HX.out) B1.out⟩
    | some R9 =>
      obtain ⟨l32, rfl, hv32⟩ := tk_yes h9
      have H9 : Hid (e9 B = some (R8.drop 32) ∧ tkV (e8 B) 32 = R8.take 32) := Lib.hid ⟨by unfold e9; rw [H8.out]; exact h9, by rw [H8.out]; exact hv32⟩
      have CC := Lib.hid (cut_ok (R1.out.below (below_drewN (Below.refl _ _) 1)) 32 l32)
      have hx32 : (R8.take 32).length = 32 := by rw [List.length_take]; omega
      have HX32 := Lib.hid hx32
      have hb1 : q < w1.heap.size := Q1.out.lt
      unfold CutP at CC
      rw [hx32] at CC
      clear h9 hv32 l32 hx32
      generalize R8.take 32 = X8 at *
      go_region_held3 (fun _ => True) (trivial) ((first
        | (go_at_call 64; refine Calls.mono CC.out ?_; rintro e w2 ⟨F2, A2, c2, rfl, hf2, hr2, hk2⟩; have F2' := Lib.hid hf2; have R2 := Lib.hid hr2; have K2 := Lib.hid hk2; have Q2 := Lib.hid ((Q1.out.below (below_drewN (Below.refl _ _) 1)).kp hk2 hqg); have SH2 := Lib.hid (SH1.out.keep (show _ = w1.heap[q]? from hk2.block q hb1 hqg)); clear hf2 hr2 hk2)
        | (refine step_copy_runI rfl (.tmp 10) (.tmp 12) 22 22 rfl (.slice (some ⟨q, 1, none⟩) 32 32) (.slice F2 32 32) (by simp [Act.eval]) (by simp [Act.eval]) (run_copy_rnd F2'.out HX32.out Q2.out rfl 3) ?_)))
      have Q3 := Lib.hid (Q2.out.copy rfl HX32.out)
      obtain ⟨s1, s2, s3, s4, s5⟩ := setCells_same q (Lib.byteCells X8) 1 w2
      have hgw2 := R2.out.cs.lt
      have R3 : Hid (Rdr (w2.setCells q 1 (Lib.byteCells X8)) g D (R8.drop 32) A2 c2) := Lib.hid ⟨R2.out.cs.keep (by rw [s4]; exact Nat.le_refl _) (s5 g hne), R2.out.dg, R2.out.rb.keep fun k hk => s5 k (by omega), R2.out.le⟩
      have K2' := (below_drewN (K1.out.to hg0 (show D0 ≤ w.heap.size by omega)) 1).trans (K2.out.to hg0 (Nat.le_trans (show D0 ≤ w.heap.size by omega) K1.out.size))
      have B3 : Hid (Below D0 w (w2.setCells q 1 (Lib.byteCells X8))) := Lib.hid (K2'.trans ⟨s1, s2, s3, Nat.le_of_eq s4.symm, fun k hk => s5 k (by omega)⟩)
      have Z3 : Hid (w.heap.size ≤ (w2.setCells q 1 (Lib.byteCells X8)).heap.size) := Lib.hid (by rw [s4]; exact Nat.le_trans K1.out.size K2.out.size)
      have S3 : Hid (Con w (w2.setCells q 1 (Lib.byteCells X8)) q D0 (gCells mi X8 nilS nilS nilS noStr (.int .i64 0) nilS)) := Lib.hid ⟨Q3.out, B3.out, Z3.out, SH2.out.setCells _ _ _⟩
      clear K2' s1 s2 s3 s4 s5 hgw2 Q2 SH1 SH2 R2 K2 K1 Q1 R1 CC hb1 F2' NN Q3 B3 Z3
      generalize w2.setCells q 1 (Lib.byteCells X8) = w3 at *
      generalize R8.drop 32 = R9 at *
      have hD0 : D0 ≤ w.heap.size := DD.out.2.2.2 |> fun h => Nat.le_trans DD.out.2.1 (Nat.le_of_lt h)
      have HL8 := Lib.hid (gCells_len mi X8 · · · · · · HX32.out)
      -- the session
      have CP := Lib.hid (rpart_any R3.out 1 (by decide))
      go_wp2_with fail
      refine CP.out.mono ?_
      intro e w4 hh
      cases h10 : flC (some R9) 1 with
      | none =>
        obtain ⟨rfl, hk⟩ := hh.1 h10
        have HX : Hid (e13 B = none) := Lib.hid (NN12.out (NN11.out (NN10.out (by unfold e10; rw [H9.out.1]; exact h10))))
        have B4 := Lib.hid (S3.out.kp hk hqg hg0 hD0).bl
        clear hh hk CP h10 NN9 NN10 NN11 NN12
        go_wp2_with fail
        exact ⟨rfl, con_fail (con_no mi HX.out) B4.out⟩
      | some R10 =>
        obtain ⟨F4, A4, c4, rfl, hf4, hr4, hk⟩ := hh.2 R10 h10
        have H10 : Hid (e10 B = some R10 ∧ flV (e9 B) 1 = flV (some R9) 1) := Lib.hid ⟨by unfold e10; rw [H9.out.1]; exact h10, by rw [H9.out.1]⟩
        obtain ⟨hl1, hl2⟩ := flV_le h10
        have hxl : (flV (some R9) 1).length ≤ 1000000 := Nat.le_trans hl1 R3.out.le
        have S4 := Lib.hid (S3.out.kp hk hqg hg0 hD0)
        have R4 := Lib.hid hr4
        have CB := Lib.hid (bytesClone7 hf4 (Nat.le_trans hr4.dg (Nat.le_of_lt hr4.cs.lt)) rfl hxl)
        have HXL := Lib.hid hxl
        clear hh hk CP h10 NN9 hf4 hr4 hl1 hl2 hxl S3 R3
        generalize flV (some R9) 1 = X10 at *
        unfold MadeP at CB
        go_wp2_with fail
        refine CB.out.mono ?_
        rintro e w5 ⟨As, ns, rfl, hr5, hb5⟩
        have S5 := Lib.hid (S4.out.below hb5 hD0)
        have R5 := Lib.hid (R4.out.below hb5)
        have ROW5 := Lib.hid (hr5.up S4.out.sz)
        have k33 : 33 < (gCells mi X8 nilS nilS nilS noStr (.int .i64 0) nilS).length := by rw [HL8.out]; decide
        have d33 := S5.out.cs.cell 33 k33
        rw [(gCells_at mi X8 _ _ _ _ _ _ HX32.out).1] at d33
        have f33 := S5.out.cs.free 33 k33
        have S6 := Lib.hid (S5.out.set 33 k33 (.slice As X10.length ns) hq0)
        rw [(gCells_set mi X8 _ _ _ _ _ _ _ HX32.out).1] at S6
        have R6 := Lib.hid (R5.out.set (j := 33) (v := .slice As X10.length ns) hne hDq)
        have ROW6 := Lib.hid (ROW5.out.set (j := 33) (v := .slice As X10.length ns) hql)
        clear hr5 hb5 CB S4 R4 S5 R5 ROW5 k33
        unfold nilS at d33
        go_wp2_with fail
        clear d33 f33
        generalize w5.setCell ⟨q, 33, none⟩ (.slice As X10.length ns) = w6 at *
        -- the suites
        have CP := Lib.hid (rpart_any R6.out 2 (by decide))
        refine CP.out.mono ?_
        intro e w7 hh
        cases h11 : flC (some R10) 2 with
        | none =>
          obtain ⟨rfl, hk⟩ := hh.1 h11
          have HX : Hid (e13 B = none) := Lib.hid (NN12.out (NN11.out (by unfold e11; rw [H10.out.1, h11]; exact muN _)))
          have B7 := Lib.hid (S6.out.kp hk hqg hg0 hD0).bl
          clear hh hk CP h11 NN10 NN11 NN12
          go_wp2_with fail
          exact ⟨rfl, con_fail (con_no mi HX.out) B7.out⟩
        | some R11 =>
          obtain ⟨F7, A7, c7, rfl, hf7, hr7, hk⟩ := hh.2 R11 h11
          have H11 : Hid (e11 B = muC (some R11) (decide ((flV (some R10) 2).length % 2 = 0)) ∧ flV (e10 B) 2 = flV (some R10) 2) := Lib.hid ⟨by unfold e11; rw [H10.out.1, h11], by rw [H10.out.1]⟩
          obtain ⟨hl1, hl2⟩ := flV_le h11
          have hxl : (flV (some R10) 2).length ≤ 1000000 := Nat.le_trans hl1 R6.out.le
          have S7 := Lib.hid (S6.out.kp hk hqg hg0 hD0)
          have R7 := Lib.hid hr7
          have ROW7 := Lib.hid (ROW6.out.kp hk hgl)
          have CS := Lib.hid (rsuites_any hf7 (Nat.le_trans hr7.dg (Nat.le_of_lt hr7.cs.lt)) rfl hxl)
          have HYL := Lib.hid hxl
          clear hh hk CP h11 NN10 hf7 hr7 hl1 hl2 hxl S6 R6 ROW6
          generalize flV (some R10) 2 = Y at *
          go_wp2_with fail
          refine CS.out.mono ?_
          intro e w8 hh
          cases hsu : suO Y with
          | none =>
            obtain ⟨rfl, hb⟩ := hh.1 hsu
            have hodd : ¬ Y.length % 2 = 0 := fun h => by unfold suO at hsu; rw [if_pos h] at hsu; cases hsu
            have HX : Hid (e13 B = none) := Lib.hid (NN12.out (NN11.out (by rw [H11.out.1, decide_eq_false hodd]; rfl)))
            have B8 := Lib.hid (S7.out.below hb hD0).bl
            clear hh hb CS hsu NN11 NN12 hodd
            go_wp2_with fail
            exact ⟨rfl, con_fail (con_no mi HX.out) B8.out⟩
          | some su =>
            obtain ⟨Au, nu, rfl, hrow8, hb⟩ := hh.2 su hsu
            have hev : Y.length % 2 = 0 ∧ su = suitesL Y := by
              unfold suO at hsu
              split at hsu
              · rename_i h; exact ⟨h, (Option.some.inj hsu).symm⟩
              · cases hsu
            have H11Y : Hid (flV (e10 B) 2 = Y) := Lib.hid H11.out.2
            have H11' : Hid (e11 B = some R11) := Lib.hid (by rw [H11.out.1, decide_eq_true hev.1]; rfl)
            have HSU : Hid (su = suitesL Y ∧ su.length ≤ 1000000) := Lib.hid ⟨hev.2, by rw [hev.2, suitesL_len Y.length Y (Nat.le_refl _)]; have := HYL.out; omega⟩
            have S8 := Lib.hid (S7.out.below hb hD0)
            have R8' := Lib.hid (R7.out.below hb)
            have ROW8 := Lib.hid (ROW7.out.below hb)
            have ROU8 := Lib.hid (hrow8.up (base' := w.heap.size) (Nat.le_trans S7.out.sz (Nat.le_succ _)))
            have k34 : 34 < (gCells mi X8 (.slice As X10.length ns) nilS nilS noStr (.int .i64 0) nilS).length := by rw [HL8.out]; decide
            have d34 := S8.out.cs.cell 34 k34
            rw [(gCells_at mi X8 _ _ _ _ _ _ HX32.out).2.1] at d34
            have f34 := S8.out.cs.free 34 k34
            have S9 := Lib.hid (S8.out.set 34 k34 (.slice Au su.length nu) hq0)
            rw [(gCells_set mi X8 _ _ _ _ _ _ _ HX32.out).2.1] at S9
            have R9' := Lib.hid (R8'.out.set (j := 34) (v := .slice Au su.length nu) hne hDq)
            have ROW9 := Lib.hid (ROW8.out.set (j := 34) (v := .slice Au su.length nu) hql)
            have ROU9 := Lib.hid (ROU8.out.set (j := 34) (v := .slice Au su.length nu) hql)
            clear hh hb CS hsu hev hrow8 S7 R7 ROW7 S8 R8' ROW8 ROU8 k34 NN11 H11
            unfold nilS at d34
            go_wp2_with fail
            clear d34 f34
            generalize w8.setCell ⟨q, 34, none⟩ (.slice Au su.length nu) = w9 at *
            -- the methods
            have CP := Lib.hid (rpart_any R9'.out 1 (by decide))
            refine CP.out.mono ?_
            intro e w10 hh
            cases h12 : flC (some R11) 1 with
            | none =>
              obtain ⟨rfl, hk⟩ := hh.1 h12
              have HX : Hid (e13 B = none) := Lib.hid (NN12.out (by unfold e12; rw [H11'.out]; exact h12))
              have B10 := Lib.hid (S9.out.kp hk hqg hg0 hD0).bl
              clear hh hk CP h12 NN12
              go_wp2_with fail
              exact ⟨rfl, con_fail (con_no mi HX.out) B10.out⟩
            | some R12 =>
              obtain ⟨F10, A10, c10, rfl, hf10, hr10, hk⟩ := hh.2 R12 h12
              have H12 : Hid (e12 B = some R12 ∧ flV (e11 B) 1 = flV (some R11) 1) := Lib.hid ⟨by unfold e12; rw [H11'.out]; exact h12, by rw [H11'.out]⟩
              obtain ⟨hl1, hl2⟩ := flV_le h12
              have hxl : (flV (some R11) 1).length ≤ 1000000 := Nat.le_trans hl1 R9'.out.le
              have S10 := Lib.hid (S9.out.kp hk hqg hg0 hD0)
              have R10' := Lib.hid hr10
              have ROW10 := Lib.hid (ROW9.out.kp hk hgl)
              have ROU10 := Lib.hid (ROU9.out.kp hk hgl)
              have CB := Lib.hid (bytesClone7 hf10 (Nat.le_trans hr10.dg (Nat.le_of_lt hr10.cs.lt)) rfl hxl)
              have HZL := Lib.hid hxl
              clear hh hk CP h12 NN12 hf10 hr10 hl1 hl2 hxl S9 R9' ROW9 ROU9
              generalize flV (some R11) 1 = Z at *
              unfold MadeP at CB
              go_wp2_with fail
              refine CB.out.mono ?_
              rintro e w11 ⟨Am, nm, rfl, hr11, hb⟩
              have S11 := Lib.hid (S10.out.below hb hD0)
              have R11' := Lib.hid (R10'.out.below hb)
              have ROW11 := Lib.hid (ROW10.out.below hb)
              have ROU11 := Lib.hid (ROU10.out.below hb)
              have ROM11 := Lib.hid (hr11.up S10.out.sz)
              have k35 : 35 < (gCells mi X8 (.slice As X10.length ns) (.slice Au su.length nu) nilS noStr (.int .i64 0) nilS).length := by rw [HL8.out]; decide
              have d35 := S11.out.cs.cell 35 k35
              rw [(gCells_at mi X8 _ _ _ _ _ _ HX32.out).2.2.1] at d35
              have f35 := S11.out.cs.free 35 k35
              have S12 := Lib.hid (S11.out.set 35 k35 (.slice Am Z.length nm) hq0)
              rw [(gCells_set mi X8 _ _ _ _ _ _ _ HX32.out).2.2.1] at S12
              have R12' := Lib.hid (R11'.out.set (j := 35) (v := .slice Am Z.length nm) hne hDq)
              have ROW12 := Lib.hid (ROW11.out.set (j := 35) (v := .slice Am Z.length nm) hql)
              have ROU12 := Lib.hid (ROU11.out.set (j := 35) (v := .slice Am Z.length nm) hql)
              have ROM12 := Lib.hid (ROM11.out.set (j := 35) (v := .slice Am Z.length nm) hql)
              clear hr11 hb CB S10 R10' ROW10 ROU10 S11 R11' ROW11 ROU11 ROM11 k35
              unfold nilS at d35
              go_wp2_with fail
              clear d35 f35
              generalize w11.setCell ⟨q, 35, none⟩ (.slice Am Z.length nm) = w12 at *
              -- the extensions' reader
              have CL := Lib.hid (rlast_any R12'.out 2 (by decide))
              refine CL.out.mono ?_
              intro e w13 hh
              cases h13 : reC (some R12) 2 with
              | none =>
                obtain ⟨rfl, hk⟩ := hh.1 h13
                have HX : Hid (e13 B = none) := Lib.hid (by unfold e13; rw [H12.out.1]; exact h13)
                have B13 := Lib.hid (S12.out.kp hk hqg hg0 hD0).bl
                clear hh hk CL h13
                go_wp2_with fail
                exact ⟨rfl, con_fail (con_no mi HX.out) B13.out⟩
              | some X13 =>
                obtain ⟨g5, A13, c13', rfl, hr13, hg5, hk⟩ := hh.2 X13 h13
                have HE13 : Hid (e13 B = some X13) := Lib.hid (by unfold e13; rw [H12.out.1]; exact h13)
                have hqg5 : q ≠ g5 := by have := S12.out.sz; omega
                have hDg5 : D0 ≤ g5 := by have := S12.out.sz; omega
                have hlg5 : w.heap.size ≤ g5 := by have := S12.out.sz; omega
                have HWX := Lib.hid hr13.le
                have S13 := Lib.hid (S12.out.kp hk hqg hg0 hD0)
                have ROW13 := Lib.hid (ROW12.out.kp hk hgl)
                have ROU13 := Lib.hid (ROU12.out.kp hk hgl)
                have ROM13 := Lib.hid (ROM12.out.kp hk hgl)
                have CE := Lib.hid (rexts_any hr13)
                have S12s := Lib.hid hk.size
                have SG5 : Hid (w12.heap.size ≤ g5) := Lib.hid hg5
                have AL : Hid (∀ x, (∃ a : Nat, x = some (⟨a, 0, none⟩ : Addr) ∧ a < w12.heap.size) → x ≠ some ⟨g5, 0, none⟩) := Lib.hid fun x ⟨a, e, ha⟩ e2 => by
                  rw [e] at e2
                  cases e2
                  omega
                have NG5 : Hid ((∀ b, As = some ⟨b, 0, none⟩ → b ≠ g5) ∧ (∀ b, Au = some ⟨b, 0, none⟩ → b ≠ g5) ∧ ∀ b, Am = some ⟨b, 0, none⟩ → b ≠ g5) := Lib.hid ⟨fun b e => by have := (ROW12.out.lt e).2; omega, fun b e => by have := (ROU12.out.lt e).2; omega, fun b e => by have := (ROM12.out.lt e).2; omega⟩
                clear hh hk CL h13 hr13 hg5 S12 R12' ROW12 ROU12 ROM12 AL
                go_wp2_with fail
                refine CE.out.mono ?_
                intro e w14 hh
                cases hu : unA X13 with
                | none =>
                  obtain ⟨rfl, hk⟩ := hh.1 hu
                  have HX := Lib.hid (con_un mi HE13.out hu)
                  have B14 := Lib.hid (S13.out.kp hk hqg5 hDg5 hD0).bl
                  clear hh hk CE hu
                  go_wp2_with fail
                  exact ⟨rfl, con_fail HX.out B14.out⟩
                | some l =>
                  obtain ⟨A14, c14, L, rfl, hL, hrow, hrb, hk⟩ := hh.2 l hu
                  obtain ⟨hll, hlx⟩ := unA_small hu HWX.out
                  have HX := Lib.hid (con_x mi HE13.out hu)
                  have S14 := Lib.hid (S13.out.kp hk hqg5 hDg5 hD0)
                  have ROW14 : Hid (RowG w14 w.heap.size As ns X10) := Lib.hid (ROW13.out.keep hk.size fun b e => hk.block b (ROW13.out.lt e).2 (NG5.out.1 b e))
                  have ROU14 : Hid (RowV 1 w14 w.heap.size Au su.length nu (intV su)) := Lib.hid (ROU13.out.keep hk.size fun b e => hk.block b (ROU13.out.lt e).2 (NG5.out.2.1 b e))
                  have ROM14 : Hid (RowG w14 w.heap.size Am nm Z) := Lib.hid (ROM13.out.keep hk.size fun b e => hk.block b (ROM13.out.lt e).2 (NG5.out.2.2 b e))
                  have HROW := Lib.hid hrow
                  have HRB := Lib.hid hrb
                  have HLL := Lib.hid hll
                  have HLX := Lib.hid hlx
                  have hXr : Xr w14.heap.size w14 L l := ⟨hL, fun x hx => (hrb x hx).rb fun k hk => hk.2.1⟩
                  have hex := hrow.exts hXr
                  have HEX := Lib.hid hex
                  have CI := Lib.hid (indexFunc_prog (c := c14) hex (Nat.le_refl _) rfl hll)
                  have HL := Lib.hid hL
                  have Z14 := Lib.hid (Nat.le_trans S13.out.sz (Nat.le_refl _))
                  have hw13q : q < w13.heap.size := Nat.lt_of_lt_of_le hql S13.out.sz
                  have BA : Hid ((∀ b, As = some ⟨b, 0, none⟩ → b < w13.heap.size) ∧ (∀ b, Au = some ⟨b, 0, none⟩ → b < w13.heap.size) ∧ (∀ b, Am = some ⟨b, 0, none⟩ → b < w13.heap.size) ∧ D0 ≤ w13.heap.size ∧ w.heap.size ≤ w13.heap.size) := Lib.hid ⟨fun b e => (ROW13.out.lt e).2, fun b e => (ROU13.out.lt e).2, fun b e => (ROM13.out.lt e).2, Nat.le_trans hD0 S13.out.sz, S13.out.sz⟩
                  clear hh hk CE hu hrow hrb hlx hXr hex hL S13 ROW13 ROU13 ROM13 NG5 HE13
                  generalize hD3 : w13.heap.size = D3 at *
                  clear hD3
                  go_wp2_with fail
                  refine CI.out.mono ?_
                  rintro e w15 ⟨rfl, hb⟩
                  have S15 := Lib.hid (S14.out.below hb hD0)
                  have ROW15 := Lib.hid (ROW14.out.below hb)
                  have ROU15 := Lib.hid (ROU14.out.below hb)
                  have ROM15 := Lib.hid (ROM14.out.below hb)
                  have HROW15 := Lib.hid (HROW.out.below hb)
                  have HEX15 := Lib.hid (HEX.out.keep (fun k hk => hb.block k hk) hb.size)
                  have HRB15 : Hid (∀ x ∈ L, RbS (Own D3 w15 A14) w15 x.a x.c x.d) := Lib.hid fun x hx => (HRB.out x hx).keep fun k hk => ⟨hb.block k hk.2.1, hk.1, Nat.lt_of_lt_of_le hk.2.1 hb.size, hk.2.2⟩
                  have k37 : 37 < (gCells mi X8 (.slice As X10.length ns) (.slice Au su.length nu) (.slice Am Z.length nm) noStr (.int .i64 0) nilS).length := by rw [HL8.out]; decide
                  have d37 := S15.out.cs.cell 37 k37
                  rw [(gCells_at mi X8 _ _ _ _ _ _ HX32.out).2.2.2.2.1] at d37
                  have f37 := S15.out.cs.free 37 k37
                  have S16 := Lib.hid (S15.out.set 37 k37 (.int .i64 (ixV l)) hq0)
                  rw [(gCells_set mi X8 _ _ _ _ _ _ _ HX32.out).2.2.2.2.1] at S16
                  have ROW16 := Lib.hid (ROW15.out.set (j := 37) (v := .int .i64 (ixV l)) hql)
                  have ROU16 := Lib.hid (ROU15.out.set (j := 37) (v := .int .i64 (ixV l)) hql)
                  have ROM16 := Lib.hid (ROM15.out.set (j := 37) (v := .int .i64 (ixV l)) hql)
                  have HROW16 := Lib.hid (HROW15.out.set (j := 37) (v := .int .i64 (ixV l)) hw13q)
                  clear hb CI S14 ROW14 ROU14 ROM14 HROW HEX HRB S15 ROW15 ROU15 ROM15 HROW15 k37
                  have HRB16 : Hid (∀ x ∈ L, RbS (Own D3 (w15.setCell ⟨q, 37, none⟩ (.int .i64 (ixV l))) A14) (w15.setCell ⟨q, 37, none⟩ (.int .i64 (ixV l))) x.a x.c x.d) := Lib.hid fun x hx => (HRB15.out x hx).keep fun k hk => ⟨Below.heap_setCell _ _ _ _ (by have := hk.1; show k ≠ q; omega), hk.1, by have := hk.2.1; simpa [World.setCell] using this, hk.2.2⟩
                  clear HRB15 HEX15
                  go_wp2_with fail
                  clear d37 f37
                  generalize w15.setCell ⟨q, 37, none⟩ (.int .i64 (ixV l)) = w16 at *
                  have k37 : 37 < (gCells mi X8 (.slice As X10.length ns) (.slice Au su.length nu) (.slice Am Z.length nm) noStr (.int .i64 (ixV l)) nilS).length := by rw [HL8.out]; decide
                  have d37 := S16.out.cs.cell 37 k37
                  rw [(gCells_at mi X8 _ _ _ _ _ _ HX32.out).2.2.2.2.1] at d37
                  have f37 := S16.out.cs.free 37 k37
                  clear k37
                  by_cases hi : atX l < l.length
                  · have hix : ixV l = (atX l : Nat) := by unfold ixV; rw [if_pos hi]
                    rw [hix] at d37 S16 ⊢
                    rw [decide_eq_true (show (0 : Int) ≤ ((atX l : Nat) : Int) by omega)]
                    have HI := Lib.hid hi
                    clear hix hi
                    generalize hk : atX l = k at *
                    have HK := Lib.hid hk
                    clear hk
                    have h0k : (0 : Int) ≤ (k : Int) := by omega
                    have hkl : (k : Int) < (l.length : Int) := by have := HI.out; omega
                    have hext : ExtsIn w16.heap.size w16 A14 l := HROW16.out.exts ⟨HL.out, fun x hx => (HRB16.out x hx).rb fun k hk => hk.2.1⟩
                    obtain ⟨b, off, Ad, cd, rfl, _, hc0, hc1, hrbk⟩ := hext k HI.out
                    have CH := Lib.hid (rhostIn_any (n := l[k].2.length) hrbk (Nat.le_refl _) rfl (HLX.out _ (List.getElem_mem HI.out)))
                    have HN : Hid (hoC l[k].2 = none → conG mi B = none) := Lib.hid fun e => by rw [HX.out]; exact (conX_at HK.out HI.out).1 e
                    have HY : Hid (∀ s, hoC l[k].2 = some s → conG mi B = some (grtE mi B l s)) := Lib.hid fun s e => by rw [HX.out]; exact (conX_at HK.out HI.out).2 s e
                    have HDL := Lib.hid (HLX.out _ (List.getElem_mem HI.out))
                    clear hext hrbk hc0 HX
                    generalize l[k].2 = dk at *
                    refine (must_yes _).mono ?_
                    rintro e w17 ⟨rfl, rfl⟩
                    go_wp2_with fail
                    refine CH.out.mono ?_
                    intro e w18 hh
                    cases hs : hoC dk with
                    | none =>
                      obtain ⟨rfl, hb⟩ := hh.1 hs
                      have HX := Lib.hid (HN.out hs)
                      have B18 := Lib.hid (S16.out.below hb hD0).bl
                      clear hh hb CH hs HN HY hc1 d37 f37
                      go_wp2_with fail
                      exact ⟨rfl, con_fail HX.out B18.out⟩
                    | some s =>
                      obtain ⟨rfl, hb⟩ := hh.2 s hs
                      have HX := Lib.hid (HY.out s hs)
                      have HSL : Hid (s.length ≤ 1000000) := Lib.hid (Nat.le_trans (ho_len hs) HDL.out)
                      have S18 := Lib.hid (S16.out.below hb hD0)
                      have ROW18 := Lib.hid (ROW16.out.below hb)
                      have ROU18 := Lib.hid (ROU16.out.below hb)
                      have ROM18 := Lib.hid (ROM16.out.below hb)
                      have HROW18 := Lib.hid (HROW16.out.below hb)
                      have HRB18 : Hid (∀ x ∈ L, RbS (Own D3 w18 (some ⟨b, off, none⟩)) w18 x.a x.c x.d) := Lib.hid fun x hx => (HRB16.out x hx).keep fun k hk => ⟨hb.block k hk.2.1, hk.1, Nat.lt_of_lt_of_le hk.2.1 hb.size, hk.2.2⟩
                      have k36 : 36 < (gCells mi X8 (.slice As X10.length ns) (.slice Au su.length nu) (.slice Am Z.length nm) noStr (.int .i64 k) nilS).length := by rw [HL8.out]; decide
                      have d36 := S18.out.cs.cell 36 k36
                      rw [(gCells_at mi X8 _ _ _ _ _ _ HX32.out).2.2.2.1] at d36
                      have f36 := S18.out.cs.free 36 k36
                      have S19 := Lib.hid (S18.out.set 36 k36 (.string ⟨s.toArray⟩) hq0)
                      rw [(gCells_set mi X8 _ _ _ _ _ _ _ HX32.out).2.2.2.1] at S19
                      have ROW19 := Lib.hid (ROW18.out.set (j := 36) (v := .string ⟨s.toArray⟩) hql)
                      have ROU19 := Lib.hid (ROU18.out.set (j := 36) (v := .string ⟨s.toArray⟩) hql)
                      have ROM19 := Lib.hid (ROM18.out.set (j := 36) (v := .string ⟨s.toArray⟩) hql)
                      have HROW19 := Lib.hid (HROW18.out.set (j := 36) (v := .string ⟨s.toArray⟩) hw13q)
                      have HRB19 : Hid (∀ x ∈ L, RbS (Own D3 (w18.setCell ⟨q, 36, none⟩ (.string ⟨s.toArray⟩)) (some ⟨b, off, none⟩)) (w18.setCell ⟨q, 36, none⟩ (.string ⟨s.toArray⟩)) x.a x.c x.d) := Lib.hid fun x hx => (HRB18.out x hx).keep fun k hk => ⟨Below.heap_setCell _ _ _ _ (by have := hk.1; show k ≠ q; omega), hk.1, by have := hk.2.1; simpa [World.setCell] using this, hk.2.2⟩
                      clear hh hb CH hs HN HY hc1 d37 f37 S16 ROW16 ROU16 ROM16 HROW16 HRB16 S18 ROW18 ROU18 ROM18 HROW18 HRB18 k36 HDL
                      unfold noStr at d36
                      go_wp2_with fail
                      clear d36 f36
                      generalize w18.setCell ⟨q, 36, none⟩ (.string ⟨s.toArray⟩) = w19 at *
                      have hl38 : (gCells mi X8 (.slice As X10.length ns) (.slice Au su.length nu) (.slice Am Z.length nm) (.string ⟨s.toArray⟩) (.int .i64 k) nilS).length = 39 := HL8.out _ _ _ _ _ _
                      have HL38 := Lib.hid hl38
                      have d37 := S19.out.cs.cell 37 (by rw [hl38]; decide)
                      rw [(gCells_at mi X8 _ _ _ _ _ _ HX32.out).2.2.2.2.1] at d37
                      have CD := Lib.hid (delete_prog (HROW19.out.below (below_drewN (Below.refl _ _) 1)) HI.out HLL.out (xcV_cell L))
                      have hkm : (k : Int) + 1 ≤ 9223372036854775807 := by have := HI.out; have := HLL.out; omega
                      have S20 := Lib.hid (S19.out.below (below_drewN (Below.refl _ _) 1) hD0)
                      have HW := Lib.hid hw13q
                      unfold DelP at CD
                      clear hl38
                      have HWR : Hid (IntKind.i64.wrap ((k : Int) + 1) = (k : Int) + 1) := Lib.hid (wrap_i64_7 (k + 1) (by have := HI.out; have := HLL.out; omega))
                      have FN : Hid (∀ w21, RowV 2 w21 D3 (some ⟨b, off, none⟩) (l.length - 1) c14 (delV (xcV L) k) → Below D3 w19.drew w21 → (∀ i, i < w19.drew.heap.size → (some ⟨b, off, none⟩ : Option Addr) ≠ some ⟨i, 0, none⟩ → w21.heap[i]? = w19.drew.heap[i]?) → Con w w21 q D0 (gCells mi X8 (.slice As X10.length ns) (.slice Au su.length nu) (.slice Am Z.length nm) (.string ⟨s.toArray⟩) (.int .i64 k) nilS) → ConP mi B q D0 w (.returned (.tuple #[])) (w21.setCell ⟨q, 38, none⟩ (.slice (some ⟨b, off, none⟩) (l.length - 1) c14))) := Lib.hid fun w21 hr hb ho hS => by
                        have hS2 := hS.set 38 (by rw [HL8.out]; decide) (.slice (some ⟨b, off, none⟩) (l.length - 1) c14) hq0
                        rw [(gCells_set mi X8 _ _ _ _ _ _ _ HX32.out).2.2.2.2.2] at hS2
                        have hqn : ∀ i, i ≠ q → (w21.setCell ⟨q, 38, none⟩ (.slice (some ⟨b, off, none⟩) (l.length - 1) c14)).heap[i]? = w21.heap[i]? := fun i hi => Below.heap_setCell _ _ _ _ hi
                        have hsz : (w21.setCell ⟨q, 38, none⟩ (.slice (some ⟨b, off, none⟩) (l.length - 1) c14)).heap.size = w21.heap.size := by simp [World.setCell]
                        have hs1 : w19.heap.size ≤ w21.heap.size := hb.size
                        refine con_end HX.out hS2 H9.out.2 H10.out.2 H11Y.out HSU.out.1 H12.out.2 HK.out HI.out HX32.out HXL.out HSU.out.2 HZL.out HSL.out HLL.out ?_ ?_ ?_ ((hr.set (j := 38) (v := (.slice (some ⟨b, off, none⟩) (l.length - 1) c14)) HW.out).up BA.out.2.2.2.2) HL.out (fun x hx => ?_) HLX.out
                        · exact (ROW19.out.keep hs1 fun i e => hb.block i (BA.out.1 i e)).set (j := 38) (v := (.slice (some ⟨b, off, none⟩) (l.length - 1) c14)) hql
                        · exact (ROU19.out.keep hs1 fun i e => hb.block i (BA.out.2.1 i e)).set (j := 38) (v := (.slice (some ⟨b, off, none⟩) (l.length - 1) c14)) hql
                        · exact (ROM19.out.keep hs1 fun i e => hb.block i (BA.out.2.2.1 i e)).set (j := 38) (v := (.slice (some ⟨b, off, none⟩) (l.length - 1) c14)) hql
                        · refine (HRB19.out x hx).keep fun i hi => ⟨(hqn i (by have := hi.1; have := HW.out; omega)).trans (ho i hi.2.1 hi.2.2), ?_, ?_⟩
                          · have := hi.1; have := BA.out.2.2.2.2; omega
                          · rw [hsz]; exact Nat.lt_of_lt_of_le hi.2.1 hs1
                      refine wp_region_any (by kernel_rfl) ?_
                      change wpAny _ _ _ _ _ _ _ (World.drew _)
                      refine wpAny_take (i := 0) (v := .pointer (some ⟨q, 0, none⟩)) rfl (by kernel_rfl) (by kernel_rfl) (by kernel_rfl) (fun _ _ _ h => h) (Or.inl ⟨by rfl, fun w => by go_simp⟩) ?_
                      refine wpAny_take (i := 1) (v := .slice (some ⟨b, off, none⟩) l.length c14) rfl (by kernel_rfl) (by kernel_rfl) (by kernel_rfl) (fun _ _ _ h => h) (Or.inl ⟨by rfl, fun w => by go_simp⟩) ?_
                      refine wpAny_take (i := 2) (v := .pointer (some ⟨q, 0, none⟩)) rfl (by kernel_rfl) (by kernel_rfl) (by kernel_rfl) (fun _ _ _ h => h) (Or.inl ⟨by rfl, fun w => by go_simp⟩) ?_
                      refine wpAny_take (i := 3) (v := .pointer (some ⟨q, 0, none⟩)) rfl (by kernel_rfl) (by kernel_rfl) (by kernel_rfl) (fun _ _ _ h => h) (Or.inl ⟨by rfl, fun w => by go_simp⟩) ?_
                      refine wpAny_take (i := 4) (v := .pointer (some ⟨q, 37, none⟩)) rfl (by kernel_rfl) (by kernel_rfl) (by kernel_rfl) (fun _ _ _ h => h) (Or.inl ⟨by rfl, fun w => by go_simp⟩) ?_
                      refine wpAny_take (i := 6) (v := .pointer (some ⟨q, 0, none⟩)) rfl (by kernel_rfl) (by kernel_rfl) (by kernel_rfl) (fun _ _ _ h => h) (Or.inl ⟨by rfl, fun w => by go_simp⟩) ?_
                      refine wpAny_take (i := 7) (v := .pointer (some ⟨q, 0, none⟩)) rfl (by kernel_rfl) (by kernel_rfl) (by kernel_rfl) (fun _ _ _ h => h) (Or.inl ⟨by rfl, fun w => by go_simp⟩) ?_
                      refine wpAny_take (i := 8) (v := .pointer (some ⟨q, 37, none⟩)) rfl (by kernel_rfl) (by kernel_rfl) (by kernel_rfl) (fun _ _ _ h => h) (Or.inl ⟨by rfl, fun w => by go_simp⟩) ?_
                      refine wpAny_ready (rs := [5, 9]) (by kernel_rfl) (by simp) (AllReady.cons rfl (fun K hK => ?_) (AllReady.cons rfl (fun K hK => ?_) AllReady.nil))
                      · go_simp
                        refine hK _ _ ?_
                        refine wpAny_ready (rs := [9]) (by kernel_rfl) (by simp) (AllReady.cons rfl (fun K hK => ?_) AllReady.nil)
                        go_simp
                        refine hK _ _ ?_
                        refine wpAny_take (i := 10) (v := .int .i64 ((k : Int) + 1)) rfl (by kernel_rfl) (by kernel_rfl) (by kernel_rfl) (fun _ _ _ h => h) (Or.inl ⟨by rfl, fun w => by go_simp; exact HWR.out⟩) ?_
                        refine wpAny_ready (rs := [11]) (by kernel_rfl) (by simp) (AllReady.cons rfl (fun K hK => ?_) AllReady.nil)
                        go_simp
                        refine CD.out.mono ?_
                        rintro e w21 ⟨rfl, hr21, hb21, ho21⟩
                        have S21 := Lib.hid (S20.out.low hb21 BA.out.2.2.2.1 HW.out)
                        have d38 := (S21.out.cs.cell 38 (by rw [HL38.out]; decide)).trans (gCells_at mi X8 _ _ _ _ _ _ HX32.out).2.2.2.2.2
                        have f38 := S21.out.cs.free 38 (by rw [HL38.out]; decide)
                        unfold nilS at d38
                        have FIN := Lib.hid (FN.out w21 hr21 hb21 ho21 S21.out)
                        clear hr21 hb21 ho21 CD S20 S21 FN
                        refine hK _ _ ?_
                        refine wpAny_take (i := 12) (v := .pointer (some ⟨q, 0, none⟩)) rfl (by kernel_rfl) (by kernel_rfl) (by kernel_rfl) (fun _ _ _ h => h) (Or.inl ⟨by rfl, fun w => by go_simp⟩) ?_
                        refine wpAny_take (i := 13) (v := .pointer (some ⟨q, 38, none⟩)) rfl (by kernel_rfl) (by kernel_rfl) (by kernel_rfl) (fun _ _ _ h => h) (Or.inl ⟨by rfl, fun w => by go_simp⟩) ?_
                        refine wpAny_ready (rs := [14]) (by kernel_rfl) (by simp) (AllReady.cons rfl (fun K hK => ?_) AllReady.nil)
                        go_simp
                        refine hK _ _ ?_
                        refine wpAny_done (by kernel_rfl) ?_ _
                        go_end0
                        exact FIN.out
                      · go_simp
                        refine hK _ _ ?_
                        refine wpAny_take (i := 10) (v := .int .i64 ((k : Int) + 1)) rfl (by kernel_rfl) (by kernel_rfl) (by kernel_rfl) (fun _ _ _ h => h) (Or.inl ⟨by rfl, fun w => by go_simp; exact HWR.out⟩) ?_
                        refine wpAny_ready (rs := [5]) (by kernel_rfl) (by simp) (AllReady.cons rfl (fun K hK => ?_) AllReady.nil)
                        go_simp
                        refine hK _ _ ?_
                        refine wpAny_ready (rs := [11]) (by kernel_rfl) (by simp) (AllReady.cons rfl (fun K hK => ?_) AllReady.nil)
                        go_simp
                        refine CD.out.mono ?_
                        rintro e w21 ⟨rfl, hr21, hb21, ho21⟩
                        have S21 := Lib.hid (S20.out.low hb21 BA.out.2.2.2.1 HW.out)
                        have d38 := (S21.out.cs.cell 38 (by rw [HL38.out]; decide)).trans (gCells_at mi X8 _ _ _ _ _ _ HX32.out).2.2.2.2.2
                        have f38 := S21.out.cs.free 38 (by rw [HL38.out]; decide)
                        unfold nilS at d38
                        have FIN := Lib.hid (FN.out w21 hr21 hb21 ho21 S21.out)
                        clear hr21 hb21 ho21 CD S20 S21 FN
                        refine hK _ _ ?_
                        refine wpAny_take (i := 12) (v := .pointer (some ⟨q, 0, none⟩)) rfl (by kernel_rfl) (by kernel_rfl) (by kernel_rfl) (fun _ _ _ h => h) (Or.inl ⟨by rfl, fun w => by go_simp⟩) ?_
                        refine wpAny_take (i := 13) (v := .pointer (some ⟨q, 38, none⟩)) rfl (by kernel_rfl) (by kernel_rfl) (by kernel_rfl) (fun _ _ _ h => h) (Or.inl ⟨by rfl, fun w => by go_simp⟩) ?_
                        refine wpAny_ready (rs := [14]) (by kernel_rfl) (by simp) (AllReady.cons rfl (fun K hK => ?_) AllReady.nil)
                        go_simp
                        refine hK _ _ ?_
                        refine wpAny_done (by kernel_rfl) ?_ _
                        go_end0
                        exact FIN.out
                  · have hix : ixV l = -1 := by unfold ixV; rw [if_neg hi]
                    rw [hix, decide_eq_false (show ¬ (0 : Int) ≤ -1 by decide)]
                    have HX2 : Hid (conG mi B = none) := Lib.hid (by rw [HX.out]; unfold conX; rw [dif_neg hi])
                    have B16 := Lib.hid S16.out.bl
                    clear hix hi HX d37
                    refine (must_not _).mono ?_
                    rintro e w' ⟨rfl, rfl⟩
                    go_wp2_with fail
                    exact ⟨rfl, con_fail HX2.out B16.out⟩
end Go.Proofs.YtiakbmllpnabnaaGreatDoor
