/- made: a packet out of a seed. -/
import Derived.Test.YtajkbkllgbalkaaUw
namespace Go.Proofs.Ytajkbkllgbalkaa
open Go Go.RowKit

/-- a seed -/
structure Sd where
  k : Int
  n0 : Int
  n1 : Int
  n2 : Int
  n3 : Int
  n4 : Int
  n5 : Int
  text : Bs
  ls : List Bs
  A : Option Addr
  c : Nat
abbrev sdA (s : Sd) : Array Value := #[.int .i64 s.k, .int .i64 s.n0, .int .i64 s.n1, .int .i64 s.n2, .int .i64 s.n3, .int .i64 s.n4, .int .i64 s.n5, .string ⟨s.text.toArray⟩, .slice s.A s.ls.length s.c]
structure SdV (D : Nat) (w : World) (s : Sd) : Prop where
  ts : Ts D w s.A s.c s.ls
  few : s.ls.length ≤ maxLen
  short : ∀ x ∈ s.ls, x.length ≤ maxLen
  txt : s.text.length ≤ maxLen
theorem SdV.below {w w' : World} {s : Sd} (h : SdV w.heap.size w s) (hb : Below w.heap.size w w') : SdV w'.heap.size w' s := ⟨h.ts.below hb, h.few, h.short, h.txt⟩
/-- a packet, made out of a seed -/
def MadP (w : World) (e : Ending) (w' : World) : Prop := ∃ (p : Psh) (A : Option Addr) (n c : Nat), e = .returned (.agg (pshA p A n c)) ∧ checkP p = true ∧ Own w' w.heap.size (.slice A n c) p.lines ∧ Below w.heap.size w w'
theorem builtKV (K V : Int) : Try.prog.built 24 [(0, .int .i64 K), (1, .int .i64 V)] = some (pshA { zeroP with kind := K, ver := V } none 0 0) := by kernel_rfl
theorem run_allocP (e : Operand → Value) (o : Oper) (ho : o.op = .alloc 24) (w : World) : (execOp e o).run Try.prog w = .ok (.value (.pointer (some ⟨w.heap.size, 0, none⟩))) (w.alloc (.cells (pshA zeroP none 0 0) 24)) := by
  unfold execOp
  simp only [ho]
  go_simp
  rfl
theorem wp_allocP {o : Oper} {a : Act} {w : World} {K : Act → World → Prop} {Q : Exit → Act → World → Prop} (ho : o.op = .alloc 24) (g : Nat) (hg : w.heap.size = g) (h : K (a.put o.dst (.pointer (some ⟨g, 0, none⟩))) (w.alloc (.cells (pshA zeroP none 0 0) 24))) : o.wp Try.prog a w K Q := by
  subst hg
  unfold Oper.wp
  rw [run_allocP a.eval o ho w]
  exact h
/-- the three boxes of made -/
structure Mst (w wr : World) (s : Sd) (p : Psh) (A : Option Addr) (n c : Nat) : Prop where
  bel : Below w.heap.size w wr
  sd : Box wr w.heap.size 44 (sdA s)
  rs : Box wr (w.heap.size + 1) 24 (pshA zeroP none 0 0)
  bx : Box wr (w.heap.size + 2) 24 (pshA p A n c)
  own : Own wr (w.heap.size + 3) (.slice A n c) p.lines
  sz : w.heap.size + 3 ≤ wr.heap.size
theorem Mst.low {w wr wx : World} {s : Sd} {p : Psh} {A : Option Addr} {n c : Nat} (h : Mst w wr s p A n c) (hb : Below wr.heap.size wr wx) : Mst w wx s p A n c := by
  have hz := h.sz
  exact ⟨h.bel.trans (hb.mono (by omega)), h.sd.below hb, h.rs.below hb, h.bx.below hb, h.own.below hb, Nat.le_trans hz hb.size⟩
theorem Mst.set {w wr : World} {s : Sd} {p p' : Psh} {A : Option Addr} {n c : Nat} (h : Mst w wr s p A n c) (j : Nat) (v : Value) (hp : (pshA p A n c).setIfInBounds j v = pshA p' A n c) (hl : p'.lines = p.lines) : Mst w (wr.setCell ⟨w.heap.size + 2, j, none⟩ v) s p' A n c := by
  have hz := h.sz
  refine ⟨h.bel.setCell (p := ⟨w.heap.size + 2, j, none⟩) (by show _ ≤ w.heap.size + 2; omega) v, h.sd.setOther (by omega), h.rs.setOther (by omega), ?_, ?_, by simpa [World.setCell] using hz⟩
  · rw [← hp]; exact h.bx.set j v
  · rw [hl]; exact h.own.setBox h.bx
theorem Mst.setL {w wr : World} {s : Sd} {p : Psh} {A A' : Option Addr} {n c n' c' : Nat} {L : List Bs} (h : Mst w wr s p A n c) (ho : Own wr (w.heap.size + 3) (.slice A' n' c') L) : Mst w (wr.setCell ⟨w.heap.size + 2, 8, none⟩ (.slice A' n' c')) s { p with lines := L } A' n' c' := by
  have hz := h.sz
  refine ⟨h.bel.setCell (p := ⟨w.heap.size + 2, 8, none⟩) (by show _ ≤ w.heap.size + 2; omega) _, h.sd.setOther (by omega), h.rs.setOther (by omega), ?_, ?_, by simpa [World.setCell] using hz⟩
  · exact h.bx.set 8 _
  · exact ho.setBox h.bx
theorem ext_take (x : Bs) (m : Nat) : ({ data := x.toArray } : ByteArray).extract 0 m = ⟨(x.take m).toArray⟩ := by
  apply ByteArray.ext
  rw [ByteArray.data_extract]
  simp
theorem ck1 {V T : Int} {x : Bs} (hV : 1 ≤ V ∧ V ≤ 9007199254740991) (hT : 0 ≤ T ∧ T ≤ 9007199254740991) (hx : x.length ≤ 500) : checkP { zeroP with kind := 1, ver := V, tick := T, text := x } = true := by
  simp [checkP, all8, stepK, fldL, fldN, fitsF, equalF, numF, inR, leastV, zeroP]
  omega
theorem ck3 {V T : Int} (hV : 1 ≤ V ∧ V ≤ 9007199254740991) (hT : 0 ≤ T ∧ T ≤ 9007199254740991) : checkP { zeroP with kind := 3, ver := V, tick := T } = true := by
  simp [checkP, all8, stepK, fldL, fldN, fitsF, equalF, numF, inR, leastV, zeroP]
  omega
theorem ck45 {K V N : Int} (hK : K = 4 ∨ K = 5) (hV : 1 ≤ V ∧ V ≤ 9007199254740991) (hN : 0 ≤ N ∧ N ≤ 6) : checkP { zeroP with kind := K, ver := V, node := N } = true := by
  rcases hK with rfl | rfl <;> simp [checkP, all8, stepK, fldL, fldN, fitsF, equalF, numF, inR, leastV, zeroP] <;> omega
theorem ck2 {V F T X Y : Int} {L : List Bs} (hV : 2 ≤ V ∧ V ≤ 9007199254740991) (hF : 1 ≤ F ∧ F < V) (hT : 0 ≤ T ∧ T ≤ 9007199254740991) (hX : 0 ≤ X ∧ X ≤ 65536) (hY : 0 ≤ Y ∧ Y ≤ 65536) (hL : areL L = true) : checkP { zeroP with kind := 2, ver := V, frm := F, tick := T, head := X, tail := Y, lines := L } = true := by
  simp [checkP, all8, stepK, fldL, fldN, fitsF, equalF, numF, inR, leastV, zeroP, hL]
  omega
theorem flats_are (ls : List Bs) (j : Nat) (hj : j ≤ 20) : areL ((ls.take j).map flatP) = true := by
  have h1 : ∀ l : List Bs, sumL (l.map flatP) ≤ 60 * l.length := fun l => by
    induction l with
    | nil => exact Nat.le_refl _
    | cons x l ih =>
      have := flatP_len x
      simp only [sumL, List.map_cons, List.sum_cons, List.length_cons] at ih ⊢
      omega
  have h2 := h1 (ls.take j)
  have h3 : (ls.take j).length ≤ 20 := by rw [List.length_take]; omega
  simp only [areL, Bool.and_eq_true, decide_eq_true_eq, List.all_eq_true]
  refine ⟨⟨fun y hy => ?_, by rw [List.length_map]; omega⟩, by omega⟩
  obtain ⟨z, _, rfl⟩ := List.mem_map.1 hy
  exact flatP_noLf z
theorem Box.belowB {w w' : World} {g B : Nat} {t : TypeId} {vs : Array Value} (h : Box w g t vs) (hg : g < B) (hb : Below B w w') : Box w' g t vs := (hb.block g hg).trans h
theorem mst_mk {w wr : World} {s : Sd} {p : Psh} {A A' : Option Addr} {n c n' c' : Nat} {L : List Bs} (bel : Below w.heap.size w wr) (sd : Box wr w.heap.size 44 (sdA s)) (rs : Box wr (w.heap.size + 1) 24 (pshA zeroP none 0 0)) (bx : Box wr (w.heap.size + 2) 24 (pshA p A n c)) (ho : Own wr (w.heap.size + 3) (.slice A' n' c') L) (hz : w.heap.size + 3 ≤ wr.heap.size) :
    Mst w (wr.setCell ⟨w.heap.size + 2, 8, none⟩ (.slice A' n' c')) s { p with lines := L } A' n' c' := by
  refine ⟨bel.setCell (p := ⟨w.heap.size + 2, 8, none⟩) (by show _ ≤ w.heap.size + 2; omega) _, sd.setOther (by omega), rs.setOther (by omega), bx.set 8 _, ho.setBox bx, by simpa [World.setCell] using hz⟩
theorem Mst.drew {w wr : World} {s : Sd} {p : Psh} {A : Option Addr} {n c : Nat} (h : Mst w wr s p A n c) : Mst w wr.drew s p A n c := ⟨below_drewN h.bel 1, h.sd, h.rs, h.bx, h.own, h.sz⟩
theorem wp_pushL {o : Oper} {a : Act} {K : Act → World → Prop} {Q : Exit → Act → World → Prop} (s x : Operand)
    (ho : o.op = .call { callee := .builtin .append, args := #[s, x], argTypes := #[22, 22] }) (w : World) (base : Nat) (v : Value) (ws : List (List UInt8)) (y : ByteArray)
    (hs : a.eval s = v) (hown : Own w base v ws) (hx : a.eval x = .slice (some ⟨w.heap.size, 0, none⟩) 1 1) (hbase : base ≤ w.heap.size) (hlen : ws.length ≤ 1000000000)
    (h : ∀ v' w', Own w' base v' (ws ++ [y.data.toList]) → Below base w w' → K (a.put o.dst v') w') :
    o.wp Try.prog a (w.alloc (.cells #[.string y] 9)) K Q := by
  obtain ⟨i0, hi, hz0, hz1, hz2⟩ := info_parts info9
  refine wp_append_own _ s x 22 ho base 9 i0 (.string ⟨#[]⟩) 1 16 Try.underlying22 hi hz0 hz1 hz2 rfl (by decide) v ws.length (ws.map strV) hs (World.ownsRow.alloc hown _)
    ⟨w.heap.size, 0, none⟩ 1 1 [.string y] hx rfl ?_ ?_ (by unfold maxLen; omega) (by omega) (by simp; omega) ?_
  · intro j u hj
    match j, hj with
    | 0, hj => simp at hj; subst hj; simp [Addr.add]
    | j + 1, hj => simp at hj
  · intro u hu; simp at hu; subst hu; rfl
  · intro v' w' ho' hg _
    refine h v' w' ?_ ?_
    · unfold Own; rw [List.map_append, List.length_append, List.map_cons, strV_data]; exact ho'
    · exact ((Below.refl base w).alloc hbase _).grown hg (by simp; omega) (fun k hk => (World.ownsRow.lt hown k hk).1)
/-- the end of made -/
theorem mst_end {w wr : World} {s : Sd} {p : Psh} {A : Option Addr} {n c : Nat} (h : Mst w wr s p A n c) :
    Box (wr.setRow (w.heap.size + 1) (pshA p A n c)) (w.heap.size + 1) 24 (pshA p A n c) ∧ Own (wr.setRow (w.heap.size + 1) (pshA p A n c)) w.heap.size (.slice A n c) p.lines ∧ Below w.heap.size w (wr.setRow (w.heap.size + 1) (pshA p A n c)) :=
  ⟨setRow_heap _ _ _ _ _ _ h.rs, (h.own.setRow (by omega)).up (by omega), below_setRow11 h.bel (by omega) _⟩
set_option maxRecDepth 100000 in
set_option maxHeartbeats 1000000 in
theorem made_any {w : World} {s : Sd} (h : SdV w.heap.size w s) : Calls Try.prog 29 #[.agg (sdA s)] w (MadP w) := by
  have H := Lib.hid h
  have a0 := Int.emod_nonneg s.k (show (5 : Int) ≠ 0 by decide)
  have a1 := Int.emod_lt_of_pos s.k (show (0 : Int) < 5 by decide)
  have b0 := Int.emod_nonneg s.n0 (show (9007199254740991 : Int) ≠ 0 by decide)
  have b1 := Int.emod_lt_of_pos s.n0 (show (0 : Int) < 9007199254740991 by decide)
  have B1 : Hid (∀ w, Calls Try.prog 31 #[.int .i64 s.k, .int .i64 5] w fun e w' => e = .returned (.int .i64 (s.k % 5)) ∧ w = w') := Lib.hid fun w => bring_any s.k 5 w (by decide) (by decide)
  have B2 : Hid (∀ w, Calls Try.prog 31 #[.int .i64 s.n0, .int .i64 9007199254740991] w fun e w' => e = .returned (.int .i64 (s.n0 % 9007199254740991)) ∧ w = w') := Lib.hid fun w => bring_any s.n0 9007199254740991 w (by decide) (by decide)
  obtain ⟨K, hK⟩ : ∃ K, K = 1 + s.k % 5 := ⟨_, rfl⟩
  obtain ⟨V, hV⟩ : ∃ V, V = 1 + s.n0 % 9007199254740991 := ⟨_, rfl⟩
  have q1 : IntKind.i64.wrap (1 + s.k % 5) = K := by rw [IntKind.wrap_i64]; omega
  have q2 : IntKind.i64.wrap (1 + s.n0 % 9007199254740991) = V := by rw [IntKind.wrap_i64]; omega
  have HK : Hid (K = 1 ∨ K = 2 ∨ K = 3 ∨ K = 4 ∨ K = 5) := Lib.hid (by omega)
  have HV : Hid (1 ≤ V ∧ V ≤ 9007199254740991) := Lib.hid (by omega)
  clear h a0 a1 b0 b1 hK hV
  generalize s.k % 5 = K0 at *
  generalize s.n0 % 9007199254740991 = V0 at *
  go_enter Try.func29, Try.ntmps29
  go_upto_region 1 with fail
  have X0 := box_new w 44 (sdA s)
  have M1 : Hid (Below w.heap.size w ((w.alloc (.cells (sdA s) 44)).alloc (.cells #[.int .i64 0, .int .i64 0, .int .i64 0, .int .i64 0, .int .i64 0, .int .i64 0, .int .i64 0, .string { data := #[] }, .slice none 0 0] 24)) ∧ Box ((w.alloc (.cells (sdA s) 44)).alloc (.cells #[.int .i64 0, .int .i64 0, .int .i64 0, .int .i64 0, .int .i64 0, .int .i64 0, .int .i64 0, .string { data := #[] }, .slice none 0 0] 24)) w.heap.size 44 (sdA s) ∧ Box ((w.alloc (.cells (sdA s) 44)).alloc (.cells #[.int .i64 0, .int .i64 0, .int .i64 0, .int .i64 0, .int .i64 0, .int .i64 0, .int .i64 0, .string { data := #[] }, .slice none 0 0] 24)) (w.heap.size + 1) 24 #[.int .i64 0, .int .i64 0, .int .i64 0, .int .i64 0, .int .i64 0, .int .i64 0, .int .i64 0, .string { data := #[] }, .slice none 0 0] ∧ ((w.alloc (.cells (sdA s) 44)).alloc (.cells #[.int .i64 0, .int .i64 0, .int .i64 0, .int .i64 0, .int .i64 0, .int .i64 0, .int .i64 0, .string { data := #[] }, .slice none 0 0] 24)).heap.size = w.heap.size + 2) :=
    Lib.hid ⟨(below_new w _).alloc (by simp) _, X0.below (below_new _ _), by have := box_new (w.alloc (.cells (sdA s) 44)) 24 #[.int .i64 0, .int .i64 0, .int .i64 0, .int .i64 0, .int .i64 0, .int .i64 0, .int .i64 0, .string { data := #[] }, .slice none 0 0]; simpa using this, by simp⟩
  clear X0
  generalize (w.alloc (.cells (sdA s) 44)).alloc (.cells #[.int .i64 0, .int .i64 0, .int .i64 0, .int .i64 0, .int .i64 0, .int .i64 0, .int .i64 0, .string { data := #[] }, .slice none 0 0] 24) = w1 at *
  have HSZ : Hid (w1.drew.heap.size = w.heap.size + 2) := Lib.hid M1.out.2.2.2
  have AL : Hid (Box (w1.drew.alloc (.cells (pshA zeroP none 0 0) 24)) w.heap.size 44 (sdA s)) := Lib.hid ((show Box w1.drew w.heap.size _ _ from M1.out.2.1).below (below_new _ _))
  have ALB : Hid (Box (w1.drew.alloc (.cells (pshA zeroP none 0 0) 24)) (w.heap.size + 2) 24 (pshA zeroP none 0 0)) := Lib.hid (by rw [← HSZ.out]; exact box_new _ _ _)
  have FIN : Hid (Mst w ((w1.drew.alloc (.cells (pshA zeroP none 0 0) 24)).setRow (w.heap.size + 2) (pshA { zeroP with kind := K, ver := V } none 0 0)) s { zeroP with kind := K, ver := V } none 0 0) := Lib.hid (by
    obtain ⟨hb, h1, h2, h3⟩ := M1.out
    have hb1 : Below w.heap.size w (w1.drew.alloc (.cells (pshA zeroP none 0 0) 24)) := (below_drewN hb 1).alloc (by show _ ≤ w1.heap.size; omega) _
    refine ⟨below_setRow11 hb1 (by omega) _, (setRow_other _ _ _ _ (by omega)).trans AL.out, (setRow_other _ _ _ _ (by omega)).trans ((show Box w1.drew (w.heap.size + 1) _ _ from h2).below (below_new _ _)), setRow_heap _ _ _ _ _ _ ALB.out, Own.nil _ _, ?_⟩
    rw [size_setRow]
    have : (w1.drew.alloc (.cells (pshA zeroP none 0 0) 24)).heap.size = w1.heap.size + 1 := by simp
    omega)
  go_cut [3] from 5 to 14 (fun v wx => v = .pointer (some ⟨w.heap.size + 2, 0, none⟩) ∧ Mst w wx s { zeroP with kind := K, ver := V } none 0 0)
  case first =>
    -- BEGIN
    refine wp_region_held_drew (S := fun w' => Box w' w.heap.size 44 (sdA s)) (by kernel_rfl) M1.out.2.1 (fun hH => ?_)
    refine wpAnyH_take (i := 0) (v := .pointer (some ⟨w.heap.size, 0, none⟩)) rfl (by kernel_rfl) (by kernel_rfl) (by kernel_rfl) (fun _ _ _ h => h) (Or.inl ⟨by rfl, fun w' hw => by go_simp⟩) hH ?_
    refine wpAnyH_take (i := 1) (v := .int .i64 s.k) rfl (by kernel_rfl) (by kernel_rfl) (by kernel_rfl) (fun _ _ _ h => h) (Or.inl ⟨by rfl, fun w' hw => by have hc : w'.cell? ⟨w.heap.size, 0, none⟩ = some (.int .i64 s.k) := Box.cell hw 0; go_simp⟩) hH ?_
    refine wpAnyH_take (i := 4) (v := .pointer (some ⟨w.heap.size, 1, none⟩)) rfl (by kernel_rfl) (by kernel_rfl) (by kernel_rfl) (fun _ _ _ h => h) (Or.inl ⟨by rfl, fun w' hw => by go_simp⟩) hH ?_
    refine wpAnyH_take (i := 5) (v := .pointer (some ⟨w.heap.size, 1, none⟩)) rfl (by kernel_rfl) (by kernel_rfl) (by kernel_rfl) (fun _ _ _ h => h) (Or.inl ⟨by rfl, fun w' hw => by go_simp⟩) hH ?_
    refine wpAnyH_take (i := 6) (v := .int .i64 s.n0) rfl (by kernel_rfl) (by kernel_rfl) (by kernel_rfl) (fun _ _ _ h => h) (Or.inl ⟨by rfl, fun w' hw => by have hc : w'.cell? ⟨w.heap.size, 1, none⟩ = some (.int .i64 s.n0) := Box.cell hw 1; go_simp⟩) hH ?_
    simp only [Act.put, List.setIfInBounds_toArray, List.set_cons_zero, List.set_cons_succ, List.getElem_toArray, List.getElem_cons_zero, List.getElem_cons_succ]
    refine wpAnyH_ready (rs := [2, 10]) (by kernel_rfl) (by simp) (AllReadyH.cons rfl (fun KK hK => ?_) (AllReadyH.cons rfl (fun KK hK => ?_) AllReadyH.nil))
    ·
      go_simp
      refine (B1.out _).mono ?_
      rintro e wx ⟨rfl, rfl⟩
      refine hK.out _ _ hH (fun hH => ?_)
      clear hK
      refine wpAnyH_take (i := 3) (v := .int .i64 K) rfl (by kernel_rfl) (by kernel_rfl) (by kernel_rfl) (fun _ _ _ h => h) (Or.inl ⟨by rfl, fun w' hw => by go_simp⟩) hH ?_
      refine wpAnyH_ready (rs := [7, 10]) (by kernel_rfl) (by simp) (AllReadyH.cons rfl (fun KK hK => ?_) (AllReadyH.cons rfl (fun KK hK => ?_) AllReadyH.nil))
      ·
        go_simp
        refine (B2.out _).mono ?_
        rintro e wx ⟨rfl, rfl⟩
        refine hK.out _ _ hH (fun hH => ?_)
        clear hK
        refine wpAnyH_take (i := 8) (v := .int .i64 V) rfl (by kernel_rfl) (by kernel_rfl) (by kernel_rfl) (fun _ _ _ h => h) (Or.inl ⟨by rfl, fun w' hw => by go_simp⟩) hH ?_
        simp only [Act.put, List.setIfInBounds_toArray, List.set_cons_zero, List.set_cons_succ, List.getElem_toArray, List.getElem_cons_zero, List.getElem_cons_succ]
        refine wpAnyH_take (i := 9) (v := .agg (pshA { zeroP with kind := K, ver := V } none 0 0)) rfl (by kernel_rfl) (by kernel_rfl) (by kernel_rfl) (fun _ _ _ h => h) (yieldsIf_buildV (by rfl) 24 _ rfl [(0, .int .i64 K), (1, .int .i64 V)] (by simp [Act.eval]) _ (builtKV K V)) hH ?_
        refine wpAnyH_ready (rs := [10]) (by kernel_rfl) (by simp) (AllReadyH.cons rfl (fun KK hK => ?_) AllReadyH.nil)
        rw [if_pos (by kernel_rfl)]
        refine wp_allocP rfl (w.heap.size + 2) HSZ.out ?_
        refine hK.out _ _ AL.out (fun hH => ?_)
        clear hK
        refine wpAnyH_ready (rs := [11]) (by kernel_rfl) (by simp) (AllReadyH.cons rfl (fun KK hK => ?_) AllReadyH.nil)
        rw [if_pos (by kernel_rfl)]
        refine wp_store_row 24 (.tmp 3) (.tmp 14) rfl (w.heap.size + 2) (pshA { zeroP with kind := K, ver := V } none 0 0) rfl rfl 24 _ ALB.out pshInfo rfl (pshA_one _ _ _ _) ?_
        refine hK.out _ _ ((setRow_other _ _ _ _ (show w.heap.size ≠ w.heap.size + 2 by omega)).trans hH) (fun hH => ?_)
        clear hK
        refine wpAnyH_done (by kernel_rfl) ?_ _
        simp only [Act.put, List.setIfInBounds_toArray, List.set_cons_zero, List.set_cons_succ, List.getElem_toArray, List.getElem_cons_zero, List.getElem_cons_succ]
        go_wp2_with fail
        go_meet
        case rel => exact ⟨rfl, FIN.out⟩
      ·
        rw [if_pos (by kernel_rfl)]
        refine wp_allocP rfl (w.heap.size + 2) HSZ.out ?_
        refine hK.out _ _ AL.out (fun hH => ?_)
        clear hK
        refine wpAnyH_ready (rs := [7]) (by kernel_rfl) (by simp) (AllReadyH.cons rfl (fun KK hK => ?_) AllReadyH.nil)
        go_simp
        refine (B2.out _).mono ?_
        rintro e wx ⟨rfl, rfl⟩
        refine hK.out _ _ hH (fun hH => ?_)
        clear hK
        refine wpAnyH_take (i := 8) (v := .int .i64 V) rfl (by kernel_rfl) (by kernel_rfl) (by kernel_rfl) (fun _ _ _ h => h) (Or.inl ⟨by rfl, fun w' hw => by go_simp⟩) hH ?_
        simp only [Act.put, List.setIfInBounds_toArray, List.set_cons_zero, List.set_cons_succ, List.getElem_toArray, List.getElem_cons_zero, List.getElem_cons_succ]
        refine wpAnyH_take (i := 9) (v := .agg (pshA { zeroP with kind := K, ver := V } none 0 0)) rfl (by kernel_rfl) (by kernel_rfl) (by kernel_rfl) (fun _ _ _ h => h) (yieldsIf_buildV (by rfl) 24 _ rfl [(0, .int .i64 K), (1, .int .i64 V)] (by simp [Act.eval]) _ (builtKV K V)) hH ?_
        refine wpAnyH_ready (rs := [11]) (by kernel_rfl) (by simp) (AllReadyH.cons rfl (fun KK hK => ?_) AllReadyH.nil)
        rw [if_pos (by kernel_rfl)]
        refine wp_store_row 24 (.tmp 3) (.tmp 14) rfl (w.heap.size + 2) (pshA { zeroP with kind := K, ver := V } none 0 0) rfl rfl 24 _ ALB.out pshInfo rfl (pshA_one _ _ _ _) ?_
        refine hK.out _ _ ((setRow_other _ _ _ _ (show w.heap.size ≠ w.heap.size + 2 by omega)).trans hH) (fun hH => ?_)
        clear hK
        refine wpAnyH_done (by kernel_rfl) ?_ _
        simp only [Act.put, List.setIfInBounds_toArray, List.set_cons_zero, List.set_cons_succ, List.getElem_toArray, List.getElem_cons_zero, List.getElem_cons_succ]
        go_wp2_with fail
        go_meet
        case rel => exact ⟨rfl, FIN.out⟩
    ·
      rw [if_pos (by kernel_rfl)]
      refine wp_allocP rfl (w.heap.size + 2) HSZ.out ?_
      refine hK.out _ _ AL.out (fun hH => ?_)
      clear hK
      refine wpAnyH_ready (rs := [2]) (by kernel_rfl) (by simp) (AllReadyH.cons rfl (fun KK hK => ?_) AllReadyH.nil)
      go_simp
      refine (B1.out _).mono ?_
      rintro e wx ⟨rfl, rfl⟩
      refine hK.out _ _ hH (fun hH => ?_)
      clear hK
      refine wpAnyH_take (i := 3) (v := .int .i64 K) rfl (by kernel_rfl) (by kernel_rfl) (by kernel_rfl) (fun _ _ _ h => h) (Or.inl ⟨by rfl, fun w' hw => by go_simp⟩) hH ?_
      refine wpAnyH_ready (rs := [7]) (by kernel_rfl) (by simp) (AllReadyH.cons rfl (fun KK hK => ?_) AllReadyH.nil)
      go_simp
      refine (B2.out _).mono ?_
      rintro e wx ⟨rfl, rfl⟩
      refine hK.out _ _ hH (fun hH => ?_)
      clear hK
      refine wpAnyH_take (i := 8) (v := .int .i64 V) rfl (by kernel_rfl) (by kernel_rfl) (by kernel_rfl) (fun _ _ _ h => h) (Or.inl ⟨by rfl, fun w' hw => by go_simp⟩) hH ?_
      simp only [Act.put, List.setIfInBounds_toArray, List.set_cons_zero, List.set_cons_succ, List.getElem_toArray, List.getElem_cons_zero, List.getElem_cons_succ]
      refine wpAnyH_take (i := 9) (v := .agg (pshA { zeroP with kind := K, ver := V } none 0 0)) rfl (by kernel_rfl) (by kernel_rfl) (by kernel_rfl) (fun _ _ _ h => h) (yieldsIf_buildV (by rfl) 24 _ rfl [(0, .int .i64 K), (1, .int .i64 V)] (by simp [Act.eval]) _ (builtKV K V)) hH ?_
      refine wpAnyH_ready (rs := [11]) (by kernel_rfl) (by simp) (AllReadyH.cons rfl (fun KK hK => ?_) AllReadyH.nil)
      rw [if_pos (by kernel_rfl)]
      refine wp_store_row 24 (.tmp 3) (.tmp 14) rfl (w.heap.size + 2) (pshA { zeroP with kind := K, ver := V } none 0 0) rfl rfl 24 _ ALB.out pshInfo rfl (pshA_one _ _ _ _) ?_
      refine hK.out _ _ ((setRow_other _ _ _ _ (show w.heap.size ≠ w.heap.size + 2 by omega)).trans hH) (fun hH => ?_)
      clear hK
      refine wpAnyH_done (by kernel_rfl) ?_ _
      simp only [Act.put, List.setIfInBounds_toArray, List.set_cons_zero, List.set_cons_succ, List.getElem_toArray, List.getElem_cons_zero, List.getElem_cons_succ]
      go_wp2_with fail
      go_meet
      case rel => exact ⟨rfl, FIN.out⟩
    -- END
  case rest =>
    obtain ⟨rfl, hm⟩ := hcut
    have HM1 := Lib.hid hm
    clear hm M1 HSZ AL ALB FIN B1 B2 q1 q2
    generalize wc = w2 at *
    obtain ⟨V', hV'⟩ : ∃ x, x = V := ⟨_, rfl⟩
    have n1a := Int.emod_nonneg s.n1 (show (9007199254740992 : Int) ≠ 0 by decide)
    have n1b := Int.emod_lt_of_pos s.n1 (show (0 : Int) < 9007199254740992 by decide)
    have BT : Hid (∀ w, Calls Try.prog 31 #[.int .i64 s.n1, .int .i64 9007199254740992] w fun e w' => e = .returned (.int .i64 (s.n1 % 9007199254740992)) ∧ w = w') := Lib.hid fun w => bring_any s.n1 9007199254740992 w (by decide) (by decide)
    have HT : Hid (0 ≤ s.n1 % 9007199254740992 ∧ s.n1 % 9007199254740992 ≤ 9007199254740991) := Lib.hid (by omega)
    generalize s.n1 % 9007199254740992 = T at *
    clear n1a n1b hV' V'
    have s2 : w2.cell? ⟨w.heap.size, 2, none⟩ = some (.int .i64 s.n1) := HM1.out.sd.cell 2
    have p0 : w2.cell? ⟨w.heap.size + 2, 0, none⟩ = some (.int .i64 K) := HM1.out.bx.cell 0
    have p4 : w2.cell? ⟨w.heap.size + 2, 4, none⟩ = some (.int .i64 0) := HM1.out.bx.cell 4
    have f4 := HM1.out.bx.frozen 4
    rcases HK.out with rfl | rfl | rfl | rfl | rfl
    · obtain ⟨m, hm⟩ : ∃ m : Nat, m = min s.text.length 500 := ⟨_, rfl⟩
      have hmI : min (s.text.length : Int) 500 = m := by omega
      have hm5 : m ≤ 500 ∧ m ≤ s.text.length := by omega
      have hmz : (m : Int) ≤ s.text.length := by omega
      clear hm
      have s7 : w2.cell? ⟨w.heap.size, 7, none⟩ = some (.string ⟨s.text.toArray⟩) := HM1.out.sd.cell 7
      go_upto_region 6 with (go_at_call 31; refine (BT.out _).mono ?_; rintro E w1 ⟨rfl, rfl⟩)
      have M3 := Lib.hid (HM1.out.set (p' := { zeroP with kind := 1, ver := V, tick := T }) 4 (.int .i64 T) rfl rfl)
      clear s2 p0 p4 f4 s7 HM1
      generalize w2.setCell ⟨w.heap.size + 2, 4, none⟩ (.int .i64 T) = w3 at *
      have s7 : w3.cell? ⟨w.heap.size, 7, none⟩ = some (.string ⟨s.text.toArray⟩) := M3.out.sd.cell 7
      have p7 : w3.cell? ⟨w.heap.size + 2, 7, none⟩ = some (.string ⟨#[]⟩) := M3.out.bx.cell 7
      have f7 := M3.out.bx.frozen 7
      go_upto_region 17 with fail
      rw [ext_take]
      have M4 := Lib.hid (M3.out.set (p' := { zeroP with kind := 1, ver := V, tick := T, text := s.text.take m }) 7 (.string ⟨(s.text.take m).toArray⟩) rfl rfl)
      clear s7 p7 f7 M3
      generalize w3.setCell ⟨w.heap.size + 2, 7, none⟩ (.string ⟨(s.text.take m).toArray⟩) = w4 at *
      have FE := Lib.hid (mst_end M4.out)
      have FB := Lib.hid M4.out.bx
      have FR := Lib.hid M4.out.rs
      go_wp2_with (first
        | (refine wpList_load_row rfl 24 (.tmp 3) rfl (w.heap.size + 2) rfl 24 _ (0, 0) _ FB.out Try.underlying24 rfl pshInfo ?_)
        | (refine wpList_store_row rfl 24 (.tmp 2) (.tmp 96) rfl (w.heap.size + 1) _ rfl rfl 24 _ FR.out pshInfo rfl (pshA_one _ _ _ _) ?_))
      refine bodyPost_ret (results_cell_row rfl _ _ (w.heap.size + 1) 24 _ (0, 0) _ rfl FE.out.1 Try.underlying24 rfl pshInfo) rfl ?_
      exact ⟨{ zeroP with kind := 1, ver := V, tick := T, text := s.text.take m }, none, 0, 0, rfl, ck1 HV.out HT.out (by rw [List.length_take]; omega), FE.out.2.1, FE.out.2.2⟩
    · have p1 : w2.cell? ⟨w.heap.size + 2, 1, none⟩ = some (.int .i64 V) := HM1.out.bx.cell 1
      have f1 := HM1.out.bx.frozen 1
      obtain ⟨V2, hV2⟩ : ∃ x, x = max V 2 := ⟨_, rfl⟩
      have HV2 : Hid (2 ≤ V2 ∧ V2 ≤ 9007199254740991) := Lib.hid (by have := HV.out; omega)
      have hM := hV2.symm
      clear hV2
      go_upto_region 9 with fail
      have M3 := Lib.hid (HM1.out.set (p' := { zeroP with kind := 2, ver := V2 }) 1 (.int .i64 V2) rfl rfl)
      clear s2 p0 p1 f1 p4 f4 HM1 hM
      generalize w2.setCell ⟨w.heap.size + 2, 1, none⟩ (.int .i64 V2) = w3 at *
      have s3 : w3.cell? ⟨w.heap.size, 3, none⟩ = some (.int .i64 s.n2) := M3.out.sd.cell 3
      have p1 : w3.cell? ⟨w.heap.size + 2, 1, none⟩ = some (.int .i64 V2) := M3.out.bx.cell 1
      have p2 : w3.cell? ⟨w.heap.size + 2, 2, none⟩ = some (.int .i64 0) := M3.out.bx.cell 2
      have f2 := M3.out.bx.frozen 2
      obtain ⟨W, hW⟩ : ∃ x, x = V2 - 1 := ⟨_, rfl⟩
      have hWV : 1 ≤ W ∧ W ≤ 9007199254740990 := by have := HV2.out; omega
      have qW : IntKind.i64.wrap (V2 - 1) = W := by rw [IntKind.wrap_i64]; omega
      have fa := Int.emod_nonneg s.n2 (show W ≠ 0 by omega)
      have fb := Int.emod_lt_of_pos s.n2 (show (0 : Int) < W by omega)
      have BF : Hid (∀ w, Calls Try.prog 31 #[.int .i64 s.n2, .int .i64 W] w fun e w' => e = .returned (.int .i64 (s.n2 % W)) ∧ w = w') := Lib.hid fun w => bring_any s.n2 W w (by omega) (by omega)
      obtain ⟨F, hF⟩ : ∃ x, x = 1 + s.n2 % W := ⟨_, rfl⟩
      have HF : Hid (1 ≤ F ∧ F < V2) := Lib.hid (by omega)
      have qF : IntKind.i64.wrap (1 + s.n2 % W) = F := by rw [IntKind.wrap_i64]; omega
      generalize s.n2 % W = F0 at *
      clear fa fb hF hW hWV
      go_upto_region 10 with (go_at_call 31; refine (BF.out _).mono ?_; rintro E w1 ⟨rfl, rfl⟩)
      have M4 := Lib.hid (M3.out.set (p' := { zeroP with kind := 2, ver := V2, frm := F }) 2 (.int .i64 F) rfl rfl)
      clear s3 p1 p2 f2 M3 qW qF BF
      generalize w3.setCell ⟨w.heap.size + 2, 2, none⟩ (.int .i64 F) = w4 at *
      have M4 := Lib.hid M4.out.drew
      have Xa := Int.emod_nonneg s.n3 (show (65537 : Int) ≠ 0 by decide)
      have Xb := Int.emod_lt_of_pos s.n3 (show (0 : Int) < 65537 by decide)
      have BX : Hid (∀ w, Calls Try.prog 31 #[.int .i64 s.n3, .int .i64 65537] w fun e w' => e = .returned (.int .i64 (s.n3 % 65537)) ∧ w = w') := Lib.hid fun w => bring_any s.n3 65537 w (by decide) (by decide)
      have HX : Hid (0 ≤ s.n3 % 65537 ∧ s.n3 % 65537 ≤ 65536) := Lib.hid (by omega)
      generalize s.n3 % 65537 = X at *
      clear Xa Xb
      have Ya := Int.emod_nonneg s.n4 (show (65537 : Int) ≠ 0 by decide)
      have Yb := Int.emod_lt_of_pos s.n4 (show (0 : Int) < 65537 by decide)
      have BY : Hid (∀ w, Calls Try.prog 31 #[.int .i64 s.n4, .int .i64 65537] w fun e w' => e = .returned (.int .i64 (s.n4 % 65537)) ∧ w = w') := Lib.hid fun w => bring_any s.n4 65537 w (by decide) (by decide)
      have HY : Hid (0 ≤ s.n4 % 65537 ∧ s.n4 % 65537 ≤ 65536) := Lib.hid (by omega)
      generalize s.n4 % 65537 = Y at *
      clear Ya Yb
      have M5 := Lib.hid (M4.out.set (p' := { zeroP with kind := 2, ver := V2, frm := F, tick := T }) 4 (.int .i64 T) rfl rfl)
      have M6 := Lib.hid (M5.out.set (p' := { zeroP with kind := 2, ver := V2, frm := F, tick := T, head := X }) 5 (.int .i64 X) rfl rfl)
      have M7 := Lib.hid (M6.out.set (p' := { zeroP with kind := 2, ver := V2, frm := F, tick := T, head := X, tail := Y }) 6 (.int .i64 Y) rfl rfl)
      go_cut [3] from 17 to 66 (fun v wx => v = .pointer (some ⟨w.heap.size + 2, 0, none⟩) ∧ Mst w wx s { zeroP with kind := 2, ver := V2, frm := F, tick := T, head := X, tail := Y } none 0 0)
      case first =>
        refine wp_region_held_drew (S := fun w' => Box w' w.heap.size 44 (sdA s)) (by kernel_rfl) M4.out.sd (fun hH => ?_)
        refine wpAnyH_take (i := 0) (v := .pointer (some ⟨w.heap.size, 1, none⟩)) rfl (by kernel_rfl) (by kernel_rfl) (by kernel_rfl) (fun _ _ _ h => h) (Or.inl ⟨by rfl, fun w' hw => by go_simp⟩) hH ?_
        refine wpAnyH_take (i := 1) (v := .pointer (some ⟨w.heap.size, 2, none⟩)) rfl (by kernel_rfl) (by kernel_rfl) (by kernel_rfl) (fun _ _ _ h => h) (Or.inl ⟨by rfl, fun w' hw => by go_simp⟩) hH ?_
        refine wpAnyH_take (i := 2) (v := .int .i64 s.n1) rfl (by kernel_rfl) (by kernel_rfl) (by kernel_rfl) (fun _ _ _ h => h) (Or.inl ⟨by rfl, fun w' hw => by have hc : w'.cell? ⟨w.heap.size, 2, none⟩ = some (.int .i64 s.n1) := Box.cell hw 2; go_simp⟩) hH ?_
        refine wpAnyH_take (i := 4) (v := .pointer (some ⟨w.heap.size, 1, none⟩)) rfl (by kernel_rfl) (by kernel_rfl) (by kernel_rfl) (fun _ _ _ h => h) (Or.inl ⟨by rfl, fun w' hw => by go_simp⟩) hH ?_
        refine wpAnyH_take (i := 5) (v := .pointer (some ⟨w.heap.size, 4, none⟩)) rfl (by kernel_rfl) (by kernel_rfl) (by kernel_rfl) (fun _ _ _ h => h) (Or.inl ⟨by rfl, fun w' hw => by go_simp⟩) hH ?_
        refine wpAnyH_take (i := 6) (v := .int .i64 s.n3) rfl (by kernel_rfl) (by kernel_rfl) (by kernel_rfl) (fun _ _ _ h => h) (Or.inl ⟨by rfl, fun w' hw => by have hc : w'.cell? ⟨w.heap.size, 4, none⟩ = some (.int .i64 s.n3) := Box.cell hw 4; go_simp⟩) hH ?_
        refine wpAnyH_take (i := 8) (v := .pointer (some ⟨w.heap.size, 1, none⟩)) rfl (by kernel_rfl) (by kernel_rfl) (by kernel_rfl) (fun _ _ _ h => h) (Or.inl ⟨by rfl, fun w' hw => by go_simp⟩) hH ?_
        refine wpAnyH_take (i := 9) (v := .pointer (some ⟨w.heap.size, 5, none⟩)) rfl (by kernel_rfl) (by kernel_rfl) (by kernel_rfl) (fun _ _ _ h => h) (Or.inl ⟨by rfl, fun w' hw => by go_simp⟩) hH ?_
        refine wpAnyH_take (i := 10) (v := .int .i64 s.n4) rfl (by kernel_rfl) (by kernel_rfl) (by kernel_rfl) (fun _ _ _ h => h) (Or.inl ⟨by rfl, fun w' hw => by have hc : w'.cell? ⟨w.heap.size, 5, none⟩ = some (.int .i64 s.n4) := Box.cell hw 5; go_simp⟩) hH ?_
        try simp only [Act.put, List.setIfInBounds_toArray, List.set_cons_zero, List.set_cons_succ, List.getElem_toArray, List.getElem_cons_zero, List.getElem_cons_succ]
        refine wpAnyH_ready (rs := [3]) (by kernel_rfl) (by simp) (AllReadyH.cons rfl (fun KK hK => ?_) AllReadyH.nil)
        go_simp
        refine (BT.out _).mono ?_
        rintro e wx ⟨rfl, rfl⟩
        refine hK.out _ _ hH (fun hH => ?_)
        clear hK
        refine wpAnyH_take (i := 12) (v := .pointer (some ⟨w.heap.size + 2, 4, none⟩)) rfl (by kernel_rfl) (by kernel_rfl) (by kernel_rfl) (fun _ _ _ h => h) (Or.inl ⟨by rfl, fun w' hw => by go_simp⟩) hH ?_
        try simp only [Act.put, List.setIfInBounds_toArray, List.set_cons_zero, List.set_cons_succ, List.getElem_toArray, List.getElem_cons_zero, List.getElem_cons_succ]
        refine wpAnyH_ready (rs := [7]) (by kernel_rfl) (by simp) (AllReadyH.cons rfl (fun KK hK => ?_) AllReadyH.nil)
        go_simp
        refine (BX.out _).mono ?_
        rintro e wx ⟨rfl, rfl⟩
        refine hK.out _ _ hH (fun hH => ?_)
        clear hK
        try simp only [Act.put, List.setIfInBounds_toArray, List.set_cons_zero, List.set_cons_succ, List.getElem_toArray, List.getElem_cons_zero, List.getElem_cons_succ]
        refine wpAnyH_ready (rs := [11]) (by kernel_rfl) (by simp) (AllReadyH.cons rfl (fun KK hK => ?_) AllReadyH.nil)
        go_simp
        refine (BY.out _).mono ?_
        rintro e wx ⟨rfl, rfl⟩
        refine hK.out _ _ hH (fun hH => ?_)
        clear hK
        try simp only [Act.put, List.setIfInBounds_toArray, List.set_cons_zero, List.set_cons_succ, List.getElem_toArray, List.getElem_cons_zero, List.getElem_cons_succ]
        have pj4 : w4.drew.cell? ⟨w.heap.size + 2, 4, none⟩ = some (.int .i64 0) := M4.out.bx.cell 4
        have fj4 := M4.out.bx.frozen 4
        have pk4 : w4.cell? ⟨w.heap.size + 2, 4, none⟩ = some (.int .i64 0) := M4.out.bx.cell 4
        have fk4 : w4.frozen? ⟨w.heap.size + 2, 4, none⟩ = false := M4.out.bx.frozen 4
        have pj5 : w4.drew.cell? ⟨w.heap.size + 2, 5, none⟩ = some (.int .i64 0) := M4.out.bx.cell 5
        have fj5 := M4.out.bx.frozen 5
        have pk5 : w4.cell? ⟨w.heap.size + 2, 5, none⟩ = some (.int .i64 0) := M4.out.bx.cell 5
        have fk5 : w4.frozen? ⟨w.heap.size + 2, 5, none⟩ = false := M4.out.bx.frozen 5
        have pj6 : w4.drew.cell? ⟨w.heap.size + 2, 6, none⟩ = some (.int .i64 0) := M4.out.bx.cell 6
        have fj6 := M4.out.bx.frozen 6
        have pk6 : w4.cell? ⟨w.heap.size + 2, 6, none⟩ = some (.int .i64 0) := M4.out.bx.cell 6
        have fk6 : w4.frozen? ⟨w.heap.size + 2, 6, none⟩ = false := M4.out.bx.frozen 6
        refine wpAnyH_ready (rs := [13]) (by kernel_rfl) (by simp) (AllReadyH.cons rfl (fun KK hK => ?_) AllReadyH.nil)
        go_simp
        refine hK.out _ _ M5.out.sd (fun hH => ?_)
        clear hK
        refine wpAnyH_take (i := 14) (v := .pointer (some ⟨w.heap.size + 2, 5, none⟩)) rfl (by kernel_rfl) (by kernel_rfl) (by kernel_rfl) (fun _ _ _ h => h) (Or.inl ⟨by rfl, fun w' hw => by go_simp⟩) hH ?_
        try simp only [Act.put, List.setIfInBounds_toArray, List.set_cons_zero, List.set_cons_succ, List.getElem_toArray, List.getElem_cons_zero, List.getElem_cons_succ]
        refine wpAnyH_ready (rs := [15]) (by kernel_rfl) (by simp) (AllReadyH.cons rfl (fun KK hK => ?_) AllReadyH.nil)
        go_simp
        refine hK.out _ _ M6.out.sd (fun hH => ?_)
        clear hK
        refine wpAnyH_take (i := 16) (v := .pointer (some ⟨w.heap.size + 2, 6, none⟩)) rfl (by kernel_rfl) (by kernel_rfl) (by kernel_rfl) (fun _ _ _ h => h) (Or.inl ⟨by rfl, fun w' hw => by go_simp⟩) hH ?_
        try simp only [Act.put, List.setIfInBounds_toArray, List.set_cons_zero, List.set_cons_succ, List.getElem_toArray, List.getElem_cons_zero, List.getElem_cons_succ]
        refine wpAnyH_ready (rs := [17]) (by kernel_rfl) (by simp) (AllReadyH.cons rfl (fun KK hK => ?_) AllReadyH.nil)
        go_simp
        refine hK.out _ _ M7.out.sd (fun hH => ?_)
        clear hK
        refine wpAnyH_done (by kernel_rfl) ?_ _
        try simp only [Act.put, List.setIfInBounds_toArray, List.set_cons_zero, List.set_cons_succ, List.getElem_toArray, List.getElem_cons_zero, List.getElem_cons_succ]
        go_wp2_with fail
        go_meet
        case rel => exact ⟨rfl, M7.out⟩
      case rest =>
        obtain ⟨rfl, hm7⟩ := hcut
        have HM7 := Lib.hid hm7
        clear hm7 M4 M5 M6 M7
        generalize wc = w5 at *
        have HPK : Hid (∀ j, j ≤ 20 → checkP { zeroP with kind := 2, ver := V2, frm := F, tick := T, head := X, tail := Y, lines := (s.ls.take j).map flatP } = true) := Lib.hid fun j hj => ck2 HV2.out HF.out HT.out HX.out HY.out (flats_are s.ls j hj)
        obtain ⟨PK, hPK⟩ : ∃ PK : List Bs → Psh, PK = fun L => { zeroP with kind := 2, ver := V2, frm := F, tick := T, head := X, tail := Y, lines := L } := ⟨_, rfl⟩
        have HL : Hid (∀ L, (PK L).lines = L) := Lib.hid fun L => by rw [hPK]
        have HPL : Hid (∀ L L', { PK L with lines := L' } = PK L') := Lib.hid fun L L' => by rw [hPK]
        have HPC : Hid (∀ j, j ≤ 20 → checkP (PK ((s.ls.take j).map flatP)) = true) := Lib.hid fun j hj => by rw [hPK]; exact HPK.out j hj
        have HM8 : Hid (Mst w w5 s (PK []) none 0 0) := Lib.hid (by rw [hPK]; exact HM7.out)
        clear HPK hPK HM7
        go_wp2_with fail
        go_loopw [4] (fun i wr => ∃ (j : Nat) (A : Option Addr) (n c : Nat), j ≤ s.ls.length ∧ j ≤ 20 ∧ i = .int .i64 j ∧ Mst w wr s (PK ((s.ls.take j).map flatP)) A n c) (fun i _ => 20 - (intOf i).toNat)
        case atStart => exact ⟨0, none, 0, 0, Nat.zero_le _, Nat.zero_le _, rfl, HM8.out⟩
        case round =>
          obtain ⟨j, A, n, c, hjl, hj20, rfl, hm⟩ := hrel
          have HMj := Lib.hid hm
          clear hm
          have s8 : wr.cell? ⟨w.heap.size, 8, none⟩ = some (.slice s.A s.ls.length s.c) := HMj.out.sd.cell 8
          by_cases hlt : j < s.ls.length
          · by_cases hlt2 : j < 20
            · have hltI : (j : Int) < s.ls.length := by omega
              have hlt2I : (j : Int) < 20 := by omega
              have hj0 : (0 : Int) ≤ j := by omega
              obtain ⟨b, off, eA, hb, hc⟩ := H.out.ts.rd j hlt
              have hcr : wr.cell? ⟨b, off + j, none⟩ = some (.string ⟨s.ls[j].toArray⟩) := (HMj.out.bel.cell (p := ⟨b, off + j, none⟩) hb).trans hc
              have hx : (s.ls[j]).length ≤ maxLen := H.out.short _ (List.getElem_mem hlt)
              rw [eA] at s8
              have HSN : Hid ((s.ls.take (j + 1)).map flatP = (s.ls.take j).map flatP ++ [flatP s.ls[j]]) := Lib.hid (by rw [List.take_succ_eq_append_getElem hlt, List.map_append]; rfl)
              have hLl : ((s.ls.take j).map flatP).length ≤ 20 := by rw [List.length_map, List.length_take]; omega
              clear hc
              generalize s.ls[j] = x at *
              generalize (s.ls.take j).map flatP = L at *
              have HO : Hid (Own wr (w.heap.size + 3) (.slice A n c) L) := Lib.hid (by have := HMj.out.own; rwa [HL.out] at this)
              have HX : Hid (x.length ≤ maxLen ∧ L.length ≤ 20) := Lib.hid ⟨hx, hLl⟩
              clear hx hLl
              go_upto_region 14 with fail
              have hC : (fun w' => Box w' w.heap.size 44 (sdA s) ∧ Box w' (w.heap.size + 2) 24 (pshA (PK L) A n c) ∧ w'.cell? ⟨b, off + j, none⟩ = some (.string ⟨x.toArray⟩)) wr.drew := ⟨HMj.out.sd, HMj.out.bx, hcr⟩
              refine wp_region_C [11] (fun w' => Box w' w.heap.size 44 (sdA s) ∧ Box w' (w.heap.size + 2) 24 (pshA (PK L) A n c) ∧ w'.cell? ⟨b, off + j, none⟩ = some (.string ⟨x.toArray⟩)) (by kernel_rfl) ?_
              refine wpAnyC_pure (i := 0) (v := .pointer (some ⟨w.heap.size + 2, 8, none⟩)) rfl (by kernel_rfl) (by kernel_rfl) (by kernel_rfl) (by kernel_rfl) (fun _ _ _ h => h) (Or.inl ⟨by rfl, fun w' hw => by go_simp⟩) (fun _ => hC) ?_
              refine wpAnyC_load (i := 1) (v := .slice A n c) rfl (by kernel_rfl) (by kernel_rfl) (by kernel_rfl) (by kernel_rfl) (fun _ _ _ h => h) (Or.inl ⟨by rfl, fun w' hw => by have hc : w'.cell? ⟨w.heap.size + 2, 8, none⟩ = some (.slice A n c) := Box.cell hw.2.1 8; go_simp⟩) hC ?_
              refine wpAnyC_pure (i := 2) (v := .pointer (some ⟨w.heap.size, 8, none⟩)) rfl (by kernel_rfl) (by kernel_rfl) (by kernel_rfl) (by kernel_rfl) (fun _ _ _ h => h) (Or.inl ⟨by rfl, fun w' hw => by go_simp⟩) (fun _ => hC) ?_
              refine wpAnyC_load (i := 3) (v := .slice (some ⟨b, off, none⟩) s.ls.length s.c) rfl (by kernel_rfl) (by kernel_rfl) (by kernel_rfl) (by kernel_rfl) (fun _ _ _ h => h) (Or.inl ⟨by rfl, fun w' hw => by have hc : w'.cell? ⟨w.heap.size, 8, none⟩ = some (.slice (some ⟨b, off, none⟩) s.ls.length s.c) := (by rw [← eA]; exact Box.cell hw.1 8); go_simp⟩) hC ?_
              refine wpAnyC_pure (i := 4) (v := .int .i64 (j : Int)) rfl (by kernel_rfl) (by kernel_rfl) (by kernel_rfl) (by kernel_rfl) (fun _ _ _ h => h) (Or.inl ⟨by rfl, fun w' hw => by go_simp⟩) (fun _ => hC) ?_
              refine wpAnyC_pure (i := 5) (v := .pointer (some ⟨b, off + j, none⟩)) rfl (by kernel_rfl) (by kernel_rfl) (by kernel_rfl) (by kernel_rfl) (fun _ _ _ h => h) (Or.inl ⟨by rfl, fun w' hw => by go_simp⟩) (fun _ => hC) ?_
              refine wpAnyC_load (i := 6) (v := .string ⟨x.toArray⟩) rfl (by kernel_rfl) (by kernel_rfl) (by kernel_rfl) (by kernel_rfl) (fun _ _ _ h => h) (Or.inl ⟨by rfl, fun w' hw => by have hc : w'.cell? ⟨b, off + j, none⟩ = some (.string ⟨x.toArray⟩) := hw.2.2; go_simp⟩) hC ?_
              try simp only [Act.put, List.setIfInBounds_toArray, List.set_cons_zero, List.set_cons_succ, List.getElem_toArray, List.getElem_cons_zero, List.getElem_cons_succ]
              refine wpAnyC_step (i := 7) (by kernel_rfl) rfl (fun KK hK => ?_)
              go_simp
              refine (flat_any ⟨x.toArray⟩ _ (by show x.length ≤ maxLen; exact HX.out.1)).mono ?_
              rintro e w7 ⟨rfl, hb7⟩
              have hbL : b < wr.heap.size := Nat.lt_of_lt_of_le hb HMj.out.bel.size
              have hC7 : (fun w' => Box w' w.heap.size 44 (sdA s) ∧ Box w' (w.heap.size + 2) 24 (pshA (PK L) A n c) ∧ w'.cell? ⟨b, off + j, none⟩ = some (.string ⟨x.toArray⟩)) w7 := ⟨Box.below hC.1 hb7, Box.below hC.2.1 hb7, (hb7.cell (p := ⟨b, off + j, none⟩) hbL).trans hC.2.2⟩
              have ho7 : Own w7 (w.heap.size + 3) (.slice A n c) L := Own.below (show Own wr.drew _ _ _ from HO.out) hb7
              have hz7 : w.heap.size + 3 ≤ w7.heap.size := Nat.le_trans HMj.out.sz hb7.size
              refine hK.out _ _ hC7 ?_
              clear hK
              refine wpAnyC_step (i := 8) (by kernel_rfl) rfl (fun KK hK => ?_)
              go_simp
              have hb8 := below_new w7 (.cells #[.string ⟨(flatP x).toArray⟩] 9)
              refine hK.out _ _ ⟨Box.below hC7.1 hb8, Box.below hC7.2.1 hb8, (hb8.cell (p := ⟨b, off + j, none⟩) (Nat.lt_of_lt_of_le hbL hb7.size)).trans hC7.2.2⟩ ?_
              clear hK
              refine wpAnyC_step (i := 9) (by kernel_rfl) rfl (fun KK hK => ?_)
              rw [if_pos (by kernel_rfl)]
              refine wp_pushL (.tmp 79) (.tmp 86) rfl w7 (w.heap.size + 3) _ L ⟨(flatP x).toArray⟩ rfl ho7 rfl hz7 (by have := HX.out.2; omega) ?_
              intro v9 w9 ho9 hb9
              rw [mk_toList] at ho9
              obtain ⟨A9, c9, rfl⟩ := ho9.sliceN (L.length + 1) (by simp)
              refine hK.out _ _ ⟨hC7.1.belowB (by omega) hb9, hC7.2.1.belowB (by omega) hb9, (hb9.cell (p := ⟨b, off + j, none⟩) (show b < w.heap.size + 3 by omega)).trans hC7.2.2⟩ ?_
              clear hK
              have hC : (fun w' => Box w' w.heap.size 44 (sdA s) ∧ Box w' (w.heap.size + 2) 24 (pshA (PK L) A n c) ∧ w'.cell? ⟨b, off + j, none⟩ = some (.string ⟨x.toArray⟩)) w9 := ⟨hC7.1.belowB (by omega) hb9, hC7.2.1.belowB (by omega) hb9, (hb9.cell (p := ⟨b, off + j, none⟩) (show b < w.heap.size + 3 by omega)).trans hC7.2.2⟩
              refine wpAnyC_pure (i := 10) (v := .pointer (some ⟨w.heap.size + 2, 8, none⟩)) rfl (by kernel_rfl) (by kernel_rfl) (by kernel_rfl) (by kernel_rfl) (fun _ _ _ h => h) (Or.inl ⟨by rfl, fun w' hw => by go_simp⟩) (fun _ => hC) ?_
              try simp only [Act.put, List.setIfInBounds_toArray, List.set_cons_zero, List.set_cons_succ, List.getElem_toArray, List.getElem_cons_zero, List.getElem_cons_succ]
              have p9 : w9.cell? ⟨w.heap.size + 2, 8, none⟩ = some (.slice A n c) := Box.cell hC.2.1 8
              have f9 := Box.frozen hC.2.1 8
              refine wpAnyC_store (i := 11) (by kernel_rfl) rfl (by kernel_rfl) (fun KK hK => ?_)
              go_simp
              refine hK.out _ _ ?_
              clear hK
              refine wpAnyC_done (by kernel_rfl) ?_ _
              try simp only [Act.put, List.setIfInBounds_toArray, List.set_cons_zero, List.set_cons_succ, List.getElem_toArray, List.getElem_cons_zero, List.getElem_cons_succ]
              have MF : Hid (Mst w (w9.setCell ⟨w.heap.size + 2, 8, none⟩ (.slice A9 (L.length + 1) c9)) s (PK (L ++ [flatP x])) A9 (L.length + 1) c9) := Lib.hid (by
                have hbw : Below w.heap.size w w7 := (below_drewN HMj.out.bel 1).trans (hb7.mono HMj.out.bel.size)
                rw [← HPL.out L]
                exact mst_mk (hbw.trans (hb9.mono (by omega))) hC.1 (((show Box wr.drew (w.heap.size + 1) _ _ from HMj.out.rs).below hb7).belowB (by omega) hb9) hC.2.1 ho9 (Nat.le_trans hz7 hb9.size))
              clear p9 f9 hC hC7 ho7 ho9 hb7 hb8 hb9
              generalize w9.setCell ⟨w.heap.size + 2, 8, none⟩ (.slice A9 (L.length + 1) c9) = wz at *
              go_wp2_with fail
              go_roundw
              case rel => exact ⟨j + 1, A9, _, c9, by omega, by omega, by go_num, by rw [HSN.out]; exact MF.out⟩
              case measure => simp [intOf]; omega
            · obtain rfl : j = 20 := by omega
              have hls : (20 : Int) < s.ls.length := by omega
              go_upto_region 17 with fail
              have FE := Lib.hid (mst_end HMj.out)
              have FB := Lib.hid HMj.out.bx
              have FR := Lib.hid HMj.out.rs
              go_wp2_with (first
                | (refine wpList_load_row rfl 24 (.tmp 3) rfl (w.heap.size + 2) rfl 24 _ (0, 0) _ FB.out Try.underlying24 rfl pshInfo ?_)
                | (refine wpList_store_row rfl 24 (.tmp 2) (.tmp 96) rfl (w.heap.size + 1) _ rfl rfl 24 _ FR.out pshInfo rfl (pshA_one _ _ _ _) ?_))
              refine bodyPost_ret (results_cell_row rfl _ _ (w.heap.size + 1) 24 _ (0, 0) _ rfl FE.out.1 Try.underlying24 rfl pshInfo) rfl ?_
              exact ⟨PK ((s.ls.take 20).map flatP), A, n, c, rfl, HPC.out 20 hj20, FE.out.2.1, FE.out.2.2⟩
          · obtain rfl : j = s.ls.length := by omega
            go_upto_region 17 with fail
            have FE := Lib.hid (mst_end HMj.out)
            have FB := Lib.hid HMj.out.bx
            have FR := Lib.hid HMj.out.rs
            go_wp2_with (first
              | (refine wpList_load_row rfl 24 (.tmp 3) rfl (w.heap.size + 2) rfl 24 _ (0, 0) _ FB.out Try.underlying24 rfl pshInfo ?_)
              | (refine wpList_store_row rfl 24 (.tmp 2) (.tmp 96) rfl (w.heap.size + 1) _ rfl rfl 24 _ FR.out pshInfo rfl (pshA_one _ _ _ _) ?_))
            refine bodyPost_ret (results_cell_row rfl _ _ (w.heap.size + 1) 24 _ (0, 0) _ rfl FE.out.1 Try.underlying24 rfl pshInfo) rfl ?_
            exact ⟨PK ((s.ls.take s.ls.length).map flatP), A, n, c, rfl, HPC.out _ hj20, FE.out.2.1, FE.out.2.2⟩
    · go_upto_region 17 with (go_at_call 31; refine (BT.out _).mono ?_; rintro E w1 ⟨rfl, rfl⟩)
      have M3 := Lib.hid (HM1.out.set (p' := { zeroP with kind := 3, ver := V, tick := T }) 4 (.int .i64 T) rfl rfl)
      clear s2 p0 p4 f4 HM1
      generalize w2.setCell ⟨w.heap.size + 2, 4, none⟩ (.int .i64 T) = w3 at *
      have FE := Lib.hid (mst_end M3.out)
      have FB := Lib.hid M3.out.bx
      have FR := Lib.hid M3.out.rs
      go_wp2_with (first
        | (refine wpList_load_row rfl 24 (.tmp 3) rfl (w.heap.size + 2) rfl 24 _ (0, 0) _ FB.out Try.underlying24 rfl pshInfo ?_)
        | (refine wpList_store_row rfl 24 (.tmp 2) (.tmp 96) rfl (w.heap.size + 1) _ rfl rfl 24 _ FR.out pshInfo rfl (pshA_one _ _ _ _) ?_))
      refine bodyPost_ret (results_cell_row rfl _ _ (w.heap.size + 1) 24 _ (0, 0) _ rfl FE.out.1 Try.underlying24 rfl pshInfo) rfl ?_
      exact ⟨{ zeroP with kind := 3, ver := V, tick := T }, none, 0, 0, rfl, ck3 HV.out HT.out, FE.out.2.1, FE.out.2.2⟩
    · have s6 : w2.cell? ⟨w.heap.size, 6, none⟩ = some (.int .i64 s.n5) := HM1.out.sd.cell 6
      have p3 : w2.cell? ⟨w.heap.size + 2, 3, none⟩ = some (.int .i64 0) := HM1.out.bx.cell 3
      have f3 := HM1.out.bx.frozen 3
      have n5a := Int.emod_nonneg s.n5 (show (7 : Int) ≠ 0 by decide)
      have n5b := Int.emod_lt_of_pos s.n5 (show (0 : Int) < 7 by decide)
      have BN : Hid (∀ w, Calls Try.prog 31 #[.int .i64 s.n5, .int .i64 7] w fun e w' => e = .returned (.int .i64 (s.n5 % 7)) ∧ w = w') := Lib.hid fun w => bring_any s.n5 7 w (by decide) (by decide)
      have HN : Hid (0 ≤ s.n5 % 7 ∧ s.n5 % 7 ≤ 6) := Lib.hid (by omega)
      generalize s.n5 % 7 = N at *
      clear n5a n5b
      go_upto_region 17 with (go_at_call 31; refine (BN.out _).mono ?_; rintro E w1 ⟨rfl, rfl⟩)
      have M3 := Lib.hid (HM1.out.set (p' := { zeroP with kind := 4, ver := V, node := N }) 3 (.int .i64 N) rfl rfl)
      clear s2 s6 p0 p3 f3 p4 f4 HM1
      generalize w2.setCell ⟨w.heap.size + 2, 3, none⟩ (.int .i64 N) = w3 at *
      have FE := Lib.hid (mst_end M3.out)
      have FB := Lib.hid M3.out.bx
      have FR := Lib.hid M3.out.rs
      go_wp2_with (first
        | (refine wpList_load_row rfl 24 (.tmp 3) rfl (w.heap.size + 2) rfl 24 _ (0, 0) _ FB.out Try.underlying24 rfl pshInfo ?_)
        | (refine wpList_store_row rfl 24 (.tmp 2) (.tmp 96) rfl (w.heap.size + 1) _ rfl rfl 24 _ FR.out pshInfo rfl (pshA_one _ _ _ _) ?_))
      refine bodyPost_ret (results_cell_row rfl _ _ (w.heap.size + 1) 24 _ (0, 0) _ rfl FE.out.1 Try.underlying24 rfl pshInfo) rfl ?_
      exact ⟨{ zeroP with kind := 4, ver := V, node := N }, none, 0, 0, rfl, ck45 (.inl rfl) HV.out HN.out, FE.out.2.1, FE.out.2.2⟩
    · have s6 : w2.cell? ⟨w.heap.size, 6, none⟩ = some (.int .i64 s.n5) := HM1.out.sd.cell 6
      have p3 : w2.cell? ⟨w.heap.size + 2, 3, none⟩ = some (.int .i64 0) := HM1.out.bx.cell 3
      have f3 := HM1.out.bx.frozen 3
      have n5a := Int.emod_nonneg s.n5 (show (7 : Int) ≠ 0 by decide)
      have n5b := Int.emod_lt_of_pos s.n5 (show (0 : Int) < 7 by decide)
      have BN : Hid (∀ w, Calls Try.prog 31 #[.int .i64 s.n5, .int .i64 7] w fun e w' => e = .returned (.int .i64 (s.n5 % 7)) ∧ w = w') := Lib.hid fun w => bring_any s.n5 7 w (by decide) (by decide)
      have HN : Hid (0 ≤ s.n5 % 7 ∧ s.n5 % 7 ≤ 6) := Lib.hid (by omega)
      generalize s.n5 % 7 = N at *
      clear n5a n5b
      go_upto_region 17 with (go_at_call 31; refine (BN.out _).mono ?_; rintro E w1 ⟨rfl, rfl⟩)
      have M3 := Lib.hid (HM1.out.set (p' := { zeroP with kind := 5, ver := V, node := N }) 3 (.int .i64 N) rfl rfl)
      clear s2 s6 p0 p3 f3 p4 f4 HM1
      generalize w2.setCell ⟨w.heap.size + 2, 3, none⟩ (.int .i64 N) = w3 at *
      have FE := Lib.hid (mst_end M3.out)
      have FB := Lib.hid M3.out.bx
      have FR := Lib.hid M3.out.rs
      go_wp2_with (first
        | (refine wpList_load_row rfl 24 (.tmp 3) rfl (w.heap.size + 2) rfl 24 _ (0, 0) _ FB.out Try.underlying24 rfl pshInfo ?_)
        | (refine wpList_store_row rfl 24 (.tmp 2) (.tmp 96) rfl (w.heap.size + 1) _ rfl rfl 24 _ FR.out pshInfo rfl (pshA_one _ _ _ _) ?_))
      refine bodyPost_ret (results_cell_row rfl _ _ (w.heap.size + 1) 24 _ (0, 0) _ rfl FE.out.1 Try.underlying24 rfl pshInfo) rfl ?_
      exact ⟨{ zeroP with kind := 5, ver := V, node := N }, none, 0, 0, rfl, ck45 (.inr rfl) HV.out HN.out, FE.out.2.1, FE.out.2.2⟩
end Go.Proofs.Ytajkbkllgbalkaa
