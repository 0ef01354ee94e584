/- Rows of extensions: slices.Insert of one. -/
import Derived.Test.YtiakbmllpnabnaaGreatDoorKd
import Derived.Shelf.Spec.SlicesInsert
namespace Go.Proofs.YtiakbmllpnabnaaGreatDoor
open Go Go.RowKit

/-- with one put in -/
def insV (vs : List Value) (i : Nat) (x0 x1 : Value) : List Value := vs.take (i * 2) ++ ([x0, x1] ++ vs.drop (i * 2))
theorem insV_len {vs : List Value} {n i : Nat} {x0 x1 : Value} (hv : vs.length = n * 2) (hi : i ≤ n) : (insV vs i x0 x1).length = (n + 1) * 2 := by
  unfold insV
  rw [List.length_append, List.length_append, List.length_take, List.length_drop]
  simp only [List.length_cons, List.length_nil]
  omega
theorem insV_at {vs : List Value} {n i : Nat} {x0 x1 : Value} (hv : vs.length = n * 2) (hi : i ≤ n) (j : Nat) :
    (j < i * 2 → (insV vs i x0 x1)[j]? = vs[j]?) ∧ ((insV vs i x0 x1)[i * 2]? = some x0) ∧ ((insV vs i x0 x1)[i * 2 + 1]? = some x1) ∧ (i * 2 + 2 ≤ j → (insV vs i x0 x1)[j]? = vs[j - 2]?) := by
  have ht : (vs.take (i * 2)).length = i * 2 := by rw [List.length_take]; omega
  unfold insV
  refine ⟨fun h => ?_, ?_, ?_, fun h => ?_⟩
  · rw [List.getElem?_append_left (by omega), List.getElem?_take, if_pos h]
  · rw [List.getElem?_append_right (by omega), ht, Nat.sub_self]; rfl
  · rw [List.getElem?_append_right (by omega), ht, show i * 2 + 1 - i * 2 = 1 by omega]; rfl
  · rw [List.getElem?_append_right (by omega), ht, List.getElem?_append_right (by simp; omega), List.getElem?_drop]
    simp only [List.length_cons, List.length_nil]
    congr 1
    omega
/-- a row out of its cells -/
theorem rowV_of {sz : Nat} {w : World} {base g n c : Nat} {vs : List Value} (hl : vs.length = n * sz) (hn : n ≤ c) (hc : c ≤ maxLen) (hb : base ≤ g) (hg : g < w.heap.size) (hs : ∀ j, j < c * sz → (w.cell? ⟨g, j, none⟩).isSome = true ∧ w.frozen? ⟨g, j, none⟩ = false) (hv : ∀ j, j < n * sz → w.cell? ⟨g, j, none⟩ = vs[j]?) : RowV sz w base (some ⟨g, 0, none⟩) n c vs :=
  ⟨hl, hn, hc, .inr ⟨g, rfl, hb, hg, hs, fun j hj => by rw [hv j (by omega), List.getElem?_eq_getElem hj]⟩⟩
/-- what both copies leave, in either order -/
theorem ins_cells {w : World} {g n c i : Nat} {vs : List Value} {x0 x1 : Value} (hv : vs.length = n * 2) (hi : i < n) (hc : n + 1 ≤ c) (hs : ∀ j, j < c * 2 → (w.cell? ⟨g, j, none⟩).isSome = true) (hr : ∀ j, j < i * 2 → w.cell? ⟨g, j, none⟩ = vs[j]?) :
    (∀ j, j < (n + 1) * 2 → ((w.setCells g ((i + 1) * 2) (vs.drop (i * 2))).setCells g (i * 2) [x0, x1]).cell? ⟨g, j, none⟩ = (insV vs i x0 x1)[j]?) ∧
    (∀ j, j < (n + 1) * 2 → ((w.setCells g (i * 2) [x0, x1]).setCells g ((i + 1) * 2) (vs.drop (i * 2))).cell? ⟨g, j, none⟩ = (insV vs i x0 x1)[j]?) := by
  have hd : (vs.drop (i * 2)).length = n * 2 - i * 2 := by rw [List.length_drop, hv]
  have two : ∀ k, k < [x0, x1].length → k = 0 ∨ k = 1 := fun k hk => by simp at hk; omega
  have some1 : ∀ k, k < [x0, x1].length → (w.cell? ⟨g, i * 2 + k, none⟩).isSome = true := fun k hk => hs _ (by have := two k hk; omega)
  have some2 : ∀ k, k < (vs.drop (i * 2)).length → (w.cell? ⟨g, (i + 1) * 2 + k, none⟩).isSome = true := fun k hk => hs _ (by omega)
  constructor
  · intro j hj
    obtain ⟨a1, a2, a3, a4⟩ := insV_at (x0 := x0) (x1 := x1) hv (Nat.le_of_lt hi) j
    by_cases h1 : j < i * 2
    · rw [World.cell?_setCells_out _ _ _ _ _ (fun _ _ => .inl h1), World.cell?_setCells_out _ _ _ _ _ (fun _ _ => .inl (by show j < (i + 1) * 2; omega)), hr j h1, a1 h1]
    · by_cases h2 : j < i * 2 + 2
      · have := World.cell?_setCells_in g [x0, x1] (i * 2) (w.setCells g ((i + 1) * 2) (vs.drop (i * 2))) (fun k hk => World.isSome_setCells g _ _ w _ (some1 k hk)) (j - i * 2) (by simp; omega)
        rw [show i * 2 + (j - i * 2) = j by omega] at this
        rw [this]
        have hj2 : j = i * 2 ∨ j = i * 2 + 1 := by omega
        rcases hj2 with rfl | rfl
        · rw [a2]; simp
        · rw [a3]; simp [show i * 2 + 1 - i * 2 = 1 by omega]
      · rw [World.cell?_setCells_out _ _ _ _ _ (fun _ _ => .inr (by show i * 2 + [x0, x1].length ≤ j; simp; omega))]
        have := World.cell?_setCells_in g (vs.drop (i * 2)) ((i + 1) * 2) w some2 (j - (i + 1) * 2) (by omega)
        rw [show (i + 1) * 2 + (j - (i + 1) * 2) = j by omega] at this
        rw [this, a4 (by omega), List.getElem_drop, List.getElem?_eq_getElem (by omega)]
        congr 2
        omega
  · intro j hj
    obtain ⟨a1, a2, a3, a4⟩ := insV_at (x0 := x0) (x1 := x1) hv (Nat.le_of_lt hi) j
    by_cases h1 : j < i * 2
    · rw [World.cell?_setCells_out _ _ _ _ _ (fun _ _ => .inl (by show j < (i + 1) * 2; omega)), World.cell?_setCells_out _ _ _ _ _ (fun _ _ => .inl h1), hr j h1, a1 h1]
    · by_cases h2 : j < i * 2 + 2
      · rw [World.cell?_setCells_out _ _ _ _ _ (fun _ _ => .inl (by show j < (i + 1) * 2; omega))]
        have := World.cell?_setCells_in g [x0, x1] (i * 2) w some1 (j - i * 2) (by simp; omega)
        rw [show i * 2 + (j - i * 2) = j by omega] at this
        rw [this]
        have hj2 : j = i * 2 ∨ j = i * 2 + 1 := by omega
        rcases hj2 with rfl | rfl
        · rw [a2]; simp
        · rw [a3]; simp [show i * 2 + 1 - i * 2 = 1 by omega]
      · have := World.cell?_setCells_in g (vs.drop (i * 2)) ((i + 1) * 2) (w.setCells g (i * 2) [x0, x1]) (fun k hk => World.isSome_setCells g _ _ w _ (some2 k hk)) (j - (i + 1) * 2) (by omega)
        rw [show (i + 1) * 2 + (j - (i + 1) * 2) = j by omega] at this
        rw [this, a4 (by omega), List.getElem_drop, List.getElem?_eq_getElem (by omega)]
        congr 2
        omega
theorem setCells_heap {w w' : World} (b : Nat) : ∀ (vs : List Value) (o : Nat), w.heap = w'.heap → (w.setCells b o vs).heap = (w'.setCells b o vs).heap
  | vs, o, h => by
    induction vs generalizing o w w' with
    | nil => exact h
    | cons v vs ih => exact ih (o + 1) (by unfold World.setCell; rw [h])
/-- a block of one extension -/
def ExtBox (w : World) (g : Nat) (x0 x1 : Value) : Prop := w.heap[g]? = some (.cells #[x0, x1] 62)
theorem ExtBox.cell {w : World} {g : Nat} {x0 x1 : Value} (h : ExtBox w g x0 x1) : ∀ j v, [x0, x1][j]? = some v → w.cell? ⟨g, 0 + j, none⟩ = some v := fun j v hj => by
  unfold World.cell?
  rw [h, Nat.zero_add]
  simpa using hj
/-- what an insert leaves -/
def InsP (base : Nat) (vs : List Value) (n i : Nat) (x0 x1 : Value) (w : World) (e : Ending) (w' : World) : Prop := ∃ (A : Option Addr) (c : Nat), e = .returned (.slice A (n + 1) c) ∧ RowV 2 w' base A (n + 1) c (insV vs i x0 x1) ∧ Below base w w'
theorem overlaps_no (w : World) (g vb : Nat) (o la ca : Nat) (x0 x1 : Value) (hne : vb ≠ g) (hb : ExtBox w vb x0 x1) (hg : (w.cell? ⟨g, 0, none⟩).isSome = true) :
    (callFunc 99 #[.slice (some ⟨vb, 0, none⟩) 1 1, .slice (some ⟨g, o, none⟩) la ca]).run Tryz.prog w = .ok (.value (.bool false)) w := by
  obtain ⟨i0, hi0, _, h1, _⟩ := info_parts infoE
  have hsz : ∀ w, (Go.sizeOf 62).run Tryz.prog w = .ok 2 w := fun w => by simp [Go.sizeOf, typeInfo, hi0, h1]
  obtain ⟨tB, kB, hsb, hkB⟩ : ∃ tB kB, w.shape? g = some (tB, kB) ∧ kB ≠ 0 := by
    unfold World.cell? at hg
    unfold World.shape?
    cases hq : w.heap[g]? with
    | none => rw [hq] at hg; simp at hg
    | some o =>
      rw [hq] at hg
      cases o with
      | cells cs t f =>
        refine ⟨t, cs.size, rfl, fun e => ?_⟩
        simp only at hg
        rw [Array.getElem?_eq_none (by omega)] at hg
        cases hg
      | _ => simp at hg
  rw [run_callFunc_extern Tryz.func99 (by kernel_rfl) (by kernel_rfl) (by kernel_rfl) (e := Extern.SlicesOverlaps.overlaps #[26, 26] #[4]) (by kernel_rfl),
    Lib.run_overlaps_apart w 26 4 62 Tryz.underlying26 2 hsz ⟨vb, 0, none⟩ ⟨g, o, none⟩ 1 1 la ca hne 62 tB 2 kB (by unfold World.shape?; rw [hb]; rfl) hsb hkB (by unfold World.frozen?; rw [hb]; rfl) (by unfold World.frozen?; rw [hb]; rfl)]
  rfl
set_option maxRecDepth 100000 in
set_option maxHeartbeats 1000000 in
theorem ins_room {base g n c i vb : Nat} {vs : List Value} {x0 x1 : Value} {w : World} (hR : RowV 2 w base (some ⟨g, 0, none⟩) n c vs) (hi : i < n) (hr : n + 1 ≤ c) (hvb : vb ≠ g) (hbx : ExtBox w vb x0 x1) (h1c : ∀ v ∈ vs, v.oneCell' = true) (h0 : x0.oneCell' = true) (h1 : x1.oneCell' = true) :
    Calls Tryz.prog 88 #[.slice (some ⟨g, 0, none⟩) n c, .int .i64 i, .slice (some ⟨vb, 0, none⟩) 1 1] w (InsP base vs n i x0 x1 w) := by
  have hc63 : c ≤ 9223372036854775807 := by have := hR.most; unfold maxLen at this; omega
  have hvl := hR.len
  rcases hR.at_ with ⟨e, _⟩ | ⟨g', e, hbg, hgl, hcs, hcl⟩
  · cases e
  cases e
  have hsz : (Tryz.prog.info? 62).map (·.size) = some 2 := by
    obtain ⟨i0, hi0, _, h1, _⟩ := info_parts infoE
    rw [hi0]; simp [h1]
  have hov : ∀ la ca, (callFunc 99 #[.slice (some ⟨vb, 0, none⟩) 1 1, .slice (some ⟨g, (i + 1) * 2, none⟩) la ca]).run Tryz.prog w = .ok (.value (.bool false)) w := fun la ca =>
    overlaps_no w g vb _ la ca x0 x1 hvb hbx (hcs 0 (by omega)).1
  have hcell : ∀ j, j < n * 2 → w.cell? ⟨g, j, none⟩ = vs[j]? := fun j hj => by rw [hcl j (by omega), List.getElem?_eq_getElem]
  have hdl : (vs.drop (i * 2)).length = n * 2 - i * 2 := by rw [List.length_drop, hvl]
  have hcp1 : ∀ ty dc sc, (Builtin.copy_ #[26, 26] ty #[.slice (some ⟨g, (i + 1) * 2, none⟩) (n - i) dc, .slice (some ⟨g, i * 2, none⟩) (n + 1 - i) sc]).run Tryz.prog w.drew = .ok (goInt (Nat.min (n + 1 - i) (n - i))) (w.drew.setCells g ((i + 1) * 2) (vs.drop (i * 2))) := fun ty dc sc =>
    run_copy_cellsN w.drew 2 _ _ ty 62 g ((i + 1) * 2) (n - i) dc ⟨g, i * 2, none⟩ (n + 1 - i) sc (vs.drop (i * 2)) Tryz.underlying26 hsz (by rw [hdl]; simp only [Nat.min_def]; split <;> omega)
      (fun j v hj => by
        have hlt := (List.getElem?_eq_some_iff.1 hj).1
        rw [add_pl]
        show w.cell? _ = _
        rw [hcell _ (by omega), ← List.getElem?_drop]; exact hj)
      (fun j hj => (hcs _ (by omega)).1) (fun j hj => (hcs _ (by omega)).2) (fun v hv => h1c v (List.mem_of_mem_drop hv))
  obtain ⟨W1, hW1⟩ : ∃ W1, W1 = w.drew.setCells g ((i + 1) * 2) (vs.drop (i * 2)) := ⟨_, rfl⟩
  have hsp1 : ∀ k, k < c * 2 → (W1.cell? ⟨g, k, none⟩).isSome = true := fun k hk => by
    rw [hW1]
    exact World.isSome_setCells g _ _ _ _ (hcs k hk).1
  have hfz1 : ∀ k, k < c * 2 → W1.frozen? ⟨g, k, none⟩ = false := fun k hk => by
    rw [hW1, World.frozen?_setCells]
    exact (hcs k hk).2
  have hcp2 : ∀ (W : World), (∀ x, W.cell? x = W1.cell? x) → (∀ x, W.frozen? x = W1.frozen? x) → ∀ ty dc, (Builtin.copy_ #[26, 26] ty #[.slice (some ⟨g, i * 2, none⟩) (n + 1 - i) dc, .slice (some ⟨vb, 0, none⟩) 1 1]).run Tryz.prog W = .ok (goInt (Nat.min 1 (n + 1 - i))) (W.setCells g (i * 2) [x0, x1]) := fun W hWc hWf ty dc =>
    run_copy_cellsN W 2 _ _ ty 62 g (i * 2) (n + 1 - i) dc ⟨vb, 0, none⟩ 1 1 [x0, x1] Tryz.underlying26 hsz (by simp only [Nat.min_def]; split <;> simp <;> omega)
      (fun j v hj => by
        rw [add_pl, hWc, hW1, World.cell?_setCells_out g _ _ _ _ (fun h _ => absurd h hvb)]
        exact hbx.cell j v hj)
      (fun j hj => by rw [hWc]; exact hsp1 _ (by simp at hj; omega)) (fun j hj => by rw [hWf]; exact hfz1 _ (by simp at hj; omega)) (fun v hv => by
        simp only [List.mem_cons, List.not_mem_nil, or_false] at hv
        rcases hv with rfl | rfl <;> assumption)
  have HE : Hid (RowV 2 (W1.setCells g (i * 2) [x0, x1]) base (some ⟨g, 0, none⟩) (n + 1) c (insV vs i x0 x1) ∧ Below base w (W1.setCells g (i * 2) [x0, x1])) := Lib.hid (by
    obtain ⟨q1, q2, q3, q4, q5⟩ := setCells_same g (vs.drop (i * 2)) ((i + 1) * 2) w.drew
    rw [← hW1] at q1 q2 q3 q4 q5
    obtain ⟨r1, r2, r3, r4, r5⟩ := setCells_same g [x0, x1] (i * 2) W1
    refine ⟨rowV_of (insV_len hvl (Nat.le_of_lt hi)) hr hR.most hbg (by rw [r4, q4]; exact hgl) (fun j hj => ⟨World.isSome_setCells g _ _ _ _ (hsp1 j hj), by rw [World.frozen?_setCells]; exact hfz1 j hj⟩) ?_, ⟨r1.trans q1, r2.trans q2, r3.trans q3, by rw [r4, q4]; exact Nat.le_refl _, fun k hk => (r5 k (by omega)).trans (q5 k (by omega))⟩⟩
    rw [hW1]
    exact (ins_cells (w := w.drew) hvl hi hr (fun j hj => (hcs j hj).1) (fun j hj => hcell j (by omega))).1)
  have hz2 : ¬ ((i : Int) = (n : Int)) := by omega
  have hin : i ≤ n := by omega
  have hin2 : (i : Int) ≤ n := by omega
  have hb2 : ¬ (c = i + 1) := by omega
  have hb4 : ¬ (c = i) := by omega
  have hz3 : ¬ (c : Int) < (n : Int) + 1 := by omega
  have hb3 : (i : Int) ≤ (n : Int) + 1 := by omega
  have hw1 : IntKind.i64.wrap ((i : Int) + 1) = (i : Int) + 1 := by rw [IntKind.wrap_i64]; omega
  have hb1 : (0 : Int) ≤ (i : Int) + 1 := by omega
  have htn : ((i : Int) + 1).toNat = i + 1 := by omega
  have hnn : n + 1 - (i + 1) = n - i := by omega
  unfold InsP
  rw [← hW1] at hcp1
  clear hR hcs hcl hcell hsp1 hfz1 hbx h1c hvl hdl
  go_enter Tryz.func88, Tryz.ntmps88
  go_wp2_with (simp only [hov])
  go_region_law (refine step_copy_runI rfl _ _ 26 26 rfl _ _ (by simp [Act.eval, Act.put]) (by simp [Act.eval, Act.put]) (hcp1 _ _ _) ?_)
  go_wp2_with (at_builtin; refine wpList_copy_runI _ rfl _ _ 26 26 rfl _ _ rfl rfl (hcp2 _ (fun _ => rfl) (fun _ => rfl) _ _) ?_)
  go_ret
  have hE := HE.out
  rw [hW1] at hE
  exact ⟨_, _, rfl, hE⟩
set_option maxRecDepth 100000 in
set_option maxHeartbeats 400000 in
theorem ins_end {base n c vb : Nat} {A : Option Addr} {vs : List Value} {x0 x1 : Value} {w : World} (hR : RowV 2 w base A n c vs) (hbase : base ≤ w.heap.size) (hn : n ≤ 1000000) (hbx : ExtBox w vb x0 x1) (h0 : x0.oneCell' = true) (h1 : x1.oneCell' = true) :
    Calls Tryz.prog 88 #[.slice A n c, .int .i64 n, .slice (some ⟨vb, 0, none⟩) 1 1] w (InsP base vs n n x0 x1 w) := by
  obtain ⟨i0, hi0, hz0, hz1, hz2⟩ := info_parts infoE
  have hvl := hR.len
  have S := Lib.hid (src_one (sz := 2) (w := w) Tryz.underlying26 vb [x0, x1] rfl (fun j hj => by rw [← List.getElem?_eq_getElem hj] ; have := hbx.cell j [x0, x1][j] (List.getElem?_eq_getElem hj); rw [Nat.zero_add] at this; rw [this, List.getElem?_eq_getElem hj]) (fun v hv => by
    simp only [List.mem_cons, List.not_mem_nil, or_false] at hv
    rcases hv with rfl | rfl <;> assumption))
  have HR := Lib.hid hR
  have HV : Hid (insV vs n x0 x1 = vs ++ [x0, x1]) := Lib.hid (by unfold insV; rw [List.take_of_length_le (by omega), List.drop_of_length_le (by omega), List.append_nil])
  have hc := hR.le
  have hA : A = none → c = 0 := fun e => by
    rcases hR.at_ with ⟨_, h⟩ | ⟨g, h, _⟩
    · exact h
    · rw [e] at h; cases h
  have hm := hR.most
  unfold maxLen at hm
  unfold InsP
  rw [HV.out]
  have go : ∀ (ops : Array Oper) (o : Oper) (rest : List Oper) (a : Act) (Q : Exit → Act → World → Prop), o.guard = none → o.op = .call { callee := .builtin .append, args := #[.tmp 23, .tmp 24], argTypes := #[26, 26] } → a.eval (.tmp 23) = .slice A n c → a.eval (.tmp 24) = .slice (some ⟨vb, 0, none⟩) 1 1 →
      (∀ (A' : Option Addr) (c' : Nat) w', Hid (RowV 2 w' base A' (n + 1) c' (vs ++ [x0, x1])) → Hid (Below base w w') → wpList Tryz.prog ops Q rest (a.put o.dst (.slice A' (n + 1) c')) w') → wpList Tryz.prog ops Q (o :: rest) a w := fun ops o rest a Q hgd ho hs hx hk =>
    wpList_pushV hgd (.tmp 23) (.tmp 24) 26 62 26 ho i0 _ 32 Tryz.underlying26 hi0 hz0 hz1 hz2 rfl (by decide) w base A c n 1 vs [x0, x1] _ rfl hs hx HR.out S.out hbase (by omega) fun A' c' w' h1 h2 _ => hk A' c' w' (Lib.hid h1) (Lib.hid h2)
  clear hvl hR hbx
  cases A with
  | none =>
    obtain rfl := hA rfl
    obtain rfl : n = 0 := by omega
    clear hA
    go_enter Tryz.func88, Tryz.ntmps88
    go_wp2_with (at_builtin; refine go _ _ _ _ _ rfl rfl rfl rfl ?_; intro A1 c1 w1 R1 B1)
    go_ret
    exact ⟨A1, c1, rfl, R1.out, B1.out⟩
  | some a =>
    obtain ⟨b, o, sp⟩ := a
    clear hA
    go_enter Tryz.func88, Tryz.ntmps88
    go_wp2_with (at_builtin; refine go _ _ _ _ _ rfl rfl rfl rfl ?_; intro A1 c1 w1 R1 B1)
    all_goals
      go_ret
      exact ⟨A1, c1, rfl, R1.out, B1.out⟩
set_option maxRecDepth 100000 in
set_option maxHeartbeats 1000000 in
theorem ins_grow {base g n c i vb : Nat} {vs : List Value} {x0 x1 : Value} {w : World} (hR : RowV 2 w base (some ⟨g, 0, none⟩) n c vs) (hbase : base ≤ w.heap.size) (hn : n ≤ 1000000) (hi : i < n) (hr : c < n + 1) (hbx : ExtBox w vb x0 x1) (h1c : ∀ v ∈ vs, v.oneCell' = true) (h0 : x0.oneCell' = true) (h1 : x1.oneCell' = true) :
    Calls Tryz.prog 88 #[.slice (some ⟨g, 0, none⟩) n c, .int .i64 i, .slice (some ⟨vb, 0, none⟩) 1 1] w (InsP base vs n i x0 x1 w) := by
  have hcn : c = n := by have := hR.le; omega
  subst hcn
  have hvl := hR.len
  rcases hR.at_ with ⟨e, _⟩ | ⟨g', e, hbg, hgl, hcs, hcl⟩
  · cases e
  cases e
  obtain ⟨i0, hi0, hz0, hzs, hzb⟩ := info_parts infoE
  have hsz : (Tryz.prog.info? 62).map (·.size) = some 2 := by rw [hi0]; simp [hzs]
  have hcell : ∀ j, j < c * 2 → w.cell? ⟨g, j, none⟩ = vs[j]? := fun j hj => by rw [hcl j (by omega), List.getElem?_eq_getElem]
  have hdl : (vs.drop (i * 2)).length = c * 2 - i * 2 := by rw [List.length_drop, hvl]
  have hvw : vb < w.heap.size := by unfold ExtBox at hbx; exact (Array.getElem?_eq_some_iff.1 hbx).1
  have hkk : (c : Int) + 1 - (i : Int) = ((c + 1 - i : Nat) : Int) := by omega
  have hik : i + (c + 1 - i) = c + 1 := by omega
  have hold : (Builtin.firstCells i0.size i (.slice (some ⟨g, 0, none⟩) i c)).run Tryz.prog w.drew = .ok (vs.take (i * 2)).toArray w.drew := by
    rw [hzs]
    exact run_firstCells_some w.drew 2 i ⟨g, 0, none⟩ i c (vs.take (i * 2)) (by rw [List.length_take]; omega) (fun j v hj => by
      rw [add_pl, Nat.zero_add]
      rw [List.getElem?_take] at hj
      split at hj
      · show w.cell? _ = _
        rw [hcell j (by omega)]; exact hj
      · cases hj)
  have hrz : ∀ ty, (Builtin.append_ #[26, 3] ty #[.slice (some ⟨g, 0, none⟩) i c, .int .i64 ((c : Int) + 1 - (i : Int))]).run Tryz.prog w =
      .ok (.slice (some ⟨w.heap.size, 0, none⟩) (c + 1) (grownCap w (c + 1) c 62)) (w.drew.alloc (.cells ((vs.take (i * 2)).toArray ++ Builtin.zeroCells (Value.agg #[.int .i64 0, .slice none 0 0]).cells (c + 1 - i) ++ Builtin.zeroCells (Value.agg #[.int .i64 0, .slice none 0 0]).cells (grownCap w (c + 1) c 62 - (c + 1))) 62)) := fun ty => by
    have h := Lib.run_append_grow_zeros w 26 3 ty 62 i0 _ .i64 .i64 Tryz.underlying26 Tryz.underlying3 hi0 hz0 (some ⟨g, 0, none⟩) i c (vs.take (i * 2)) hold (c + 1 - i) (by omega) (by omega) (by omega) (by omega) (by rw [hzb]; omega) (by rw [hzb, hik]; exact growslice_fits hr (by omega))
    rw [hik] at h
    rw [hkk]
    exact h
  have hGn := grownCap_ge w (c + 1) c 62
  have hGm := grownCap_le_maxLen w (c + 1) c 62 (by unfold maxLen; omega)
  generalize grownCap w (c + 1) c 62 = G at *
  obtain ⟨ROW, hROW⟩ : ∃ ROW : Array Value, ROW = (vs.take (i * 2)).toArray ++ Builtin.zeroCells (Value.agg #[.int .i64 0, .slice none 0 0]).cells (c + 1 - i) ++ Builtin.zeroCells (Value.agg #[.int .i64 0, .slice none 0 0]).cells (G - (c + 1)) := ⟨_, rfl⟩
  have hRs : ROW.size = G * 2 := by
    rw [hROW, Array.size_append, Array.size_append, size_zeroCells, size_zeroCells, List.size_toArray, List.length_take]
    show min _ _ + _ * 2 + _ * 2 = _
    omega
  have hRt : ∀ j, j < i * 2 → ROW[j]? = vs[j]? := fun j hj => by
    rw [hROW, Array.append_assoc, Array.getElem?_append_left (by rw [List.size_toArray, List.length_take]; omega), List.getElem?_toArray, List.getElem?_take, if_pos hj]
  rw [← hROW] at hrz
  clear hROW
  obtain ⟨W1, hW1⟩ : ∃ W1, W1 = w.drew.alloc (.cells ROW 62) := ⟨_, rfl⟩
  rw [← hW1] at hrz
  have hN : ∀ j, j < G * 2 → (W1.cell? ⟨w.heap.size, j, none⟩).isSome = true := fun j hj => by
    rw [hW1, World.cell?_alloc_at (w := w.drew) ROW _ w.heap.size j rfl, Array.getElem?_eq_getElem (by omega)]; rfl
  have hNt : ∀ j, j < i * 2 → W1.cell? ⟨w.heap.size, j, none⟩ = vs[j]? := fun j hj => by
    rw [hW1, World.cell?_alloc_at (w := w.drew) ROW _ w.heap.size j rfl, hRt j hj]
  have hNf : ∀ j, W1.frozen? ⟨w.heap.size, j, none⟩ = false := fun j => by rw [hW1]; exact World.frozen?_alloc_at (w := w.drew) ROW _ w.heap.size j rfl
  have hO : ∀ k, k < w.heap.size → W1.heap[k]? = w.heap[k]? := fun k hk => by rw [hW1]; exact heap_alloc_old w.drew _ hk
  have hOc : ∀ b j, b < w.heap.size → W1.cell? ⟨b, j, none⟩ = w.cell? ⟨b, j, none⟩ := fun b j hb => by unfold World.cell?; rw [hO b hb]
  have hWs : W1.heap.size = w.heap.size + 1 := by rw [hW1]; simp
  have hWo : W1.os = w.os ∧ W1.tape = w.tape ∧ W1.output = w.output := by rw [hW1]; exact ⟨rfl, rfl, rfl⟩
  have hcpA : ∀ (W : World), (∀ x, W.cell? x = W1.cell? x) → (∀ x, W.frozen? x = W1.frozen? x) → ∀ ty dc, (Builtin.copy_ #[26, 26] ty #[.slice (some ⟨w.heap.size, i * 2, none⟩) (c + 1 - i) dc, .slice (some ⟨vb, 0, none⟩) 1 1]).run Tryz.prog W = .ok (goInt (Nat.min 1 (c + 1 - i))) (W.setCells w.heap.size (i * 2) [x0, x1]) := fun W hWc hWf ty dc =>
    run_copy_cellsN W 2 _ _ ty 62 w.heap.size (i * 2) (c + 1 - i) dc ⟨vb, 0, none⟩ 1 1 [x0, x1] Tryz.underlying26 hsz (by simp only [Nat.min_def]; split <;> simp <;> omega)
      (fun j v hj => by
        rw [add_pl, hWc, hOc vb _ hvw]
        exact hbx.cell j v hj)
      (fun j hj => by rw [hWc]; exact hN _ (by simp at hj; omega)) (fun j hj => by rw [hWf]; exact hNf _) (fun v hv => by
        simp only [List.mem_cons, List.not_mem_nil, or_false] at hv
        rcases hv with rfl | rfl <;> assumption)
  have hcpB : ∀ (W : World), (∀ x, W.cell? x = (W1.setCells w.heap.size (i * 2) [x0, x1]).cell? x) → (∀ x, W.frozen? x = (W1.setCells w.heap.size (i * 2) [x0, x1]).frozen? x) → ∀ ty dc sc, (Builtin.copy_ #[26, 26] ty #[.slice (some ⟨w.heap.size, (i + 1) * 2, none⟩) (c - i) dc, .slice (some ⟨g, i * 2, none⟩) (c - i) sc]).run Tryz.prog W = .ok (goInt (Nat.min (c - i) (c - i))) (W.setCells w.heap.size ((i + 1) * 2) (vs.drop (i * 2))) := fun W hWc hWf ty dc sc =>
    run_copy_cellsN W 2 _ _ ty 62 w.heap.size ((i + 1) * 2) (c - i) dc ⟨g, i * 2, none⟩ (c - i) sc (vs.drop (i * 2)) Tryz.underlying26 hsz (by rw [hdl]; simp only [Nat.min_def]; split <;> omega)
      (fun j v hj => by
        have hlt := (List.getElem?_eq_some_iff.1 hj).1
        rw [add_pl, hWc, World.cell?_setCells_out _ _ _ _ _ (fun h _ => absurd (show g = w.heap.size from h) (by omega)), hOc g _ hgl, hcell _ (by omega), ← List.getElem?_drop]; exact hj)
      (fun j hj => by rw [hWc]; exact World.isSome_setCells _ _ _ _ _ (hN _ (by omega)))
      (fun j hj => by rw [hWf, World.frozen?_setCells]; exact hNf _) (fun v hv => h1c v (List.mem_of_mem_drop hv))
  have HE : Hid (∀ W : World, W.heap = ((W1.setCells w.heap.size (i * 2) [x0, x1]).setCells w.heap.size ((i + 1) * 2) (vs.drop (i * 2))).heap → W.os = w.os → W.tape = w.tape → W.output = w.output → RowV 2 W base (some ⟨w.heap.size, 0, none⟩) (c + 1) G (insV vs i x0 x1) ∧ Below base w W) := Lib.hid (by
    intro W hW e1 e2 e3
    obtain ⟨q1, q2, q3, q4, q5⟩ := setCells_same w.heap.size [x0, x1] (i * 2) W1
    obtain ⟨r1, r2, r3, r4, r5⟩ := setCells_same w.heap.size (vs.drop (i * 2)) ((i + 1) * 2) (W1.setCells w.heap.size (i * 2) [x0, x1])
    have hc' : ∀ x, W.cell? x = ((W1.setCells w.heap.size (i * 2) [x0, x1]).setCells w.heap.size ((i + 1) * 2) (vs.drop (i * 2))).cell? x := fun x => by unfold World.cell?; rw [hW]
    have hf' : ∀ x, W.frozen? x = ((W1.setCells w.heap.size (i * 2) [x0, x1]).setCells w.heap.size ((i + 1) * 2) (vs.drop (i * 2))).frozen? x := fun x => by unfold World.frozen?; rw [hW]
    have hs' : W.heap.size = w.heap.size + 1 := by rw [hW, r4, q4, hWs]
    refine ⟨rowV_of (insV_len hvl (Nat.le_of_lt hi)) hGn hGm hbase (by omega) (fun j hj => ⟨by rw [hc']; exact World.isSome_setCells _ _ _ _ _ (World.isSome_setCells _ _ _ _ _ (hN j hj)), by rw [hf', World.frozen?_setCells, World.frozen?_setCells]; exact hNf j⟩) (fun j hj => ?_), ⟨e1, e2, e3, by omega, fun k hk => ?_⟩⟩
    · rw [hc']
      exact (ins_cells (w := W1) (c := G) hvl hi hGn hN hNt).2 j hj
    · rw [hW, r5 k (by omega), q5 k (by omega), hO k (by omega)])
  have hG63 : G ≤ 9223372036854775807 := by unfold maxLen at hGm; omega
  have hz2 : ¬ ((i : Int) = (c : Int)) := by omega
  have hin : i ≤ c := by omega
  have hin2 : (i : Int) ≤ c := by omega
  have hGi : ¬ (G = i) := by omega
  have hGim : ¬ (G = i + 1) := by omega
  have hci : ¬ (c = i) := by omega
  have hin3 : (i : Int) ≤ (c : Int) + 1 := by omega
  have hw1 : IntKind.i64.wrap ((i : Int) + 1) = (i : Int) + 1 := by rw [IntKind.wrap_i64]; omega
  have hb1 : (0 : Int) ≤ (i : Int) + 1 := by omega
  have htn : ((i : Int) + 1).toNat = i + 1 := by omega
  have hnn : c + 1 - (i + 1) = c - i := by omega
  subst hW1
  have hE1 : ∀ x, ((w.alloc (.cells ROW 62)).drew).cell? x = (w.drew.alloc (.cells ROW 62)).cell? x := fun _ => rfl
  have hE2 : ∀ x, ((w.alloc (.cells ROW 62)).drew).frozen? x = (w.drew.alloc (.cells ROW 62)).frozen? x := fun _ => rfl
  have hF1 : ∀ x, (((w.alloc (.cells ROW 62)).drew.setCells w.heap.size (i * 2) [x0, x1]).drew).cell? x = ((w.drew.alloc (.cells ROW 62)).setCells w.heap.size (i * 2) [x0, x1]).cell? x := fun _ => rfl
  have hF2 : ∀ x, (((w.alloc (.cells ROW 62)).drew.setCells w.heap.size (i * 2) [x0, x1]).drew).frozen? x = ((w.drew.alloc (.cells ROW 62)).setCells w.heap.size (i * 2) [x0, x1]).frozen? x := fun _ => rfl
  unfold InsP
  clear hR hcs hcl hcell hbx h1c hvl hdl hold hN hNt hNf hO hOc hRt hRs hz0 hi0 hzs hzb hkk hik hWs hWo hGm
  go_enter Tryz.func88, Tryz.ntmps88
  go_wp2_with (first
    | (at_builtin; refine Lib.wpList_append_run _ rfl _ _ _ _ rfl _ _ rfl rfl _ _ (hrz _) ?_)
    | (at_builtin; refine wpList_copy_runI _ rfl _ _ 26 26 rfl _ _ rfl rfl (hcpA _ hE1 hE2 _ _) ?_))
  go_region_law (refine step_copy_runI rfl _ _ 26 26 rfl (.slice (some ⟨w.heap.size, (i + 1) * 2, none⟩) (c - i) (G - (i + 1))) (.slice (some ⟨g, i * 2, none⟩) (c - i) (c - i)) (by simp [Act.eval, Act.put]) (by simp [Act.eval, Act.put]) (hcpB _ hF1 hF2 3 (G - (i + 1)) (c - i)) ?_)
  go_wp2_with fail
  go_ret
  obtain ⟨q1, q2, q3, _, _⟩ := setCells_same w.heap.size [x0, x1] (i * 2) (w.alloc (.cells ROW 62)).drew
  obtain ⟨r1, r2, r3, _, _⟩ := setCells_same w.heap.size (vs.drop (i * 2)) ((i + 1) * 2) ((w.alloc (.cells ROW 62)).drew.setCells w.heap.size (i * 2) [x0, x1]).drew
  refine ⟨_, _, rfl, HE.out _ ?_ (r1.trans q1) (r2.trans q2) (r3.trans q3)⟩
  exact setCells_heap _ _ _ (setCells_heap (w := (w.alloc (.cells ROW 62)).drew) (w' := w.drew.alloc (.cells ROW 62)) _ _ _ rfl)
theorem ins_prog {base n c i vb : Nat} {A : Option Addr} {vs : List Value} {x0 x1 : Value} {w : World} (hR : RowV 2 w base A n c vs) (hbase : base ≤ w.heap.size) (hn : n ≤ 1000000) (hi : i ≤ n) (hA : A ≠ some ⟨vb, 0, none⟩) (hbx : ExtBox w vb x0 x1) (h1c : ∀ v ∈ vs, v.oneCell' = true) (h0 : x0.oneCell' = true) (h1 : x1.oneCell' = true) :
    Calls Tryz.prog 88 #[.slice A n c, .int .i64 i, .slice (some ⟨vb, 0, none⟩) 1 1] w (InsP base vs n i x0 x1 w) := by
  by_cases h : i = n
  · subst h
    exact ins_end hR hbase hn hbx h0 h1
  · have hlt : i < n := by omega
    rcases hR.at_ with ⟨rfl, rfl⟩ | ⟨g, rfl, _⟩
    · have := hR.le
      omega
    · by_cases hr : n + 1 ≤ c
      · exact ins_room hR hlt hr (fun e => hA (by rw [e])) hbx h1c h0 h1
      · exact ins_grow hR hbase hn hlt (by omega) hbx h1c h0 h1
end Go.Proofs.YtiakbmllpnabnaaGreatDoor
