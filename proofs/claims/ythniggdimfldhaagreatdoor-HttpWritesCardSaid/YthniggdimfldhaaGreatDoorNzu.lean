/- Rows of headers in blocks of their own; the chapter's Copy of a message. -/
import Derived.Test.YthniggdimfldhaaGreatDoorNzt
namespace Go.Proofs.YthniggdimfldhaaGreatDoor
open Go Go.RowKit

/-- A row of headers, in a block of its own, whose cells may be written. -/
structure RowH (w : World) (base : Nat) (A : Option Addr) (c : Nat) (l : List Hd) : Prop where
  le : l.length ≤ c
  at_ : (A = none ∧ c = 0) ∨ ∃ g, A = some ⟨g, 0, none⟩ ∧ base ≤ g ∧ g < w.heap.size ∧ (∀ j, j < l.length * 2 → w.frozen? ⟨g, j, none⟩ = false) ∧ ∀ i (hi : i < l.length), w.cell? ⟨g, i * 2, none⟩ = some (strV l[i].1) ∧ w.cell? ⟨g, i * 2 + 1, none⟩ = some (strV l[i].2)
theorem RowH.hs {w : World} {base : Nat} {A : Option Addr} {c : Nat} {l : List Hd} (h : RowH w base A c l) : Hs w (.slice A l.length c) l := by
  rcases h.at_ with ⟨rfl, rfl⟩ | ⟨g, rfl, _, hlt, _, hc⟩
  · have : l = [] := List.eq_nil_of_length_eq_zero (by have := h.le; omega)
    subst this
    exact Hs.nil w
  · refine ⟨_, c, rfl, h.le, (fun e => (by cases e)), fun i hi => ⟨g, 0, rfl, hlt, ?_⟩⟩
    rw [Nat.zero_add]
    have hi2 : i / 2 < l.length := by rw [hv_len] at hi; omega
    have e := hc (i / 2) hi2
    have p := hv_at l (i / 2) hi2
    rcases Nat.mod_two_eq_zero_or_one i with h0 | h0
    · have ei : i / 2 * 2 = i := by omega
      rw [ei] at e p
      rw [e.1, ← p.1, List.getElem?_eq_getElem]
    · have ei : i / 2 * 2 + 1 = i := by omega
      rw [ei] at e p
      rw [e.2, ← p.2, List.getElem?_eq_getElem]
theorem RowH.keep {w w' : World} {base : Nat} {A : Option Addr} {c : Nat} {l : List Hd} (h : RowH w base A c l) (hs : w.heap.size ≤ w'.heap.size) (hb : ∀ g, A = some ⟨g, 0, none⟩ → w'.heap[g]? = w.heap[g]?) : RowH w' base A c l := by
  refine ⟨h.le, ?_⟩
  rcases h.at_ with h0 | ⟨g, rfl, h1, h2, h3, h4⟩
  · exact .inl h0
  · have e := hb g rfl
    refine .inr ⟨g, rfl, h1, Nat.lt_of_lt_of_le h2 hs, fun j hj => ?_, fun i hi => ?_⟩
    · rw [World.frozen?_of_block (a := ⟨g, j, none⟩) e]
      exact h3 j hj
    · rw [cell_heap e, cell_heap e]
      exact h4 i hi
theorem RowH.below {w w' : World} {base : Nat} {A : Option Addr} {c : Nat} {l : List Hd} (h : RowH w base A c l) (hb : Below w.heap.size w w') : RowH w' base A c l :=
  h.keep hb.size fun g e => by
    rcases h.at_ with ⟨rfl, _⟩ | ⟨g', rfl, _, h2, _⟩
    · cases e
    · obtain rfl : g' = g := by simpa using e
      exact hb.block _ h2
theorem RowH.lt {w : World} {base : Nat} {A : Option Addr} {c : Nat} {l : List Hd} (h : RowH w base A c l) {g : Nat} (e : A = some ⟨g, 0, none⟩) : base ≤ g ∧ g < w.heap.size := by
  rcases h.at_ with ⟨rfl, _⟩ | ⟨g', rfl, h1, h2, _⟩
  · cases e
  · obtain rfl : g' = g := by simpa using e
    exact ⟨h1, h2⟩
theorem RowH.up {w : World} {base base' : Nat} {A : Option Addr} {c : Nat} {l : List Hd} (h : RowH w base A c l) (hb : base' ≤ base) : RowH w base' A c l := by
  refine ⟨h.le, ?_⟩
  rcases h.at_ with h0 | ⟨g, e, h1, h2⟩
  · exact .inl h0
  · exact .inr ⟨g, e, Nat.le_trans hb h1, h2⟩
theorem OwnH.rowH {w : World} {base : Nat} {v : Value} {l : List Hd} (h : OwnH w base v l) : ∃ A c, v = .slice A l.length c ∧ RowH w base A c l := by
  rcases h.2 with ⟨rfl, h0⟩ | ⟨g, cap, cur, rfl, hb, hg, hnc, hcm, hsz, ht⟩
  · have : l = [] := List.eq_nil_of_length_eq_zero h0
    subst this
    exact ⟨none, 0, rfl, Nat.le_refl _, .inl ⟨rfl, rfl⟩⟩
  · refine ⟨_, cap, rfl, hnc, .inr ⟨g, rfl, hb, (Array.getElem?_eq_some_iff.1 hg).1, fun j hj => ?_, fun i hi => ?_⟩⟩
    · unfold World.frozen?
      rw [hg]
      simp
    · have p := hv_at l i hi
      have e0 := World.ownsRow.cells h (g := g) rfl (i * 2) _ p.1
      have e1 := World.ownsRow.cells h (g := g) rfl (i * 2 + 1) _ p.2
      rw [add_pl, Nat.zero_add] at e0 e1
      exact ⟨e0, e1⟩
/-- one header is stored -/
theorem RowH.set {w : World} {base g : Nat} {c : Nat} {l : List Hd} (h : RowH w base (some ⟨g, 0, none⟩) c l) (i : Nat) (hi : i < l.length) (y : Hd) :
    RowH ((w.setCell ⟨g, i * 2, none⟩ (strV y.1)).setCell ⟨g, i * 2 + 1, none⟩ (strV y.2)) base (some ⟨g, 0, none⟩) c (l.set i y) := by
  refine ⟨by rw [List.length_set]; exact h.le, ?_⟩
  rcases h.at_ with ⟨e, _⟩ | ⟨g', e, h1, h2, h3, h4⟩
  · cases e
  · obtain rfl : g' = g := by simpa using e.symm
    have hs1 : (w.setCell ⟨g', i * 2, none⟩ (strV y.1)).cell? ⟨g', i * 2, none⟩ = some (strV y.1) := World.cell?_setCell_same _ _ _ (h4 i hi).1
    have hs2 : (w.setCell ⟨g', i * 2, none⟩ (strV y.1)).cell? ⟨g', i * 2 + 1, none⟩ = some (strV l[i].2) := (World.cell?_setCell_other _ _ _ _ (by simp)).trans (h4 i hi).2
    refine .inr ⟨g', rfl, h1, by simpa [World.setCell] using h2, fun j hj => ?_, fun k hk => ?_⟩
    · rw [World.frozen?_setCell, World.frozen?_setCell]
      exact h3 j (by rw [List.length_set] at hj; exact hj)
    · rw [List.length_set] at hk
      by_cases hki : i = k
      · subst hki
        rw [List.getElem_set_self]
        exact ⟨(World.cell?_setCell_other _ _ _ _ (by simp)).trans hs1, World.cell?_setCell_same _ _ _ hs2⟩
      · rw [List.getElem_set_ne hki]
        exact ⟨((World.cell?_setCell_other _ _ _ _ (by simp <;> omega)).trans (World.cell?_setCell_other _ _ _ _ (by simp <;> omega))).trans (h4 k hk).1,
          ((World.cell?_setCell_other _ _ _ _ (by simp <;> omega)).trans (World.cell?_setCell_other _ _ _ _ (by simp <;> omega))).trans (h4 k hk).2⟩
/-- A message whose rows lie in blocks of their own, none of them the other's. -/
structure OwnM (w : World) (base : Nat) (m : Msg) (Ah : Option Addr) (ch : Nat) (Ab : Option Addr) (cb : Nat) : Prop where
  hs : RowH w base Ah ch m.heads
  rb : RowG w base Ab cb m.body
  ne : ∀ q r, Ah = some ⟨q, 0, none⟩ → Ab = some ⟨r, 0, none⟩ → q ≠ r
theorem OwnM.below {w w' : World} {base : Nat} {m : Msg} {Ah : Option Addr} {ch : Nat} {Ab : Option Addr} {cb : Nat} (h : OwnM w base m Ah ch Ab cb) (hb : Below w.heap.size w w') : OwnM w' base m Ah ch Ab cb := ⟨h.hs.below hb, h.rb.below hb, h.ne⟩
theorem OwnM.up {w : World} {base base' : Nat} {m : Msg} {Ah : Option Addr} {ch : Nat} {Ab : Option Addr} {cb : Nat} (h : OwnM w base m Ah ch Ab cb) (hb : base' ≤ base) : OwnM w base' m Ah ch Ab cb := ⟨h.hs.up hb, h.rb.up hb, h.ne⟩
/-- what a copy is -/
def CopyP (m : Msg) (w : World) (e : Ending) (w' : World) : Prop := ∃ (Ah : Option Addr) (ch : Nat) (Ab : Option Addr) (cb : Nat),
  e = .returned (.agg #[.string ⟨m.meth.toArray⟩, .string ⟨m.path.toArray⟩, .int .i64 m.status, .slice Ah m.heads.length ch, .slice Ab m.body.length cb]) ∧ OwnM w' w.heap.size m Ah ch Ab cb ∧ Below w.heap.size w w'
theorem RowH.keepset {w : World} {base g : Nat} {A : Option Addr} {c : Nat} {l : List Hd} (h : RowH w base A c l) (hne : ∀ q, A = some ⟨q, 0, none⟩ → q ≠ g) (k : Nat) (v : Value) : RowH (w.setCell ⟨g, k, none⟩ v) base A c l :=
  h.keep (by simp [World.setCell]) fun q e => Below.heap_setCell _ _ _ _ (hne q e)
theorem RowG.keepset {w : World} {base g : Nat} {A : Option Addr} {c : Nat} {l : List UInt8} (h : RowG w base A c l) (hne : ∀ q, A = some ⟨q, 0, none⟩ → q ≠ g) (k : Nat) (v : Value) : RowG (w.setCell ⟨g, k, none⟩ v) base A c l :=
  h.keep (by simp [World.setCell]) fun q e => Below.heap_setCell _ _ _ _ (hne q e)
theorem RowH.msgset {w : World} {base g : Nat} {A : Option Addr} {c : Nat} {l : List Hd} (h : RowH w base A c l) (hne : ∀ q, A = some ⟨q, 0, none⟩ → q ≠ g) (v0 v1 v2 v3 v4 : Value) :
    RowH (((((w.setCell ⟨g, 0, none⟩ v0).setCell ⟨g, 1, none⟩ v1).setCell ⟨g, 2, none⟩ v2).setCell ⟨g, 3, none⟩ v3).setCell ⟨g, 4, none⟩ v4) base A c l :=
  ((((h.keepset hne 0 v0).keepset hne 1 v1).keepset hne 2 v2).keepset hne 3 v3).keepset hne 4 v4
set_option maxRecDepth 100000 in
set_option maxHeartbeats 400000 in
theorem copy_refM (m : Msg) (hV : Value) (Ab : Option Addr) (cb : Nat) (w : World) (hv : Hs w hV m.heads) (hr : Rb w.heap.size w Ab cb m.body) (hh : m.heads.length * 32 ≤ 140737488355328) (hbl : m.body.length ≤ 140737488355328) :
    Calls Tryz.prog 17 #[.agg #[.string ⟨m.meth.toArray⟩, .string ⟨m.path.toArray⟩, .int .i64 m.status, hV, .slice Ab m.body.length cb]] w (CopyP m w) := by
  have hb1 := below_new w (.cells #[.string ⟨m.meth.toArray⟩, .string ⟨m.path.toArray⟩, .int .i64 m.status, hV, .slice Ab m.body.length cb] 25)
  have hb2 := below_new (w.alloc (.cells #[.string ⟨m.meth.toArray⟩, .string ⟨m.path.toArray⟩, .int .i64 m.status, hV, .slice Ab m.body.length cb] 25)) (.cells zero5 25)
  have CS := Lib.hid ((box_cs w m.meth m.path m.status hV (.slice Ab m.body.length cb)).below hb2)
  have CZ := Cs.new (w.alloc (.cells #[.string ⟨m.meth.toArray⟩, .string ⟨m.path.toArray⟩, .int .i64 m.status, hV, .slice Ab m.body.length cb] 25)) [.string ⟨#[]⟩, .string ⟨#[]⟩, .int .i64 0, .slice none 0 0, .slice none 0 0] 25
  have hs : (w.alloc (.cells #[.string ⟨m.meth.toArray⟩, .string ⟨m.path.toArray⟩, .int .i64 m.status, hV, .slice Ab m.body.length cb] 25)).heap.size = w.heap.size + 1 := by simp
  rw [hs] at CZ
  have CZ := Lib.hid CZ
  have B2 := Lib.hid (Below.and hb1 hb2)
  have C1 := Lib.hid (copyH_any hV m.heads _ (hv.below (Below.and hb1 hb2)) hh)
  have HR := Lib.hid hr
  clear hb1 hb2 hs hv hr hh
  unfold CopyP
  go_enter Tryz.func17, Tryz.ntmps17
  go_upto_region 1 with fail
  generalize (w.alloc (.cells #[.string ⟨m.meth.toArray⟩, .string ⟨m.path.toArray⟩, .int .i64 m.status, hV, .slice Ab m.body.length cb] 25)).alloc (.cells zero5 25) = w2 at *
  have d3 := CS.out.c 3 (by simp)
  go_wp2_with fail
  go_at_call 45
  refine C1.out.mono ?_
  rintro e w3 ⟨u, rfl, ho, hb3⟩
  obtain ⟨Ah, ch, rfl, hrh⟩ := ho.rowH
  have CS3 := Lib.hid (CS.out.below hb3)
  have CZ3 := Lib.hid (CZ.out.below hb3)
  have B3 := Lib.hid (Below.and B2.out hb3)
  have HL2 : Hid (w.heap.size + 1 < w2.heap.size) := CZ.out.lt
  have RH3 : Hid (RowH w3 w2.heap.size Ah ch m.heads) := hrh
  have d3' := CS3.out.c 3 (by simp)
  have f3 := CS3.out.free 3 (by simp)
  have HSZ := Lib.hid hb3.size
  clear d3 ho hrh hb3 C1 CS CZ
  go_upto_region 2 with fail
  clear d3' f3
  have CS4 := Lib.hid (CS3.out.set 3 (by simp) (.slice Ah m.heads.length ch))
  have CZ4 : Hid (Cs (w3.setCell ⟨w.heap.size, 3, none⟩ (.slice Ah m.heads.length ch)) (w.heap.size + 1) [.string ⟨#[]⟩, .string ⟨#[]⟩, .int .i64 0, .slice none 0 0, .slice none 0 0]) := CZ3.out.keep (by simp [World.setCell]) (Below.heap_setCell _ _ _ _ (by show w.heap.size + 1 ≠ w.heap.size; omega))
  have RH4 := Lib.hid (RH3.out.keepset (g := w.heap.size) (fun q e => by have := (RH3.out.lt e).1; have := HL2.out; omega) 3 (.slice Ah m.heads.length ch))
  have B4 : Hid (Below w.heap.size w (w3.setCell ⟨w.heap.size, 3, none⟩ (.slice Ah m.heads.length ch))) := B3.out.setCell (p := ⟨w.heap.size, 3, none⟩) (Nat.le_refl _) _
  have HS4 : Hid (w2.heap.size ≤ (w3.setCell ⟨w.heap.size, 3, none⟩ (.slice Ah m.heads.length ch)).heap.size) := by
    have e : (w3.setCell ⟨w.heap.size, 3, none⟩ (.slice Ah m.heads.length ch)).heap.size = w3.heap.size := by simp [World.setCell]
    show _ ≤ _
    rw [e]
    exact HSZ.out
  clear CS3 CZ3 RH3 B3 HSZ
  have C2 := Lib.hid (copyB_any (n := m.body.length) ((HR.out.keep fun k hk => B4.out.block k hk).mono B4.out.size) rfl hbl)
  generalize w3.setCell ⟨w.heap.size, 3, none⟩ (.slice Ah m.heads.length ch) = w4 at *
  have d4 := CS4.out.c 4 (by simp)
  go_wp2_with fail
  go_at_call 18
  refine C2.out.mono ?_
  rintro e w5 ⟨A5, c5, rfl, hr5, hb5⟩
  have CS5 := Lib.hid (CS4.out.below hb5)
  have CZ5 := Lib.hid (CZ4.out.below hb5)
  have B5 := Lib.hid (Below.and B4.out hb5)
  have RH5 := Lib.hid (RH4.out.below hb5)
  have RG5 := Lib.hid hr5
  have HNE : Hid (∀ q r, Ah = some ⟨q, 0, none⟩ → A5 = some ⟨r, 0, none⟩ → q ≠ r) := fun q r e1 e2 => by have h1 := (RH4.out.lt e1).2; have h2 := (RG5.out.lt e2).1; omega
  have HL4 : Hid (w.heap.size + 1 < w4.heap.size) := CZ4.out.lt
  clear d4 hr5 hb5 C2 CS4 CZ4 B4 RH4
  have d4 := CS5.out.c 4 (by simp)
  have f4 := CS5.out.free 4 (by simp)
  go_upto_region 3 with fail
  clear d4 f4
  have CS6 := Lib.hid (CS5.out.set 4 (by simp) (.slice A5 m.body.length c5))
  have CZ6 : Hid (Cs (w5.setCell ⟨w.heap.size, 4, none⟩ (.slice A5 m.body.length c5)) (w.heap.size + 1) [.string ⟨#[]⟩, .string ⟨#[]⟩, .int .i64 0, .slice none 0 0, .slice none 0 0]) := CZ5.out.keep (by simp [World.setCell]) (Below.heap_setCell _ _ _ _ (by show w.heap.size + 1 ≠ w.heap.size; omega))
  have RH6 := Lib.hid (RH5.out.keepset (g := w.heap.size) (fun q e => by have := (RH5.out.lt e).1; have := HL2.out; omega) 4 (.slice A5 m.body.length c5))
  have RG6 := Lib.hid (RG5.out.keepset (g := w.heap.size) (fun q e => by have := (RG5.out.lt e).1; have := HL4.out; omega) 4 (.slice A5 m.body.length c5))
  have B6 : Hid (Below w.heap.size w (w5.setCell ⟨w.heap.size, 4, none⟩ (.slice A5 m.body.length c5))) := B5.out.setCell (p := ⟨w.heap.size, 4, none⟩) (Nat.le_refl _) _
  clear CS5 CZ5 RH5 RG5 B5
  generalize w5.setCell ⟨w.heap.size, 4, none⟩ (.slice A5 m.body.length c5) = w6 at *
  have d0 := CS6.out.c 0 (by simp)
  have d1 := CS6.out.c 1 (by simp)
  have d2 := CS6.out.c 2 (by simp)
  have d3 := CS6.out.c 3 (by simp)
  have d4 := CS6.out.c 4 (by simp)
  have g0 := CZ6.out.c 0 (by simp)
  have g1 := CZ6.out.c 1 (by simp)
  have g2 := CZ6.out.c 2 (by simp)
  have g3 := CZ6.out.c 3 (by simp)
  have g4 := CZ6.out.c 4 (by simp)
  have f0 := CZ6.out.free 0 (by simp)
  have f1 := CZ6.out.free 1 (by simp)
  have f2 := CZ6.out.free 2 (by simp)
  have f3 := CZ6.out.free 3 (by simp)
  have f4 := CZ6.out.free 4 (by simp)
  simp only [List.set_cons_succ, List.set_cons_zero, List.getElem_cons_succ, List.getElem_cons_zero] at d0 d1 d2 d3 d4
  go_wp2_with fail
  refine bodyPost_ret (results_msg1 rfl _ _ (w.heap.size + 1) _ _ _ _ _ rfl (msg_set CZ6.out _ _ _ _ _)) rfl ?_
  refine ⟨Ah, ch, A5, c5, rfl, ⟨(RH6.out.msgset (fun q e => by have := (RH6.out.lt e).1; have := HL2.out; omega) _ _ _ _ _).up (by have := HL2.out; omega), (RG6.out.msgset (fun q e => by have := (RG6.out.lt e).1; have := HL4.out; omega) _ _ _ _ _).up (by have := HL4.out; omega), HNE.out⟩, msg_set_below B6.out (by omega) _ _ _ _ _⟩
end Go.Proofs.YthniggdimfldhaaGreatDoor
