/- Walks of the chapter's own order: Add, Covers. -/
import Derived.Test.YtaikhdmgcffflaaDoorWj
namespace Go.Proofs.YtaikhdmgcffflaaDoor
open Go Go.RowKit Go.Shelf

theorem row_ne {W : World} {base size n : Nat} {e t : TypeId} {v : Value} {xs : List Value} (h : W.ownsRow base e size v n xs) {k : Nat} {cs : Array Value} {fr : Nat × Nat} (hk : W.heap[k]? = some (.cells cs t fr)) (ht : t ≠ e) : v.ownBlock ≠ some k := by
  rcases h.2 with ⟨rfl, _⟩ | ⟨g, cap, cur, rfl, _, hh, _⟩
  · intro e'; cases e'
  · intro e'
    have e2 : some g = some k := e'
    injection e2 with e2
    subst e2
    rw [hh] at hk
    injection hk with hk
    injection hk with _ hk _
    exact ht hk.symm
/-- What Add of the chapter's order leaves: its own block and its row have turned, and nothing else. -/
structure Turned (w w' : World) (base b : Nat) : Prop where
  bel : Below base w w'
  other : ∀ (k : Nat) (cs : Array Value) (t : TypeId), w.heap[k]? = some (.cells cs t (0, 0)) → t ≠ 41 → k ≠ b → w'.heap[k]? = w.heap[k]?
theorem ref_added {w w1 w2 : World} {base b n : Nat} {v v' : Value} {L : List (Nat × Nat)} {x y : Nat} {o : Obj} (h : Ref w1 base b n v L) (hb1 : Below w.heap.size w w1) (hbase : base ≤ b) (hbw : b < w.heap.size)
    (hown : w2.ownsRow base 41 2 v' (L.length + 1) (pv L ++ [.int .i64 (x : Nat), .int .i64 (y : Nat)])) (hgrow : (w1.alloc o).grownBy w2 v.ownBlock) :
    w2.heap[b]? = some (.cells #[.int .i64 n, v] 93 (0, 0)) ∧ Ref (w2.setCell ⟨b, 1, none⟩ v') base b n v' (L ++ [(x, y)]) ∧ Turned w (w2.setCell ⟨b, 1, none⟩ v') base b := by
  have e1 : (w1.alloc o).heap[b]? = some (.cells #[.int .i64 n, v] 93 (0, 0)) := (Below.heap_alloc w1 o b h.lt).trans h.blk
  have hne : v.ownBlock ≠ some b := row_ne (h.row.alloc o) e1 (by decide)
  have e2 : w2.heap[b]? = some (.cells #[.int .i64 n, v] 93 (0, 0)) := (hgrow.block b (by rw [World.size_alloc]; have := h.lt; omega) (fun e => hne e.symm)).trans e1
  have hne' : v'.ownBlock ≠ some b := row_ne hown e2 (by decide)
  have hblk : (w2.setCell ⟨b, 1, none⟩ v').heap[b]? = some (.cells #[.int .i64 n, v'] 93 (0, 0)) := by
    obtain ⟨hlt, hk⟩ := Array.getElem?_eq_some_iff.1 e2
    show (w2.heap.modify b _)[b]? = _
    rw [Array.getElem?_eq_getElem (by rw [Array.size_modify]; exact hlt), Array.getElem_modify_self, hk]
    rfl
  refine ⟨e2, ⟨hblk, ?_⟩, ?_, ?_⟩
  · rw [pv_snoc, List.length_append]
    refine hown.kept (row := some b) ?_ (.inr hne')
    exact (World.grownBy.refl w2 (some b)).trans_set v' 1
  · have hb0 : Below base w w1 := hb1.mono (by omega)
    exact (own_grown hb0 (by have := hb1.size; omega) h.row hgrow).setCell (p := ⟨b, 1, none⟩) hbase v'
  · intro k cs t hk ht hkb
    have hlt : k < w.heap.size := (Array.getElem?_eq_some_iff.1 hk).1
    have k1 : w1.heap[k]? = some (.cells cs t (0, 0)) := (hb1.block k hlt).trans hk
    have hlt1 : k < w1.heap.size := (Array.getElem?_eq_some_iff.1 k1).1
    have k2 : (w1.alloc o).heap[k]? = some (.cells cs t (0, 0)) := (Below.heap_alloc w1 o k hlt1).trans k1
    have hn : v.ownBlock ≠ some k := row_ne (h.row.alloc o) k2 ht
    rw [hk, Below.heap_setCell w2 ⟨b, 1, none⟩ v' k hkb]
    exact (hgrow.block k (by rw [World.size_alloc]; omega) (fun e => hn e.symm)).trans k2

theorem refAdd_range (b n : Nat) (x y : Int) (w : World) (hm : w.cell? ⟨b, 0, none⟩ = some (.int .i64 n)) (ho : ¬ (0 ≤ x ∧ x < n) ∨ ¬ (0 ≤ y ∧ y < n)) :
    Calls Tryd.prog 35 #[.pointer (some ⟨b, 0, none⟩), .int .i64 x, .int .i64 y] w fun e w' => e = .returned (.int .i64 9) ∧ w = w' := by
  by_cases hx : 0 ≤ x ∧ x < n
  · have hy : ¬ (0 ≤ y ∧ y < n) := by rcases ho with ho | ho; exact absurd hx ho; exact ho
    obtain ⟨k, rfl⟩ : ∃ k : Nat, x = k := ⟨x.toNat, by omega⟩
    have hk : k < n := by omega
    clear hx ho
    go_enter Tryd.func35, Tryd.ntmps35
    go_wp2_with fail
    refine (refIs_yes b n _ _ hm hk).mono ?_
    rintro e w' ⟨rfl, rfl⟩
    go_wp2_with fail
    refine (refIs_no b n _ _ hm hy).mono ?_
    rintro e w' ⟨rfl, rfl⟩
    go_wp2_with fail
    go_ret
    exact ⟨rfl, rfl⟩
  · go_enter Tryd.func35, Tryd.ntmps35
    go_wp2_with fail
    refine (refIs_no b n _ _ hm hx).mono ?_
    rintro e w' ⟨rfl, rfl⟩
    go_wp2_with fail
    go_ret
    exact ⟨rfl, rfl⟩
theorem refAdd_cycle (base b n : Nat) (v : Value) (L : List (Nat × Nat)) (x y : Nat) (w : World) (h : Ref w base b n v L) (f : Fine n L) (hx : x < n) (hy : y < n) (hl : le (ofL L) y x = true) :
    Calls Tryd.prog 35 #[.pointer (some ⟨b, 0, none⟩), .int .i64 x, .int .i64 y] w fun e w' => e = .returned (.int .i64 20) ∧ Below w.heap.size w w' := by
  have hm := h.many
  have HL := Lib.hid hl
  clear hl
  go_enter Tryd.func35, Tryd.ntmps35
  go_wp2_with fail
  refine (refIs_yes b n _ _ hm hx).mono ?_
  rintro e w' ⟨rfl, rfl⟩
  go_wp2_with fail
  refine (refIs_yes b n _ _ hm hy).mono ?_
  rintro e w' ⟨rfl, rfl⟩
  go_wp2_with fail
  refine (refAtMost_any base b n v L y x w h f hy hx).mono ?_
  rw [HL.out]
  rintro e w1 ⟨rfl, hb1⟩
  go_wp2_with fail
  go_ret
  exact ⟨rfl, hb1⟩
/-- What Add leaves of a pair that is taken. -/
def RefAddPost (base b n : Nat) (L : List (Nat × Nat)) (w : World) (e : Ending) (w' : World) : Prop := e = .returned (.int .i64 0) ∧ (∃ v', Ref w' base b n v' L) ∧ Turned w w' base b
set_option maxHeartbeats 1000000 in
theorem refAdd_ok (base b n : Nat) (v : Value) (L : List (Nat × Nat)) (x y : Nat) (w : World) (h : Ref w base b n v L) (f : Fine n L) (hbase : base ≤ b) (hx : x < n) (hy : y < n) (hl : le (ofL L) y x = false) :
    Calls Tryd.prog 35 #[.pointer (some ⟨b, 0, none⟩), .int .i64 x, .int .i64 y] w (RefAddPost base b n (L ++ [(x, y)]) w) := by
  obtain ⟨i0, hi, hz0, hz1, hz2⟩ := info_parts info31
  have hm := h.many
  have hlt := h.lt
  have hll := f.len
  have HL := Lib.hid hl
  clear hl
  go_enter Tryd.func35, Tryd.ntmps35
  go_wp2_with fail
  refine (refIs_yes b n _ _ hm hx).mono ?_
  rintro e w' ⟨rfl, rfl⟩
  go_wp2_with fail
  refine (refIs_yes b n _ _ hm hy).mono ?_
  rintro e w' ⟨rfl, rfl⟩
  go_wp2_with fail
  refine (refAtMost_any base b n v L y x w h f hy hx).mono ?_
  rw [HL.out]
  rintro e w1 ⟨rfl, hb1⟩
  have h1 := h.below hb1
  have hs1 := h1.said
  have hsz : base ≤ w1.heap.size := by have := h1.lt; omega
  have HH := Lib.hid h1
  clear h h1
  go_wp2_with (at_builtin; refine wpList_append_own _ rfl _ _ 23 rfl base 41 i0 (.agg #[.int .i64 0, .int .i64 0]) 2 16 Tryd.underlying23 hi hz0 hz1 hz2 rfl (by decide) _ _ _ rfl (HH.out.row.alloc _) ⟨w1.heap.size, 0, none⟩ 1 1 [.int .i64 x, .int .i64 y] rfl rfl (World.news_of_block (heap_alloc_new w1 _)) (by simp [Value.oneCell']) (by unfold maxLen; omega) (by omega) (by simp; omega) ?_; intro v' w2 hown' hgrow _; obtain ⟨g', cap', rfl⟩ := ownsRow_succ hown'; obtain ⟨k1, k2, k3⟩ := ref_added HH.out hb1 hbase hlt hown' hgrow; have k4 : w2.cell? ⟨b, 1, none⟩ = some v := (by simp [World.cell?, k1]); have k5 : w2.frozen? ⟨b, 1, none⟩ = false := (by simp [World.frozen?, k1]); have K1 := Lib.hid k1; have K2 := Lib.hid k2; have K3 := Lib.hid k3; clear k1 k2 k3)
  go_ret
  exact ⟨rfl, ⟨_, K2.out⟩, K3.out⟩
end Go.Proofs.YtaikhdmgcffflaaDoor
