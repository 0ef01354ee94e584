/- Walks of the chapter's own order: New, Is, AtMost, Add, below, covers. -/
import Derived.Test.YtaikhdmgcffflaaDoorWg
import Derived.Test.YtaikhdmgcffflaaDoorPg
import Derived.Deep.LoopGhost
import Derived.Outline
namespace Go.Proofs.YtaikhdmgcffflaaDoor
open Go Go.RowKit Go.Shelf

/-- Block b is the chapter's order: how many, and what was said. -/
structure Ref (w : World) (base b n : Nat) (v : Value) (L : List (Nat × Nat)) : Prop where
  blk : w.heap[b]? = some (.cells #[.int .i64 n, v] 93 (0, 0))
  row : w.ownsRow base 41 2 v L.length (pv L)
theorem Ref.lt {w : World} {base b n : Nat} {v : Value} {L : List (Nat × Nat)} (h : Ref w base b n v L) : b < w.heap.size := (Array.getElem?_eq_some_iff.1 h.blk).1
theorem Ref.many {w : World} {base b n : Nat} {v : Value} {L : List (Nat × Nat)} (h : Ref w base b n v L) : w.cell? ⟨b, 0, none⟩ = some (.int .i64 n) := by
  simp [World.cell?, h.blk]
theorem Ref.said {w : World} {base b n : Nat} {v : Value} {L : List (Nat × Nat)} (h : Ref w base b n v L) : w.cell? ⟨b, 1, none⟩ = some v := by
  simp [World.cell?, h.blk]
theorem Ref.below {w w' : World} {base b n : Nat} {v : Value} {L : List (Nat × Nat)} (h : Ref w base b n v L) (hb : Below w.heap.size w w') : Ref w' base b n v L :=
  ⟨(hb.block b h.lt).trans h.blk, h.row.kept (grownBy_below hb none) (Classical.em _)⟩

theorem refNew_any (n : Nat) (h0 : 1 ≤ n) (h1 : n ≤ 16) (w : World) : Calls Tryd.prog 33 #[.int .i64 n] w fun e w' => e = .returned (.tuple #[.pointer (some ⟨w.heap.size, 0, none⟩), .int .i64 0]) ∧ w' = w.alloc (.cells #[.int .i64 n, .slice none 0 0] 93) := by
  go_enter Tryd.func33, Tryd.ntmps33
  go_wp2
  go_ret2
  exact ⟨rfl, rfl⟩
theorem refNew_no (n : Int) (h : n < 1 ∨ 16 < n) (w : World) : Calls Tryd.prog 33 #[.int .i64 n] w fun e w' => e = .returned (.tuple #[.pointer none, .int .i64 2]) ∧ w = w' := by
  rcases h with h | h
  · go_enter Tryd.func33, Tryd.ntmps33
    go_wp2
    go_ret2
    exact ⟨rfl, rfl⟩
  · have h' : ¬ n < 1 := by omega
    go_enter Tryd.func33, Tryd.ntmps33
    go_wp2
    go_ret2
    exact ⟨rfl, rfl⟩
theorem refNew_ref (w : World) (n : Nat) {base : Nat} : Ref (w.alloc (.cells #[.int .i64 n, .slice none 0 0] 93)) base w.heap.size n (.slice none 0 0) [] :=
  ⟨World.alloc_heap_new w _, World.ownsRow_nil _ _ _ _⟩

theorem refIs_any (b n : Nat) (a : Int) (w : World) (h : w.cell? ⟨b, 0, none⟩ = some (.int .i64 n)) : Calls Tryd.prog 34 #[.pointer (some ⟨b, 0, none⟩), .int .i64 a] w fun e w' => e = .returned (.bool (decide (0 ≤ a ∧ a < n))) ∧ w = w' := by
  by_cases h0 : 0 ≤ a
  · by_cases h1 : a < n
    · have H : decide (0 ≤ a ∧ a < n) = true := by simp [h0, h1]
      rw [H]; clear H
      go_enter Tryd.func34, Tryd.ntmps34
      go_wp2
      go_ret
      exact ⟨rfl, rfl⟩
    · have H : decide (0 ≤ a ∧ a < n) = false := by simp [h1]
      rw [H]; clear H
      go_enter Tryd.func34, Tryd.ntmps34
      go_wp2
      go_ret
      exact ⟨rfl, rfl⟩
  · have H : decide (0 ≤ a ∧ a < n) = false := by simp [h0]
    rw [H]; clear H
    go_enter Tryd.func34, Tryd.ntmps34
    go_wp2
    go_ret
    exact ⟨rfl, rfl⟩
theorem refIs_yes (b n a : Nat) (w : World) (h : w.cell? ⟨b, 0, none⟩ = some (.int .i64 n)) (ha : a < n) : Calls Tryd.prog 34 #[.pointer (some ⟨b, 0, none⟩), .int .i64 a] w fun e w' => e = .returned (.bool true) ∧ w = w' :=
  (refIs_any b n a w h).mono fun _ _ ⟨he, hw⟩ => ⟨he.trans (ret_bool (by simp; omega)), hw⟩
theorem refIs_no (b n : Nat) (a : Int) (w : World) (h : w.cell? ⟨b, 0, none⟩ = some (.int .i64 n)) (ha : ¬ (0 ≤ a ∧ a < n)) : Calls Tryd.prog 34 #[.pointer (some ⟨b, 0, none⟩), .int .i64 a] w fun e w' => e = .returned (.bool false) ∧ w = w' :=
  (refIs_any b n a w h).mono fun _ _ ⟨he, hw⟩ => ⟨he.trans (ret_bool (by simpa using ha)), hw⟩

/-- Sixteen marks, in a block of their own. -/
def Had (w : World) (H F : Nat) : Prop := w.heap[H]? = some (.cells ((List.range 16).map fun i => Value.bool (F.testBit i)).toArray 120 (0, 0))
theorem Had.lt {w : World} {H F : Nat} (h : Had w H F) : H < w.heap.size := (Array.getElem?_eq_some_iff.1 h).1
theorem Had.cell {w : World} {H F : Nat} (h : Had w H F) {i : Nat} (hi : i < 16) : w.cell? ⟨H, i, none⟩ = some (.bool (F.testBit i)) := by
  simp [World.cell?, show w.heap[H]? = _ from h, hi]
theorem Had.free {w : World} {H F : Nat} (h : Had w H F) (i : Nat) : w.frozen? ⟨H, i, none⟩ = false := by
  simp [World.frozen?, show w.heap[H]? = _ from h]
theorem Had.set {w : World} {H F : Nat} (h : Had w H F) (i : Nat) : Had (w.setCell ⟨H, i, none⟩ (.bool true)) H (F ||| 2 ^ i) := by
  obtain ⟨hlt, hk⟩ := Array.getElem?_eq_some_iff.1 h
  show (w.heap.modify H _)[H]? = _
  rw [Array.getElem?_eq_getElem (by rw [Array.size_modify]; exact hlt), Array.getElem_modify_self, hk]
  congr 1
  simp only [Option.isSome_none, Bool.false_eq_true, if_false]
  congr 1
  apply Array.ext
  · simp
  · intro j h1 h2
    simp only [List.setIfInBounds_toArray, List.getElem_toArray, List.getElem_set, List.getElem_map, List.getElem_range]
    rw [tb_or_pow]
    by_cases e : i = j
    · simp [e]
    · simp [e]
theorem Had.new (w : World) (t : Array Value) (ht : t = ((List.range 16).map fun i => Value.bool ((0 : Nat).testBit i)).toArray) : Had (w.alloc (.cells t 120)) w.heap.size 0 := by
  subst ht; exact World.alloc_heap_new w _

theorem refAtMost_no (b n : Nat) (x y : Int) (w : World) (h : w.cell? ⟨b, 0, none⟩ = some (.int .i64 n)) (ho : ¬ (0 ≤ x ∧ x < n) ∨ ¬ (0 ≤ y ∧ y < n)) :
    Calls Tryd.prog 58 #[.pointer (some ⟨b, 0, none⟩), .int .i64 x, .int .i64 y] w fun e w' => e = .returned (.bool false) ∧ w = w' := by
  by_cases hx : 0 ≤ x ∧ x < n
  · have hy : ¬ (0 ≤ y ∧ y < n) := by rcases ho with ho | ho; exact absurd hx ho; exact ho
    obtain ⟨k, rfl⟩ : ∃ k : Nat, x = k := ⟨x.toNat, by omega⟩
    have hk : k < n := by omega
    clear hx ho
    go_enter Tryd.func58, Tryd.ntmps58
    go_wp2_with fail
    refine (refIs_yes b n _ _ h hk).mono ?_
    rintro e w' ⟨rfl, rfl⟩
    go_wp2_with fail
    refine (refIs_no b n _ _ h hy).mono ?_
    rintro e w' ⟨rfl, rfl⟩
    go_wp2_with fail
    go_ret
    exact ⟨rfl, rfl⟩
  · go_enter Tryd.func58, Tryd.ntmps58
    go_wp2_with fail
    refine (refIs_no b n _ _ h hx).mono ?_
    rintro e w' ⟨rfl, rfl⟩
    go_wp2_with fail
    go_ret
    exact ⟨rfl, rfl⟩

theorem zeros_at {x : Nat} (hx : x < 16) : [Value.bool false, Value.bool false, Value.bool false, Value.bool false, Value.bool false, Value.bool false, Value.bool false, Value.bool false, Value.bool false, Value.bool false, Value.bool false, Value.bool false, Value.bool false, Value.bool false, Value.bool false, Value.bool false][x]? = some (.bool false) := by
  have : ∀ i : Fin 16, [Value.bool false, Value.bool false, Value.bool false, Value.bool false, Value.bool false, Value.bool false, Value.bool false, Value.bool false, Value.bool false, Value.bool false, Value.bool false, Value.bool false, Value.bool false, Value.bool false, Value.bool false, Value.bool false][i.1]? = some (.bool false) := by
    intro i
    have h : i.1 < (List.replicate 16 (Value.bool false)).length := by simp
    show (List.replicate 16 (Value.bool false))[i.1]? = _
    rw [List.getElem?_eq_getElem h, List.getElem_replicate]
  exact this ⟨x, hx⟩
theorem had_one (w : World) {x : Nat} : Had (w.alloc (.cells ([Value.bool false, Value.bool false, Value.bool false, Value.bool false, Value.bool false, Value.bool false, Value.bool false, Value.bool false, Value.bool false, Value.bool false, Value.bool false, Value.bool false, Value.bool false, Value.bool false, Value.bool false, Value.bool false].set x (.bool true)).toArray 120)) w.heap.size (2 ^ x) := by
  refine (World.alloc_heap_new w _).trans ?_
  congr 3
  show (List.replicate 16 (Value.bool false)).set x (.bool true) = _
  apply List.ext_getElem
  · simp
  · intro i h1 h2
    rw [List.getElem_set, List.getElem_replicate, List.getElem_map, List.getElem_range, Nat.testBit_two_pow]
    split
    · rename_i e; simp [e]
    · rename_i e; simp [e]
theorem Rd.pairN {w : World} {A : Option Addr} {L : List (Nat × Nat)} (h : Rd w A (pv L)) (i : Nat) (hi : i < L.length) : ∃ p q b off, L[i] = (p, q) ∧ A = some ⟨b, off, none⟩ ∧ b < w.heap.size ∧
    w.cell? ⟨b, off + i * 2, none⟩ = some (.int .i64 p) ∧ w.cell? ⟨b, off + i * 2 + 1, none⟩ = some (.int .i64 q) := by
  obtain ⟨b, off, e, hl, h1, h2⟩ := Rd.pair (L := L.map up2) h i (by rw [List.length_map]; exact hi)
  refine ⟨L[i].1, L[i].2, b, off, rfl, e, hl, h1.trans ?_, h2.trans ?_⟩
  · rw [List.getElem_map]; rfl
  · rw [List.getElem_map]; rfl

set_option maxHeartbeats 1000000 in
theorem refAtMost_yes (base b n : Nat) (v : Value) (L : List (Nat × Nat)) (x y : Nat) (w : World) (h : Ref w base b n v L) (h1 : 1 ≤ n) (hn : n ≤ 16) (hL : ∀ p ∈ L, p.1 < n ∧ p.2 < n) (hll : L.length ≤ 1000) (hx : x < n) (hy : y < n) :
    Calls Tryd.prog 58 #[.pointer (some ⟨b, 0, none⟩), .int .i64 x, .int .i64 y] w fun e w' => e = .returned (.bool (le (ofL L) x y)) ∧ Below w.heap.size w w' := by
  obtain ⟨A, c, rfl, hrd⟩ := Rd.own h.row
  have hlt := h.lt
  have hm := h.many
  have hs := h.said
  have HRD := Lib.hid hrd
  have HH := Lib.hid h
  clear hrd h
  go_enter Tryd.func58, Tryd.ntmps58
  go_wp2_with fail
  refine (refIs_yes b n _ _ hm hx).mono ?_
  rintro e w' ⟨rfl, rfl⟩
  go_wp2_with fail
  refine (refIs_yes b n _ _ hm hy).mono ?_
  rintro e w' ⟨rfl, rfl⟩
  have hx1 : (0 : Int) ≤ x := by omega
  have hx2 : (x : Int) < 16 := by omega
  have hz := zeros_at (x := x) (by omega)
  go_wp2_with fail
  have hh0 := had_one w (x := x)
  have hb0 := below_new w (.cells ([Value.bool false, Value.bool false, Value.bool false, Value.bool false, Value.bool false, Value.bool false, Value.bool false, Value.bool false, Value.bool false, Value.bool false, Value.bool false, Value.bool false, Value.bool false, Value.bool false, Value.bool false, Value.bool false].set x (.bool true)).toArray 120)
  clear hz
  generalize w.alloc (.cells ([Value.bool false, Value.bool false, Value.bool false, Value.bool false, Value.bool false, Value.bool false, Value.bool false, Value.bool false, Value.bool false, Value.bool false, Value.bool false, Value.bool false, Value.bool false, Value.bool false, Value.bool false, Value.bool false].set x (.bool true)).toArray 120) = w0 at *
  go_loopw [8] (fun i wr => ∃ k : Nat, k ≤ n ∧ i = .int .i64 k ∧ Had wr w.heap.size (swN L k (2 ^ x)) ∧ Below w.heap.size w wr) (fun i _ => n - (intOf i).toNat)
  case atStart => exact ⟨0, Nat.zero_le _, rfl, hh0, hb0⟩
  case round =>
    obtain ⟨k, hk, rfl, hH, hB⟩ := hrel
    obtain ⟨wo, rfl⟩ : ∃ wo : World, wo = wr := ⟨_, rfl⟩
    have hm' := (hB.cell (p := ⟨b, 0, none⟩) hlt).trans hm
    have hs' := (hB.cell (p := ⟨b, 1, none⟩) hlt).trans hs
    by_cases hkn : k < n
    · go_wp2_with fail
      go_loopw [9] (fun i wr => ∃ j : Nat, j ≤ L.length ∧ i = .int .i64 j ∧ Had wr w.heap.size (swL (L.take j) (swN L k (2 ^ x))) ∧ Below w.heap.size w wr) (fun i _ => L.length - (intOf i).toNat)
      case atStart => exact ⟨0, Nat.zero_le _, rfl, hH, hB⟩
      case round =>
        obtain ⟨j, hj, rfl, hHi, hBi⟩ := hrel
        have hm2 := (hBi.cell (p := ⟨b, 0, none⟩) hlt).trans hm
        have hs2 := (hBi.cell (p := ⟨b, 1, none⟩) hlt).trans hs
        clear hm' hs' hm hs
        by_cases hjl : j < L.length
        · obtain ⟨p, q, bb, off, hpq, rfl, hbb, e1, e2⟩ := HRD.out.pairN j hjl
          have hmem := hL _ (List.getElem_mem hjl)
          rw [hpq] at hmem
          obtain ⟨hp, hq⟩ := hmem
          dsimp only at hp hq
          have HS := Lib.hid (swL_take_succ L (swN L k (2 ^ x)) j hjl)
          have HPQ := Lib.hid hpq
          clear hpq
          have e1' := (hBi.cell (p := ⟨bb, off + j * 2, none⟩) hbb).trans e1
          have e2' := (hBi.cell (p := ⟨bb, off + j * 2 + 1, none⟩) hbb).trans e2
          clear e1 e2
          have hc1 := hHi.cell (i := p) (by omega)
          have hc2 := hHi.cell (i := q) (by omega)
          have hf2 := hHi.free q
          have i1 : (0 : Int) ≤ p := by omega
          have i2 : (p : Int) < 16 := by omega
          have i3 : (0 : Int) ≤ q := by omega
          have i4 : (q : Int) < 16 := by omega
          have i5 : (0 : Int) ≤ j := by omega
          have i6 : (j : Int) < L.length := by omega
          have HHi := Lib.hid hHi
          clear hHi
          cases ht : (swL (L.take j) (swN L k (2 ^ x))).testBit p with
          | true =>
            rw [ht] at hc1
            have HT := Lib.hid ht
            clear ht
            go_wp2_with fail
            go_roundw
            case rel =>
              refine ⟨j + 1, by omega, by go_num, ?_, hBi.setCell (Nat.le_refl _) _⟩
              rw [HS.out, HPQ.out]
              unfold sw
              rw [if_pos HT.out]
              exact HHi.out.set q
            case measure => simp [intOf]; omega
          | false =>
            rw [ht] at hc1
            have HT := Lib.hid ht
            clear ht
            go_wp2_with fail
            go_roundw
            case rel =>
              refine ⟨j + 1, by omega, by go_num, ?_, hBi⟩
              rw [HS.out, HPQ.out]
              unfold sw
              rw [if_neg (by rw [HT.out]; simp)]
              exact HHi.out
            case measure => simp [intOf]; omega
        · obtain rfl : j = L.length := by omega
          rw [List.take_length] at hHi
          have HHi := Lib.hid hHi
          clear hHi
          go_wp2_with fail
          go_roundw
          case rel => exact ⟨k + 1, by omega, by go_num, HHi.out, hBi⟩
          case measure => simp [intOf]; omega
    · obtain rfl : k = n := by omega
      have hc := hH.cell (i := y) (by omega)
      have i1 : (0 : Int) ≤ y := by omega
      have i2 : (y : Int) < 16 := by omega
      rw [swN_le h1 hn hL hx hy] at hc
      go_wp2_with fail
      go_ret
      exact ⟨rfl, hB⟩
end Go.Proofs.YtaikhdmgcffflaaDoor
