/- The chapter's Parse: its head. -/
import Derived.Test.YtiakbmllpnabnaaGreatDoorLa
namespace Go.Proofs.YtiakbmllpnabnaaGreatDoor
open Go Go.RowKit

theorem le_any {st : Cu} {n k : Nat} (h : ∀ R, st = some R → n = R.length) : muC st (decide ((n : Int) ≤ (k : Int))) = muC st (decide (lenC st ≤ k)) := by
  cases st with
  | none => cases decide ((n : Int) ≤ (k : Int)) <;> cases decide (lenC none ≤ k) <;> rfl
  | some R =>
    rw [h R rfl]
    congr 1
    rw [Bool.eq_iff_iff, decide_eq_true_iff, decide_eq_true_iff]
    show _ ↔ R.length ≤ k
    omega
theorem l_mustN {w wr : World} {st : Cu} {l : List Value} (h : Lst w wr st l) (v k : Nat) :
    Calls Tryz.prog 30 #[.pointer (some ⟨w.heap.size + 2, 0, none⟩), .bool ((v : Int) == (k : Int))] wr fun e w' => e = .returned (.tuple #[]) ∧ LP w wr (muC st (decide (v = k))) l w' := by
  have := l_must h ((v : Int) == (k : Int))
  rw [mu_num] at this
  exact this
def gz (mi : Int) : List Value := gCells mi (List.replicate 32 0) nilS nilS nilS noStr (.int .i64 0) nilS
theorem lst_new {w : World} {A : Option Addr} {c : Nat} {b : List UInt8} (h : Rb w.heap.size w A c b) (hl : b.length ≤ 1000000) :
    Lst w (((w.alloc (.cells (gArr 0) 28)).alloc (.cells (gArr 0) 28)).alloc (.cells #[.slice A b.length c, .bool false] 68)) (some b) (gz 0) := by
  have s1 : (w.alloc (.cells (gArr 0) 28)).heap.size = w.heap.size + 1 := by simp
  have s2 : ((w.alloc (.cells (gArr 0) 28)).alloc (.cells (gArr 0) 28)).heap.size = w.heap.size + 2 := by simp
  have b1 := below_new w (.cells (gArr 0) 28)
  have b2 := below_new (w.alloc (.cells (gArr 0) 28)) (.cells (gArr 0) 28)
  have b3 := below_new ((w.alloc (.cells (gArr 0) 28)).alloc (.cells (gArr 0) 28)) (.cells #[.slice A b.length c, .bool false] 68)
  have hq : (((w.alloc (.cells (gArr 0) 28)).alloc (.cells (gArr 0) 28)).alloc (.cells #[.slice A b.length c, .bool false] 68)).heap[w.heap.size + 1]? = some (.cells (gArr 0) 28 (0, 0)) := (b3.block _ (by omega)).trans (by rw [← s1]; exact heap_alloc_new _ _)
  have hB : Below w.heap.size w ((w.alloc (.cells (gArr 0) 28)).alloc (.cells (gArr 0) 28)) := b1.trans (b2.mono (by omega))
  have hc := cs_alloc ((w.alloc (.cells (gArr 0) 28)).alloc (.cells (gArr 0) 28)) #[.slice A b.length c, .bool false] 68
  rw [s2] at hc
  refine ⟨hB.trans (b3.mono (by omega)), (b3.block _ (by omega)).trans ((b2.block _ (by omega)).trans (heap_alloc_new w _)), ⟨gArr 0, hq, rfl⟩, cs_row hq, A, b.length, c, hc, by omega, fun B e => ?_⟩
  obtain rfl := Option.some.inj e
  exact ⟨rfl, h.keep fun k hk => (b3.block k (by omega)).trans (hB.block k hk), hl⟩
theorem gCells_rnd (mi : Int) (rnd : List UInt8) (s u m h p x : Value) (i : Nat) (y : UInt8) (hi : i < rnd.length) : (gCells mi rnd s u m h p x).set (1 + i) (.int .u8 (y.toNat : Int)) = gCells mi (rnd.set i y) s u m h p x := by
  unfold gCells
  rw [Nat.add_comm 1 i, List.set_append_left _ _ (by simp; omega), List.set_cons_succ, List.map_set]
def padI (R : List UInt8) (i : Nat) : List UInt8 := R.take i ++ List.replicate (32 - i) 0
theorem padI_len {R : List UInt8} {i : Nat} (hi : i ≤ R.length) (hR : R.length ≤ 32) : (padI R i).length = 32 := by
  unfold padI
  rw [List.length_append, List.length_take, List.length_replicate]
  omega
theorem padI_set {R : List UInt8} {i : Nat} (hi : i < R.length) (hR : R.length ≤ 32) : (padI R i).set i R[i] = padI R (i + 1) := by
  unfold padI
  rw [List.set_append_right _ _ (by rw [List.length_take]; omega), List.length_take, show i - min i R.length = 0 by omega, show 32 - i = (32 - (i + 1)) + 1 by omega, List.replicate_succ, List.set_cons_zero, List.take_succ_eq_append_getElem hi, List.append_assoc]
  rfl
theorem padI_all (R : List UInt8) : padI R R.length = pad32 R := by unfold padI pad32; rw [List.take_length]
theorem flV_small (st : Cu) : (flV st 2).length ≤ 1000000 := by
  have h1 := tkV_len (tkC st 2) (nmV st 2)
  have h2 := be_lt (tkV st 2)
  have h3 : (256 : Nat) ^ (tkV st 2).length ≤ 256 ^ 2 := Nat.pow_le_pow_right (by decide) (tkV_len st 2)
  have h4 : (flV st 2).length ≤ nmV st 2 := h1
  have h5 : nmV st 2 < 256 ^ (tkV st 2).length := h2
  omega
theorem suitesL_step : ∀ (j : Nat) (l : List UInt8) (h : 2 * j + 1 < l.length), suitesL (l.take (2 * (j + 1))) = suitesL (l.take (2 * j)) ++ [(((l[2 * j]'(by omega)).toNat * 256 + (l[2 * j + 1]).toNat : Nat) : Int)]
  | 0, a :: b :: r, _ => by simp [suitesL]
  | j + 1, a :: b :: r, h => by
    have h' : 2 * j + 1 < r.length := by simp at h; omega
    have := suitesL_step j r h'
    have e1 : (a :: b :: r).take (2 * (j + 1 + 1)) = a :: b :: r.take (2 * (j + 1)) := by rw [show 2 * (j + 1 + 1) = 2 * (j + 1) + 1 + 1 by omega]; rfl
    have e2 : (a :: b :: r).take (2 * (j + 1)) = a :: b :: r.take (2 * j) := by rw [show 2 * (j + 1) = 2 * j + 1 + 1 by omega]; rfl
    rw [e1, e2, suitesL, suitesL, this]
    rfl
  | _, [], h => absurd h (Nat.not_lt_zero _)
  | _, [_], h => by simp at h
theorem suitesL_end : ∀ (j : Nat) (l : List UInt8), 2 * j ≤ l.length → ¬ 2 * j + 1 < l.length → suitesL (l.take (2 * j)) = suitesL l
  | 0, [], _, _ => rfl
  | 0, [a], _, _ => rfl
  | 0, a :: b :: r, _, h => by simp at h
  | j + 1, a :: b :: r, h, h2 => by
    have e2 : (a :: b :: r).take (2 * (j + 1)) = a :: b :: r.take (2 * j) := by rw [show 2 * (j + 1) = 2 * j + 1 + 1 by omega]; rfl
    rw [e2, suitesL, suitesL, suitesL_end j r (by simp at h; omega) (by simp at h2; omega)]
  | j + 1, [], h, _ => by simp at h
  | j + 1, [_], h, _ => by simp at h; omega
theorem suitesT_len (j : Nat) (l : List UInt8) (h : 2 * j ≤ l.length) : (suitesL (l.take (2 * j))).length = j := by
  induction j with
  | zero => simp [suitesL]
  | succ j ih => rw [suitesL_step j l (by omega), List.length_append, ih (by omega)]; rfl
/-- how far the suites are -/
structure Lsu (w wr : World) (base : Nat) (st : Cu) (mi : Int) (R ses sb : List UInt8) (As : Option Addr) (ks : Nat) (Ab : Option Addr) (kb j : Nat) (Au : Option Addr) (cu : Nat) : Prop where
  l : Lst w wr st (gCells mi R (.slice As ses.length ks) (.slice Au j cu) nilS noStr (.int .i64 0) nilS)
  r : RowV 1 wr base Au j cu (intV (suitesL (sb.take (2 * j))))
  s : RowG wr (w.heap.size + 3) As ks ses
  b : RowG wr (w.heap.size + 3) Ab kb sb
  lo : w.heap.size + 3 ≤ base
  sz : base ≤ wr.heap.size
  ga : ∀ g, As = some ⟨g, 0, none⟩ → g < base
  gb : ∀ g, Ab = some ⟨g, 0, none⟩ → g < base
theorem lsu_push {w wr w5 : World} {base : Nat} {st : Cu} {mi z : Int} {R ses sb : List UInt8} {As Ab Au A5 : Option Addr} {ks kb j cu c5 : Nat} (h : Lsu w wr base st mi R ses sb As ks Ab kb j Au cu) (hR : R.length = 32) (_ : 2 * j + 1 < sb.length)
    (hz : suitesL (sb.take (2 * (j + 1))) = suitesL (sb.take (2 * j)) ++ [z]) (hb : Below base (wr.drew.alloc (.cells #[.int .i64 z] 3)) w5) (hr : RowV 1 w5 base A5 (j + 1) c5 (intV (suitesL (sb.take (2 * j))) ++ [.int .i64 z])) :
    Lsu w (w5.setCell ⟨w.heap.size + 1, 34, none⟩ (.slice A5 (j + 1) c5)) base st mi R ses sb As ks Ab kb (j + 1) A5 c5 := by
  have hn := below_new wr.drew (.cells #[.int .i64 z] 3)
  have hb0 : Below wr.heap.size wr (wr.drew.alloc (.cells #[.int .i64 z] 3)) := (below_drewN (Below.refl _ _) 1).trans hn
  have hbb : Below base wr w5 := (hb0.mono h.sz).trans hb
  have hlo := h.lo
  have hq : ∀ k, k ≠ w.heap.size + 1 → (w5.setCell ⟨w.heap.size + 1, 34, none⟩ (.slice A5 (j + 1) c5)).heap[k]? = w5.heap[k]? := fun k hk => Below.heap_setCell _ _ _ _ hk
  have hL : Lst w w5 st (gCells mi R (.slice As ses.length ks) (.slice Au j cu) nilS noStr (.int .i64 0) nilS) := h.l.lowB hbb hlo
  have hset := hL.set 34 (by rw [gCells_len _ _ _ _ _ _ _ _ hR]; decide) (.slice A5 (j + 1) c5)
  rw [(gCells_set mi R (.slice As ses.length ks) (.slice Au j cu) nilS noStr (.int .i64 0) nilS (.slice A5 (j + 1) c5) hR).2.1] at hset
  refine ⟨hset, ?_, (h.s.keep hbb.size fun g e => hbb.block g (h.ga g e)).set (by omega), (h.b.keep hbb.size fun g e => hbb.block g (h.gb g e)).set (by omega), hlo, by simp only [World.setCell, Array.size_modify]; exact Nat.le_trans h.sz hbb.size, h.ga, h.gb⟩
  rw [hz]
  have e : intV (suitesL (sb.take (2 * j)) ++ [z]) = intV (suitesL (sb.take (2 * j))) ++ [.int .i64 z] := by unfold intV; rw [List.map_append]; rfl
  rw [e]
  exact hr.set (by omega)
theorem cell_far0 (w : World) (g j : Nat) (v : Value) (q : Addr) (hq : q.block ≠ g) : (w.setCell ⟨g, j, none⟩ v).cell? q = w.cell? q := by
  unfold World.cell?
  rw [show (w.setCell ⟨g, j, none⟩ v).heap[q.block]? = w.heap[q.block]? from Below.heap_setCell _ _ _ _ hq]
theorem lsu_r {w wr : World} {base : Nat} {st : Cu} {mi : Int} {R ses sb : List UInt8} {As Ab Au : Option Addr} {ks kb j cu : Nat} (h : Lsu w wr base st mi R ses sb As ks Ab kb j Au cu) (z : Int) :
    RowV 1 (wr.drew.alloc (.cells #[.int .i64 z] 3)) base Au j cu (intV (suitesL (sb.take (2 * j)))) ∧ Src Tryz.prog 1 25 (.slice (some ⟨wr.drew.heap.size, 0, none⟩) 1 1) 1 [.int .i64 z] (wr.drew.alloc (.cells #[.int .i64 z] 3)) ∧ base ≤ (wr.drew.alloc (.cells #[.int .i64 z] 3)).heap.size := by
  have hn := below_new wr.drew (.cells #[.int .i64 z] 3)
  refine ⟨(h.r.below (below_drewN (Below.refl _ _) 1)).below hn, src_one Tryz.underlying25 wr.drew.heap.size [.int .i64 z] rfl (fun j hj => ?_) (fun v hv => by rw [List.mem_singleton.1 hv]; rfl), Nat.le_trans h.sz hn.size⟩
  obtain rfl : j = 0 := by simpa using hj
  rw [World.cell?_alloc_at _ _ _ _ rfl]; rfl
/-- what the chapter's Parse tells -/
def PrsR (b : List UInt8) (w : World) (e : Ending) (w' : World) : Prop :=
  (parseG b = none → e = .returned (.tuple #[.agg (gArr 0), .int .i64 70]) ∧ Below w.heap.size w w') ∧ ∀ G, parseG b = some G → ∃ a : Adr, e = .returned (.tuple #[.agg (grtA G a), .int .i64 0]) ∧ Below w.heap.size w w' ∧ GrS (New w.heap.size w') w' G a ∧ ∀ x ∈ G.exts, x.2.length ≤ 1000000
set_option maxRecDepth 100000 in
set_option maxHeartbeats 2000000 in
theorem parse_ref7 {w : World} {A : Option Addr} {c : Nat} {b : List UInt8} (h : Rb w.heap.size w A c b) (hl : b.length ≤ 1000000) :
    Calls Tryz.prog 12 #[.slice A b.length c] w (PrsR b w) := by
  obtain ⟨I0, hi0, hi1, hi2, hi3⟩ := info_parts infoI7
  obtain ⟨I1, hj0, hj1, hj2, hj3⟩ := info_parts infoE
  have L0 := Lib.hid (lst_new (c := c) h hl)
  clear h
  go_enter Tryz.func12, Tryz.ntmps12
  go_upto_region 3 with (first
    | (refine wpList_alloc7 rfl rfl w.heap.size rfl ?_)
    | (refine wpList_alloc7 rfl rfl (w.heap.size + 1) (by simp) ?_))
  generalize ((w.alloc (.cells (gArr 0) 28)).alloc (.cells (gArr 0) 28)).alloc (.cells #[.slice A b.length c, .bool false] 68) = w0 at *
  have C := Lib.hid (l_num L0.out 1 (by decide))
  go_wp2_with fail
  refine C.out.mono ?_
  rintro e w1 ⟨rfl, h1, _⟩
  have C := Lib.hid (l_mustN h1 (nmV (some b) 1) 22)
  clear L0 h1
  go_wp2_with fail
  refine C.out.mono ?_
  rintro e w2 ⟨rfl, h2, _⟩
  have L2 : Hid (Lst w w2 (c1 b) (gz 0)) := Lib.hid h2
  have C := Lib.hid (l_num L2.out 1 (by decide))
  clear h2
  go_wp2_with fail
  refine C.out.mono ?_
  rintro e w3 ⟨rfl, h3, _⟩
  have C := Lib.hid (l_mustN h3 (nmV (c1 b) 1) 3)
  clear L2 h3
  go_wp2_with fail
  refine C.out.mono ?_
  rintro e w4 ⟨rfl, h4, _⟩
  have L4 : Hid (Lst w w4 (c2 b) (gz 0)) := Lib.hid h4
  have C := Lib.hid (l_num L4.out 1 (by decide))
  clear h4
  go_wp2_with fail
  refine C.out.mono ?_
  rintro e w5 ⟨rfl, h5, _⟩
  have L5 : Hid (Lst w w5 (c3 b) (gz 0)) := Lib.hid h5
  have d0 : w5.cell? ⟨w.heap.size + 1, 0, none⟩ = some (.int .i64 0) := h5.cs.cell 0 (by decide)
  have f0 : w5.frozen? ⟨w.heap.size + 1, 0, none⟩ = false := h5.cs.free 0 (by decide)
  have L6 : Hid (Lst w (w5.setCell ⟨w.heap.size + 1, 0, none⟩ (.int .i64 (nmV (c2 b) 1 : Nat))) (c3 b) (gz (nmV (c2 b) 1 : Nat))) := Lib.hid (h5.set 0 (by decide) _)
  clear L4 h5
  have C := Lib.hid (l_rest L6.out 2 (by decide))
  generalize hmi : ((nmV (c2 b) 1 : Nat) : Int) = mi at *
  have HMI := Lib.hid hmi
  clear hmi
  go_wp2_with fail
  generalize w5.setCell ⟨w.heap.size + 1, 0, none⟩ (.int .i64 mi) = w6 at *
  clear d0 f0 L5
  refine C.out.mono ?_
  rintro e w7 ⟨rfl, h7, _⟩
  have L7 : Hid (Lst w w7 (c4 b) (gz mi)) := Lib.hid h7
  obtain ⟨A7, n7, k7, hc7⟩ := h7.cur
  have d0 := cur_c0 hc7
  have cm := l_must h7 (decide ((n7 : Int) ≤ ((16384 : Nat) : Int)))
  rw [le_any fun R e => (hc7.rb R e).1] at cm
  have C := Lib.hid cm
  clear h7 hc7 cm L6
  go_wp2_with fail
  refine C.out.mono ?_
  rintro e w8 ⟨rfl, h8, _⟩
  have L8 : Hid (Lst w w8 (c5 b) (gz mi)) := Lib.hid h8
  have C := Lib.hid (l_num L8.out 1 (by decide))
  clear h8 d0 L7
  go_wp2_with fail
  refine C.out.mono ?_
  rintro e w9 ⟨rfl, h9, _⟩
  have C := Lib.hid (l_mustN h9 (nmV (c5 b) 1) 1)
  clear L8 h9
  go_wp2_with fail
  refine C.out.mono ?_
  rintro e w10 ⟨rfl, h10, _⟩
  have L10 : Hid (Lst w w10 (c6 b) (gz mi)) := Lib.hid h10
  have C := Lib.hid (l_rest L10.out 3 (by decide))
  clear h10
  go_wp2_with fail
  refine C.out.mono ?_
  rintro e w11 ⟨rfl, h11, _⟩
  have L11 : Hid (Lst w w11 (c7 b) (gz mi)) := Lib.hid h11
  have C := Lib.hid (l_num L11.out 2 (by decide))
  clear h11 L10
  go_wp2_with fail
  refine C.out.mono ?_
  rintro e w12 ⟨rfl, h12, _⟩
  have C := Lib.hid (l_mustN h12 (nmV (c7 b) 2) 771)
  clear L11 h12
  go_wp2_with fail
  refine C.out.mono ?_
  rintro e w13 ⟨rfl, h13, _⟩
  have L13 : Hid (Lst w w13 (c8 b) (gz mi)) := Lib.hid h13
  have C := Lib.hid (l_take L13.out 32 (by decide))
  clear h13
  go_wp2_with fail
  refine C.out.mono ?_
  rintro e w14 ⟨A14, k14, rfl, hr14, h14, _⟩
  have L14 : Hid (Lst w w14 (c9 b) (gz mi)) := Lib.hid h14
  have R14 := Lib.hid hr14
  have HZ := Lib.hid L13.out.gt
  clear h14 hr14 L13 C
  have hR32 := tkV_len (c8 b) 32
  have HRN : Hid (tkV (c8 b) 32 = tkV (c8 b) 32) := Lib.hid rfl
  generalize hRN : tkV (c8 b) 32 = R at *
  have HRD := Lib.hid hRN
  clear hRN HRN
  go_wp2_with fail
  go_loopw [7] (fun v wr => ∃ i : Nat, i ≤ R.length ∧ v = .int .i64 i ∧ Hid (Lst w wr (c9 b) (gCells mi (padI R i) nilS nilS nilS noStr (.int .i64 0) nilS) ∧ RowG wr w13.heap.size A14 k14 R)) (fun v _ => R.length - (intOf v).toNat)
  case atStart => exact ⟨0, Nat.zero_le _, rfl, Lib.hid ⟨L14.out, R14.out⟩⟩
  case round =>
    obtain ⟨i, hi, rfl, hst⟩ := hrel
    obtain ⟨hL, hR⟩ := hst.out
    clear L14 R14
    by_cases hlt : i < R.length
    · obtain ⟨bk, off, rfl, _, hc⟩ := hR.rb.rd i hlt
      have hpl := padI_len (Nat.le_of_lt hlt) hR32
      have q0 : (0 : Int) ≤ i := by omega
      have q1 : (i : Int) < R.length := by omega
      have q2 : (i : Int) < 32 := by omega
      have hlen : 1 + i < (gCells mi (padI R i) nilS nilS nilS noStr (.int .i64 0) nilS).length := by rw [gCells_len _ _ _ _ _ _ _ _ hpl]; omega
      have d1 : wr.cell? ⟨w.heap.size + 1, 1 + i, none⟩ = some (.int .u8 ((padI R i)[i]'(by omega)).toNat) := (hL.cs.cell (1 + i) hlen).trans (gCells_rcell _ _ _ _ _ _ _ _ i (by omega))
      have f1 : wr.frozen? ⟨w.heap.size + 1, 1 + i, none⟩ = false := hL.cs.free (1 + i) hlen
      have hset := hL.set (1 + i) hlen (.int .u8 (R[i].toNat : Int))
      rw [gCells_rnd _ _ _ _ _ _ _ _ i _ (by omega), padI_set hlt hR32] at hset
      have HE : Hid (Lst w (wr.setCell ⟨w.heap.size + 1, 1 + i, none⟩ (.int .u8 (R[i].toNat : Int))) (c9 b) (gCells mi (padI R (i + 1)) nilS nilS nilS noStr (.int .i64 0) nilS) ∧ RowG (wr.setCell ⟨w.heap.size + 1, 1 + i, none⟩ (.int .u8 (R[i].toNat : Int))) w13.heap.size (some ⟨bk, off, none⟩) k14 R) := Lib.hid ⟨hset, hR.set (by have := HZ.out; omega)⟩
      generalize R[i].toNat = y at *
      clear hset hst hL hR hlen
      go_wp2_with fail
      go_roundw
      case rel => exact ⟨i + 1, by omega, by go_num, HE⟩
      case measure => simp [intOf]; omega
    · obtain rfl : i = R.length := by omega
      have q1 : ¬ (R.length : Int) < R.length := by omega
      rw [padI_all] at hL
      have L15 := Lib.hid hL
      clear hst hL hR
      have C := Lib.hid (l_fill L15.out 1 (by decide))
      go_wp2_with fail
      refine C.out.mono ?_
      rintro e w15 ⟨A15, k15, rfl, hr15, h15, hk15⟩
      have hpl : (pad32 R).length = 32 := by rw [← padI_all]; exact padI_len (Nat.le_refl _) hR32
      have HPL := Lib.hid hpl
      have d1 : w15.cell? ⟨w.heap.size + 1, 33, none⟩ = some nilS := (h15.cs.cell 33 (by rw [gCells_len _ _ _ _ _ _ _ _ hpl]; decide)).trans (gCells_at mi (pad32 R) _ _ _ _ _ _ hpl).1
      have f1 : w15.frozen? ⟨w.heap.size + 1, 33, none⟩ = false := h15.cs.free 33 (by rw [gCells_len _ _ _ _ _ _ _ _ hpl]; decide)
      have hset := h15.set 33 (by rw [gCells_len _ _ _ _ _ _ _ _ hpl]; decide) (.slice A15 (flV (c9 b) 1).length k15)
      rw [(gCells_set mi (pad32 R) nilS nilS nilS noStr (.int .i64 0) nilS (.slice A15 (flV (c9 b) 1).length k15) hpl).1] at hset
      have L16 : Hid (Lst w (w15.setCell ⟨w.heap.size + 1, 33, none⟩ (.slice A15 (flV (c9 b) 1).length k15)) (c10 b) (gCells mi (pad32 R) (.slice A15 (flV (c9 b) 1).length k15) nilS nilS noStr (.int .i64 0) nilS)) := Lib.hid hset
      have S16 : Hid (RowG (w15.setCell ⟨w.heap.size + 1, 33, none⟩ (.slice A15 (flV (c9 b) 1).length k15)) (w.heap.size + 3) A15 k15 (flV (c9 b) 1)) := Lib.hid ((hr15.up (by have := L15.out.gt; omega)).set (by omega))
      generalize hse : flV (c9 b) 1 = ses at *
      have HSE := Lib.hid hse
      clear hse hr15 h15 hk15 hset hpl C L15
      have C := Lib.hid (l_fill L16.out 2 (by decide))
      unfold nilS at d1
      go_wp2_with fail
      generalize w15.setCell ⟨w.heap.size + 1, 33, none⟩ (.slice A15 ses.length k15) = w16 at *
      clear d1 f1
      refine C.out.mono ?_
      rintro e w17 ⟨A17, k17, rfl, hr17, h17, hk17⟩
      have L17 := Lib.hid h17
      have S17 := Lib.hid (S16.out.kp hk17 (by omega))
      have U17 := Lib.hid (hr17.up (base' := w.heap.size + 3) (by have := L16.out.gt; omega))
      have cm := l_mustN h17 ((flV (c10 b) 2).length % 2) 0
      have C := Lib.hid cm
      clear hr17 h17 hk17 L16 S16 cm
      generalize hsb : flV (c10 b) 2 = sb at *
      have HSB := Lib.hid hsb
      have HSL : Hid (sb.length ≤ 1000000) := Lib.hid (by rw [← hsb]; exact flV_small _)
      clear hsb
      go_wp2_with fail
      refine C.out.mono ?_
      rintro e w18 ⟨rfl, h18, hk18⟩
      have L18 : Hid (Lst w w18 (c11 b) (gCells mi (pad32 R) (.slice A15 ses.length k15) nilS nilS noStr (.int .i64 0) nilS)) := Lib.hid (by
        have e : c11 b = muC (flC (c10 b) 2) (decide (sb.length % 2 = 0)) := by rw [← HSB.out]; rfl
        rw [e]; exact h18)
      have S18 := Lib.hid (S17.out.kp hk18 (by omega))
      have U18 := Lib.hid (U17.out.kp hk18 (by omega))
      have Q0 : Hid (Lsu w w18 w18.heap.size (c11 b) mi (pad32 R) ses sb A15 k15 A17 k17 0 none 0) := Lib.hid ⟨L18.out, RowV.nil 1 _ _, S18.out, U18.out, L18.out.gt, Nat.le_refl _, fun g e => (S18.out.lt e).2, fun g e => (U18.out.lt e).2⟩
      clear h18 hk18 C L17 S17 U17 L18 S18 U18
      generalize hbs : w18.heap.size = base at Q0
      clear hbs
      go_wp2_with fail
      go_loopw [9] (fun v wr => ∃ j : Nat, 2 * j ≤ sb.length ∧ v = .int .i64 (2 * (j : Int)) ∧ Hid (∃ Au cu, Lsu w wr base (c11 b) mi (pad32 R) ses sb A15 k15 A17 k17 j Au cu)) (fun v _ => sb.length + 1 - (intOf v).toNat)
      case atStart => exact ⟨0, Nat.zero_le _, rfl, Lib.hid ⟨none, 0, Q0.out⟩⟩
      case round =>
        obtain ⟨j, hj, rfl, hst⟩ := hrel
        obtain ⟨Au, cu, hq⟩ := hst.out
        have HQ := Lib.hid hq
        clear hst Q0
        have wj : IntKind.i64.wrap (2 * (j : Int) + 1) = 2 * j + 1 := by
          have hb1 : sb.length ≤ 1000000 := HSL.out
          have := wrap_i64_7 (2 * j + 1) (by omega)
          rw [show ((2 * j + 1 : Nat) : Int) = 2 * (j : Int) + 1 by omega] at this
          exact this
        by_cases hlt : 2 * j + 1 < sb.length
        · have hz := suitesL_step j sb hlt
          obtain ⟨bk, off, rfl, hbk, hc0⟩ := HQ.out.b.rb.rd (2 * j) (by omega)
          have HBK : Hid ((some ⟨bk, off, none⟩ : Option Addr) = some ⟨bk, 0, none⟩) := Lib.hid (by
            rcases HQ.out.b.at_ with ⟨e, _⟩ | ⟨gg, e, _⟩
            · cases e
            · cases e; rfl)
          obtain ⟨bk', off', e', _, hc1⟩ := HQ.out.b.rb.rd (2 * j + 1) hlt
          cases e'
          have hbk3 : w.heap.size + 3 ≤ bk := by
            have h0 := HQ.out.b.at_
            rcases h0 with ⟨e, _⟩ | ⟨gg, e, h1, _⟩
            · cases e
            · cases e; exact h1
          have hx0 := (sb[2 * j]'(by omega)).toNat_lt
          have hx1 := (sb[2 * j + 1]'hlt).toNat_lt
          generalize (sb[2 * j]'(by omega)).toNat = y0 at *
          generalize (sb[2 * j + 1]'hlt).toNat = y1 at *
          have hor := or_byte y0 y1 (by omega) hx1
          rw [show ((y0 * 256 + y1 : Nat) : Int) = (y0 : Int) * 256 + y1 by omega] at hor hz
          have q0 : (0 : Int) ≤ 2 * (j : Int) := by omega
          have q3 : (0 : Int) ≤ 2 * (j : Int) + 1 := by omega
          have tn : (2 * (j : Int) + 1).toNat = 2 * j + 1 := by omega
          have tn2 : (2 * (j : Int)).toNat = 2 * j := by omega
          have wy0 : IntKind.i64.wrap (y0 : Int) = y0 := wrap_i64_7 _ (by omega)
          have wy1 : IntKind.i64.wrap (y1 : Int) = y1 := wrap_i64_7 _ (by omega)
          have wy2 : IntKind.i64.wrap ((y0 : Int) * 256) = y0 * 256 := by have := wrap_i64_7 (y0 * 256) (by omega); rw [show ((y0 * 256 : Nat) : Int) = (y0 : Int) * 256 by omega] at this; exact this
          have wy3 : IntKind.i64.wrap (2 * (j : Int) + 2) = 2 * j + 2 := by have hq := HSL.out; have := wrap_i64_7 (2 * j + 2) (by omega); rw [show ((2 * j + 2 : Nat) : Int) = 2 * (j : Int) + 2 by omega] at this; exact this
          have q1 : 2 * (j : Int) + 1 < sb.length := by omega
          have q2 : 2 * (j : Int) < sb.length := by omega
          have hnat : (off + 2 * j : Nat) = off + 2 * j := rfl
          have hHS := HQ.out.l.cs
          have d34 : wr.drew.cell? ⟨w.heap.size + 1, 34, none⟩ = some (.slice Au j cu) := (HQ.out.l.cs.cell 34 (by rw [gCells_len _ _ _ _ _ _ _ _ HPL.out]; decide)).trans (gCells_at mi (pad32 R) _ _ _ _ _ _ HPL.out).2.1
          have HW := Lib.hid HQ.out.l.gt
          have HPS := Lib.hid (lsu_r HQ.out (((y0 : Int) * 256 + y1)))
          have hS1 : ∀ {a v}, wr.cell? a = some v → (wr.drew.alloc (.cells #[.int .i64 ((y0 : Int) * 256 + y1)] 3)).cell? a = some v := fun {a v} h => ((below_new wr.drew _).cell (World.block_lt_of_cell? _ _ h)).trans h
          have k34 : (wr.alloc (.cells #[.int .i64 ((y0 : Int) * 256 + y1)] 3)).cell? ⟨w.heap.size + 1, 34, none⟩ = some (.slice Au j cu) := hS1 d34
          go_wp2_with fail
          refine wp_region_held_drew (S := fun w' => w'.cell? ⟨bk, off + 2 * j, none⟩ = some (.int .u8 y0) ∧ w'.cell? ⟨bk, off + (2 * j + 1), none⟩ = some (.int .u8 y1)) (by kernel_rfl) ⟨hc0, hc1⟩ (fun hH => ?_)
          refine wpAnyH_take (i := 0) (v := .pointer (some ⟨w.heap.size + 1, 34, none⟩)) rfl (by kernel_rfl) (by kernel_rfl) (by kernel_rfl) (fun _ _ _ h => h) (Or.inl ⟨by rfl, fun w' hw => by go_simp⟩) hH ?_
          refine wpAnyH_take (i := 2) (v := .slice (some ⟨bk, off, none⟩) sb.length k17) rfl (by kernel_rfl) (by kernel_rfl) (by kernel_rfl) (fun _ _ _ h => h) (Or.inl ⟨by rfl, fun w' hw => by go_simp⟩) hH ?_
          refine wpAnyH_take (i := 3) (v := .int .i64 (2 * (j : Int))) rfl (by kernel_rfl) (by kernel_rfl) (by kernel_rfl) (fun _ _ _ h => h) (Or.inl ⟨by rfl, fun w' hw => by go_simp⟩) hH ?_
          refine wpAnyH_take (i := 4) (v := .pointer (some ⟨bk, off + 2 * j, none⟩)) rfl (by kernel_rfl) (by kernel_rfl) (by kernel_rfl) (fun _ _ _ h => h) (Or.inl ⟨by rfl, fun w' hw => by go_simp⟩) hH ?_
          refine wpAnyH_take (i := 5) (v := .int .u8 y0) rfl (by kernel_rfl) (by kernel_rfl) (by kernel_rfl) (fun _ _ _ h => h) (Or.inl ⟨by rfl, fun w' hw => by have hc := hw.1; go_simp⟩) hH ?_
          refine wpAnyH_take (i := 6) (v := .int .i64 y0) rfl (by kernel_rfl) (by kernel_rfl) (by kernel_rfl) (fun _ _ _ h => h) (Or.inl ⟨by rfl, fun w' hw => by go_simp⟩) hH ?_
          refine wpAnyH_take (i := 7) (v := .int .i64 ((y0 : Int) * 256)) rfl (by kernel_rfl) (by kernel_rfl) (by kernel_rfl) (fun _ _ _ h => h) (Or.inl ⟨by rfl, fun w' hw => by go_simp⟩) hH ?_
          refine wpAnyH_take (i := 8) (v := .slice (some ⟨bk, off, none⟩) sb.length k17) rfl (by kernel_rfl) (by kernel_rfl) (by kernel_rfl) (fun _ _ _ h => h) (Or.inl ⟨by rfl, fun w' hw => by go_simp⟩) hH ?_
          refine wpAnyH_take (i := 9) (v := .int .i64 (2 * (j : Int))) rfl (by kernel_rfl) (by kernel_rfl) (by kernel_rfl) (fun _ _ _ h => h) (Or.inl ⟨by rfl, fun w' hw => by go_simp⟩) hH ?_
          refine wpAnyH_take (i := 10) (v := .int .i64 (2 * (j : Int) + 1)) rfl (by kernel_rfl) (by kernel_rfl) (by kernel_rfl) (fun _ _ _ h => h) (Or.inl ⟨by rfl, fun w' hw => by go_simp⟩) hH ?_
          refine wpAnyH_take (i := 11) (v := .pointer (some ⟨bk, off + (2 * j + 1), none⟩)) rfl (by kernel_rfl) (by kernel_rfl) (by kernel_rfl) (fun _ _ _ h => h) (Or.inl ⟨by rfl, fun w' hw => by go_simp⟩) hH ?_
          refine wpAnyH_take (i := 12) (v := .int .u8 y1) rfl (by kernel_rfl) (by kernel_rfl) (by kernel_rfl) (fun _ _ _ h => h) (Or.inl ⟨by rfl, fun w' hw => by have hc := hw.2; go_simp⟩) hH ?_
          refine wpAnyH_take (i := 13) (v := .int .i64 y1) rfl (by kernel_rfl) (by kernel_rfl) (by kernel_rfl) (fun _ _ _ h => h) (Or.inl ⟨by rfl, fun w' hw => by go_simp⟩) hH ?_
          refine wpAnyH_take (i := 14) (v := .int .i64 ((y0 : Int) * 256 + y1)) rfl (by kernel_rfl) (by kernel_rfl) (by kernel_rfl) (fun _ _ _ h => h) (Or.inl ⟨by rfl, fun w' hw => by go_simp⟩) hH ?_
          refine wpAnyH_ready (rs := [1, 15]) (by kernel_rfl) (by simp) (AllReadyH.cons rfl (fun K hK => ?_) (AllReadyH.cons rfl (fun K hK => ?_) AllReadyH.nil))
          · go_simp
            refine hK.out _ _ hH (fun hH => ?_)
            clear hK K
            refine wpAnyH_ready (rs := [15]) (by kernel_rfl) (by simp) (AllReadyH.cons rfl (fun K hK => ?_) AllReadyH.nil)
            go_simp
            refine hK.out _ _ ⟨hS1 hc0, hS1 hc1⟩ (fun hH => ?_)
            clear hK K
            refine wpAnyH_ready (rs := [16]) (by kernel_rfl) (by simp) (AllReadyH.cons rfl (fun K hK => ?_) AllReadyH.nil)
            rw [if_pos (by rfl)]
            refine wp_pushV (.tmp 87) (.tmp 101) 25 3 25 rfl I0 _ 8 Tryz.underlying25 hi0 hi1 hi2 hi3 rfl (by decide) _ base Au cu j 1 (intV (suitesL (sb.take (2 * j)))) [.int .i64 ((y0 : Int) * 256 + y1)] (.slice (some ⟨wr.drew.heap.size, 0, none⟩) 1 1) rfl rfl rfl HPS.out.1 HPS.out.2.1 HPS.out.2.2 (by have := HSL.out; omega) ?_
            intro A5 c5 w5 hr5 hb5 ho5 hA5
            have HE := Lib.hid (lsu_push HQ.out HPL.out hlt hz hb5 hr5)
            have hkeep : Below base wr w5 := (((below_drewN (Below.refl _ _) 1).trans (below_new wr.drew _) : Below wr.heap.size wr _).mono HQ.out.sz).trans hb5
            have hbk5 : bk < base := HQ.out.gb bk (HBK.out)
            have e34 : w5.cell? ⟨w.heap.size + 1, 34, none⟩ = some (.slice Au j cu) := (hkeep.cell (p := ⟨w.heap.size + 1, 34, none⟩) (by have := HQ.out.lo; show w.heap.size + 1 < base; omega)).trans d34
            have f34 : w5.frozen? ⟨w.heap.size + 1, 34, none⟩ = false := (HQ.out.l.cs.keep hkeep.size (hkeep.block _ (by have := HQ.out.lo; omega))).free 34 (by rw [gCells_len _ _ _ _ _ _ _ _ HPL.out]; decide)
            have hH5 : w5.cell? ⟨bk, off + 2 * j, none⟩ = some (.int .u8 y0) ∧ w5.cell? ⟨bk, off + (2 * j + 1), none⟩ = some (.int .u8 y1) := ⟨(hkeep.cell (p := ⟨bk, off + 2 * j, none⟩) hbk5).trans hc0, (hkeep.cell (p := ⟨bk, off + (2 * j + 1), none⟩) hbk5).trans hc1⟩
            refine hK.out _ _ hH5 (fun hH => ?_)
            clear hK K hr5 hb5 ho5 hA5 hkeep hH
            refine wpAnyH_take (i := 17) (v := .pointer (some ⟨w.heap.size + 1, 34, none⟩)) rfl (by kernel_rfl) (by kernel_rfl) (by kernel_rfl) (fun _ _ _ h => h) (Or.inl ⟨by rfl, fun w' hw => by go_simp⟩) hH5 ?_
            refine wpAnyH_ready (rs := [18]) (by kernel_rfl) (by simp) (AllReadyH.cons rfl (fun K hK => ?_) AllReadyH.nil)
            go_simp
            refine hK.out _ _ ⟨(cell_far0 _ _ _ _ _ (by show bk ≠ w.heap.size + 1; omega)).trans hH5.1, (cell_far0 _ _ _ _ _ (by show bk ≠ w.heap.size + 1; omega)).trans hH5.2⟩ (fun hH => ?_)
            clear hK K
            refine wpAnyH_done (by kernel_rfl) ?_ _
            clear e34 f34
            go_wp2_with fail
            go_roundw
            case rel => exact ⟨j + 1, by omega, by go_num, Lib.hid ⟨A5, c5, HE.out⟩⟩
            case measure => simp [intOf]; omega
          · go_simp
            refine hK.out _ _ ⟨hS1 hc0, hS1 hc1⟩ (fun hH => ?_)
            clear hK K
            refine wpAnyH_ready (rs := [1]) (by kernel_rfl) (by simp) (AllReadyH.cons rfl (fun K hK => ?_) AllReadyH.nil)
            go_simp
            refine hK.out _ _ ⟨hS1 hc0, hS1 hc1⟩ (fun hH => ?_)
            clear hK K
            refine wpAnyH_ready (rs := [16]) (by kernel_rfl) (by simp) (AllReadyH.cons rfl (fun K hK => ?_) AllReadyH.nil)
            rw [if_pos (by rfl)]
            refine wp_pushV (.tmp 87) (.tmp 101) 25 3 25 rfl I0 _ 8 Tryz.underlying25 hi0 hi1 hi2 hi3 rfl (by decide) _ base Au cu j 1 (intV (suitesL (sb.take (2 * j)))) [.int .i64 ((y0 : Int) * 256 + y1)] (.slice (some ⟨wr.drew.heap.size, 0, none⟩) 1 1) rfl rfl rfl HPS.out.1 HPS.out.2.1 HPS.out.2.2 (by have := HSL.out; omega) ?_
            intro A5 c5 w5 hr5 hb5 ho5 hA5
            have HE := Lib.hid (lsu_push HQ.out HPL.out hlt hz hb5 hr5)
            have hkeep : Below base wr w5 := (((below_drewN (Below.refl _ _) 1).trans (below_new wr.drew _) : Below wr.heap.size wr _).mono HQ.out.sz).trans hb5
            have hbk5 : bk < base := HQ.out.gb bk (HBK.out)
            have e34 : w5.cell? ⟨w.heap.size + 1, 34, none⟩ = some (.slice Au j cu) := (hkeep.cell (p := ⟨w.heap.size + 1, 34, none⟩) (by have := HQ.out.lo; show w.heap.size + 1 < base; omega)).trans d34
            have f34 : w5.frozen? ⟨w.heap.size + 1, 34, none⟩ = false := (HQ.out.l.cs.keep hkeep.size (hkeep.block _ (by have := HQ.out.lo; omega))).free 34 (by rw [gCells_len _ _ _ _ _ _ _ _ HPL.out]; decide)
            have hH5 : w5.cell? ⟨bk, off + 2 * j, none⟩ = some (.int .u8 y0) ∧ w5.cell? ⟨bk, off + (2 * j + 1), none⟩ = some (.int .u8 y1) := ⟨(hkeep.cell (p := ⟨bk, off + 2 * j, none⟩) hbk5).trans hc0, (hkeep.cell (p := ⟨bk, off + (2 * j + 1), none⟩) hbk5).trans hc1⟩
            refine hK.out _ _ hH5 (fun hH => ?_)
            clear hK K hr5 hb5 ho5 hA5 hkeep hH
            refine wpAnyH_take (i := 17) (v := .pointer (some ⟨w.heap.size + 1, 34, none⟩)) rfl (by kernel_rfl) (by kernel_rfl) (by kernel_rfl) (fun _ _ _ h => h) (Or.inl ⟨by rfl, fun w' hw => by go_simp⟩) hH5 ?_
            refine wpAnyH_ready (rs := [18]) (by kernel_rfl) (by simp) (AllReadyH.cons rfl (fun K hK => ?_) AllReadyH.nil)
            go_simp
            refine hK.out _ _ ⟨(cell_far0 _ _ _ _ _ (by show bk ≠ w.heap.size + 1; omega)).trans hH5.1, (cell_far0 _ _ _ _ _ (by show bk ≠ w.heap.size + 1; omega)).trans hH5.2⟩ (fun hH => ?_)
            clear hK K
            refine wpAnyH_done (by kernel_rfl) ?_ _
            clear e34 f34
            go_wp2_with fail
            go_roundw
            case rel => exact ⟨j + 1, by omega, by go_num, Lib.hid ⟨A5, c5, HE.out⟩⟩
            case measure => simp [intOf]; omega
        · have q1 : ¬ 2 * (j : Int) + 1 < sb.length := by omega
          have hsu := suitesL_end j sb hj hlt
          have hsl := suitesT_len j sb hj
          rw [hsu] at hsl
          have hru := HQ.out.r
          rw [hsu] at hru
          have RU := Lib.hid hru
          have RS := Lib.hid HQ.out.s
          have LQ := Lib.hid HQ.out.l
          have HLO := Lib.hid HQ.out.lo
          have HSZ := Lib.hid HQ.out.sz
          have HGA := Lib.hid HQ.out.ga
          have HSU : Hid ((suitesL sb).length = j) := Lib.hid hsl
          have HJ : Hid (j ≤ 1000000) := Lib.hid (by have := HSL.out; omega)
          clear hsu hsl hru HQ hlt hj
          generalize hsue : suitesL sb = SU at *
          have HSUE := Lib.hid hsue
          clear hsue
          have C := Lib.hid (l_fill LQ.out 1 (by decide))
          go_wp2_with fail
          refine C.out.mono ?_
          rintro e w19 ⟨A19, k19, rfl, hr19, h19, hk19⟩
          have hpl := HPL.out
          have d1 : w19.cell? ⟨w.heap.size + 1, 35, none⟩ = some (.slice none 0 0) := (h19.cs.cell 35 (by rw [gCells_len _ _ _ _ _ _ _ _ hpl]; decide)).trans (gCells_at mi (pad32 R) _ _ _ _ _ _ hpl).2.2.1
          have f1 : w19.frozen? ⟨w.heap.size + 1, 35, none⟩ = false := h19.cs.free 35 (by rw [gCells_len _ _ _ _ _ _ _ _ hpl]; decide)
          have hset := h19.set 35 (by rw [gCells_len _ _ _ _ _ _ _ _ hpl]; decide) (.slice A19 (flV (c11 b) 1).length k19)
          rw [(gCells_set mi (pad32 R) (.slice A15 ses.length k15) (.slice Au j cu) nilS noStr (.int .i64 0) nilS (.slice A19 (flV (c11 b) 1).length k19) hpl).2.2.1] at hset
          have L20 : Hid (Lst w (w19.setCell ⟨w.heap.size + 1, 35, none⟩ (.slice A19 (flV (c11 b) 1).length k19)) (c12 b) (gCells mi (pad32 R) (.slice A15 ses.length k15) (.slice Au j cu) (.slice A19 (flV (c11 b) 1).length k19) noStr (.int .i64 0) nilS)) := Lib.hid hset
          have hlo := HLO.out
          have hsz := HSZ.out
          have S20 : Hid (RowG (w19.setCell ⟨w.heap.size + 1, 35, none⟩ (.slice A19 (flV (c11 b) 1).length k19)) (w.heap.size + 3) A15 k15 ses) := Lib.hid ((RS.out.kp hk19 (by omega)).set (by omega))
          have U20 : Hid (RowV 1 (w19.setCell ⟨w.heap.size + 1, 35, none⟩ (.slice A19 (flV (c11 b) 1).length k19)) (w.heap.size + 3) Au j cu (intV SU)) := Lib.hid (((RU.out.kp hk19 (by omega)).set (by omega)).up hlo)
          have M20 : Hid (RowG (w19.setCell ⟨w.heap.size + 1, 35, none⟩ (.slice A19 (flV (c11 b) 1).length k19)) (w.heap.size + 3) A19 k19 (flV (c11 b) 1)) := Lib.hid ((hr19.up (by omega)).set (by omega))
          clear hr19 h19 hk19 hset hpl C LQ RU RS HLO HSZ HGA hlo hsz
          generalize hme : flV (c11 b) 1 = me at *
          have HME := Lib.hid hme
          clear hme
          have C := Lib.hid (l_rest L20.out 2 (by decide))
          go_wp2_with fail
          generalize w19.setCell ⟨w.heap.size + 1, 35, none⟩ (.slice A19 me.length k19) = w20 at *
          clear d1 f1
          refine C.out.mono ?_
          rintro e w21 ⟨rfl, h21, hk21⟩
          have L21 : Hid (Lst w w21 (c13 b) (gCells mi (pad32 R) (.slice A15 ses.length k15) (.slice Au j cu) (.slice A19 me.length k19) noStr (.int .i64 0) nilS)) := Lib.hid h21
          have S21 := Lib.hid (S20.out.kp hk21 (by omega))
          have U21 := Lib.hid (U20.out.kp hk21 (by omega))
          have M21 := Lib.hid (M20.out.kp hk21 (by omega))
          have Q21 : Hid ((∃ k, start7 b = runX k (start7 b)) ∧ Lex w w21 w21.heap.size mi (pad32 R) ses A15 k15 Au j cu me A19 k19 SU (start7 b) [] none 0 ∧ lenC (start7 b).c ≤ b.length) := Lib.hid ⟨⟨0, rfl⟩, lex_zero L21.out S21.out U21.out HSU.out M21.out hl, lenC_start b⟩
          clear h21 hk21 C L20 S20 U20 M20 L21 S21 U21 M21
          generalize hbs2 : w21.heap.size = base2 at Q21
          clear hbs2
          go_wp2_with fail
          go_loopg [10] b.length (fun f v wr => ∃ (P : Pst) (L : List Xc) (Ax : Option Addr) (cx : Nat), v = .bool P.named ∧ Hid ((∃ k, P = runX k (start7 b)) ∧ Lex w wr base2 mi (pad32 R) ses A15 k15 Au j cu me A19 k19 SU P L Ax cx ∧ lenC P.c ≤ f))
          case atStart => exact ⟨start7 b, [], none, 0, rfl, Q21⟩
          case round =>
            obtain ⟨P, L, Ax, cx, rfl, hst⟩ := hrel
            obtain ⟨hrun, hx, hf⟩ := hst.out
            obtain ⟨An, nn, cn, hcur⟩ := hx.l.cur
            have d0 := cur_c0 hcur
            have d1 := cur_c1 hcur
            cases hlv : live P with
            | true =>
              obtain ⟨x0, r0, hc⟩ := live_some hlv
              have hnn := (hcur.rb _ hc).1
              have e1 : wr.cell? ⟨w.heap.size + 2, 1, none⟩ = some (.bool false) := by rw [d1, hc]; rfl
              have q1 : (0 : Int) < nn := by rw [hnn, List.length_cons]; omega
              have HX := Lib.hid hx
              have HLN : Hid (lenC (tkC P.c 2) < lenC P.c ∧ lenC (rnd1 P).c < lenC P.c ∧ lenC P.c ≤ gk) := Lib.hid ⟨live_len hlv, rnd_len hlv, hf⟩
              have HRUN : Hid (∃ k, rnd1 P = runX k (start7 b)) := Lib.hid (by
                obtain ⟨k, rfl⟩ := hrun
                exact ⟨k + 1, (runX_succ k _ hlv).symm⟩)
              have C27 := Lib.hid (l_num hx.l 2 (by decide))
              clear hrun hx hf hcur d1 hlv hc hnn hst Q21
              go_wp2_with fail
              refine C27.out.mono ?_
              rintro e w23 ⟨rfl, h23, hk23⟩
              have X23 := Lib.hid (lex_call HX.out ⟨h23, hk23⟩ (lenC_tk_le _ _))
              have C28 := Lib.hid (l_fill h23 2 (by decide))
              generalize hkd : nmV P.c 2 = kd at *
              have HKD := Lib.hid hkd
              clear h23 hk23 d0 e1 q1 hkd C27
              go_wp2_with fail
              refine C28.out.mono ?_
              rintro e w24 ⟨Ad, cd, rfl, hr24, h24, hk24⟩
              have X24 : Hid (Lex w w24 base2 mi (pad32 R) ses A15 k15 Au j cu me A19 k19 SU { P with c := flC (tkC P.c 2) 2 } L Ax cx) := Lib.hid (lex_call (p := { P with c := tkC P.c 2 }) X23.out ⟨h24, hk24⟩ (lenC_fl_le _ _))
              have HOW : Hid (RbS (Own base2 w24 Ax) w24 Ad cd (flV (tkC P.c 2) 2)) := Lib.hid (rbs_own (w := w) hr24 X23.out.sz (fun g e => (X23.out.x.lt e).2) rfl)
              have HDL : Hid ((flV (tkC P.c 2) 2).length ≤ 1000000) := Lib.hid (flV_small1 _ 2 (Nat.le_refl _))
              have HR24 := Lib.hid hr24.rb
              clear hr24 h24 hk24 X23 C28
              generalize hdd : flV (tkC P.c 2) 2 = dd at *
              have HDD := Lib.hid hdd
              clear hdd
              have hpl := HPL.out
              by_cases hk0 : 0 < kd
              · have q2 : (0 : Int) < kd := by omega
                have HRN : Hid (rnd1 P = { P with c := flC (tkC P.c 2) 2, exts := P.exts ++ [((kd : Int), dd)] }) := Lib.hid (by rw [← HDD.out, ← HKD.out]; exact rnd_yes (by rw [HKD.out]; exact hk0))
                have d38 : w24.cell? ⟨w.heap.size + 1, 38, none⟩ = some (.slice Ax L.length cx) := (X24.out.l.cs.cell 38 (by rw [gCells_len _ _ _ _ _ _ _ _ hpl]; decide)).trans (gCells_at mi (pad32 R) _ _ _ _ _ _ hpl).2.2.2.2.2
                have SRC := Lib.hid (src_ext w24 kd Ad dd.length cd)
                have ROW := Lib.hid (X24.out.x.below (below_new w24 (.cells #[.int .i64 kd, .slice Ad dd.length cd] 62)))
                have SZ := Lib.hid (Nat.le_trans X24.out.sz (below_new w24 (.cells #[.int .i64 kd, .slice Ad dd.length cd] 62)).size)
                have HLL : Hid (L.length + 1 + lenC (flC (tkC P.c 2) 2) ≤ 1000000) := Lib.hid (by
                  have h1 := HX.out.xl
                  have h2 := HLN.out.1
                  have h3 := lenC_fl_le (tkC P.c 2) 2
                  omega)
                have hll : L.length ≤ 1000000 := by have := HLL.out; omega
                have HLO := Lib.hid X24.out.lo
                clear hk0 hpl
                go_wp2_with (at_builtin; refine wpList_pushVG rfl (.tmp 129) (.tmp 133) 26 62 26 rfl I1 _ 32 Tryz.underlying26 hj0 hj1 hj2 hj3 rfl (by decide) _ base2 Ax cx L.length 1 (xcV L) [.int .i64 kd, .slice Ad dd.length cd] (.slice (some ⟨w24.heap.size, 0, none⟩) 1 1) rfl rfl rfl ROW.out SRC.out SZ.out (by omega) ?_; intro A5 c5 w5 hr5 hb5; have HE := Lib.hid (lex_push (y := ⟨kd, Ad, cd, dd⟩) X24.out HPL.out HOW.out HDL.out HLL.out hb5 hr5); have hc5 := X24.out.l.cs.keep (Nat.le_trans (below_new w24 _).size hb5.below.size) ((hb5.below.block _ (by have := HLO.out; omega)).trans ((below_new w24 _).block _ (by have := X24.out.l.gt; omega))); have e38 : w5.cell? ⟨w.heap.size + 1, 38, none⟩ = some (.slice Ax L.length cx) := (hc5.cell 38 (by rw [gCells_len _ _ _ _ _ _ _ _ HPL.out]; decide)).trans (gCells_at mi (pad32 R) _ _ _ _ _ _ HPL.out).2.2.2.2.2; have f38 : w5.frozen? ⟨w.heap.size + 1, 38, none⟩ = false := hc5.free 38 (by rw [gCells_len _ _ _ _ _ _ _ _ HPL.out]; decide); clear hr5 hb5 hc5 d38 SRC ROW SZ HOW)
                go_roundg (lenC (rnd1 P).c)
                case rel =>
                  refine ⟨rnd1 P, L ++ [⟨kd, Ad, cd, dd⟩], A5, c5, by rw [HRN.out], Lib.hid ⟨HRUN.out, ?_, Nat.le_refl _⟩⟩
                  rw [HRN.out]
                  exact HE.out
                case measure => have := HLN.out; omega
              · obtain rfl : kd = 0 := by omega
                have HRN : Hid (rnd1 P = ⟨muC (flC (tkC P.c 2) 2) ((naC dd).isSome && !P.named), true, naV dd, P.exts.length, P.exts⟩) := Lib.hid (by rw [← HDD.out]; exact rnd_no HKD.out)
                have C31 := Lib.hid (name_ref7 HR24.out (Nat.le_refl _) rfl HDL.out)
                have hll : P.exts.length = L.length := by rw [← X24.out.xe, List.length_map]
                have HXL := Lib.hid hll
                clear hk0 hpl hll HOW
                generalize (naC dd).isSome = bi at *
                go_wp2_with fail
                refine C31.out.mono ?_
                rintro e w25 ⟨rfl, hb⟩
                have X25 : Hid (Lex w w25 base2 mi (pad32 R) ses A15 k15 Au j cu me A19 k19 SU { P with c := flC (tkC P.c 2) 2 } L Ax cx) := Lib.hid (lex_call (p := { P with c := flC (tkC P.c 2) 2 }) X24.out ⟨X24.out.l.low hb, kp_below hb⟩ (Nat.le_refl _))
                have C32 := Lib.hid (l_must X25.out.l (bi && !P.named))
                generalize naV dd = nv at *
                clear hb C31 X24
                cases bi
                all_goals
                  simp only [Bool.false_and, Bool.true_and] at C32 HRN
                  go_wp2_with fail
                  refine C32.out.mono ?_
                  rintro e w26 ⟨rfl, h26, hk26⟩
                  have X26 := Lib.hid (lex_call (p := { P with c := flC (tkC P.c 2) 2 }) X25.out ⟨h26, hk26⟩ (lenC_mu_le _ _))
                  have XH := Lib.hid (lex_host (nv := nv) X26.out HPL.out)
                  have d36 : w26.cell? ⟨w.heap.size + 1, 36, none⟩ = some (.string ⟨P.host.toArray⟩) := (h26.cs.cell 36 (by rw [gCells_len _ _ _ _ _ _ _ _ HPL.out]; decide)).trans (gCells_at mi (pad32 R) _ _ _ _ _ _ HPL.out).2.2.2.1
                  have d37 : w26.cell? ⟨w.heap.size + 1, 37, none⟩ = some (.int .i64 (P.pos : Int)) := (h26.cs.cell 37 (by rw [gCells_len _ _ _ _ _ _ _ _ HPL.out]; decide)).trans (gCells_at mi (pad32 R) _ _ _ _ _ _ HPL.out).2.2.2.2.1
                  have d38 : w26.cell? ⟨w.heap.size + 1, 38, none⟩ = some (.slice Ax L.length cx) := (h26.cs.cell 38 (by rw [gCells_len _ _ _ _ _ _ _ _ HPL.out]; decide)).trans (gCells_at mi (pad32 R) _ _ _ _ _ _ HPL.out).2.2.2.2.2
                  have f36 : w26.frozen? ⟨w.heap.size + 1, 36, none⟩ = false := h26.cs.free 36 (by rw [gCells_len _ _ _ _ _ _ _ _ HPL.out]; decide)
                  have f37 : w26.frozen? ⟨w.heap.size + 1, 37, none⟩ = false := h26.cs.free 37 (by rw [gCells_len _ _ _ _ _ _ _ _ HPL.out]; decide)
                  clear h26 hk26 C32 X25 X26
                  go_wp2_with fail
                  go_roundg (lenC (rnd1 P).c)
                  case rel =>
                    refine ⟨rnd1 P, L, Ax, cx, by rw [HRN.out], Lib.hid ⟨HRUN.out, ?_, Nat.le_refl _⟩⟩
                    rw [HRN.out, ← HXL.out]
                    exact XH.out
                  case measure => have := HLN.out; omega
            | false =>
              have hlast := last_of hrun hlv
              have hhost : P.host.length ≤ 1000000 := by
                rw [hlast]
                exact run_host _ _ (Nat.zero_le _)
              cases hc : P.c with
              | none =>
                have HB : Hid (parseG b = none) := Lib.hid (parseG_bad hlast (.inl hc))
                obtain ⟨RB1, RB2⟩ := ret_bad hx.l
                have HR1 := Lib.hid RB1
                have HR2 := Lib.hid RB2
                have HRT := Lib.hid hx.l.ret
                have e1 : wr.cell? ⟨w.heap.size + 2, 1, none⟩ = some (.bool true) := by rw [d1, hc]; rfl
                clear hrun hx hf hcur d0 d1 hlv hlast hhost hc RB1 RB2 hst Q21
                generalize P.named = bn at *
                go_wp2_with (first
                  | (refine wpList_build07 rfl rfl ?_)
                  | (refine wpList_store_row rfl 28 (.tmp 2) (.tmp 167) rfl w.heap.size (gArr 0) rfl rfl 28 _ HRT.out (gArr_info 0) rfl (gArr_one 0) ?_))
                refine bodyPost_ret (results_row_tmp rfl _ _ w.heap.size (gArr 0) (.int .i64 70) rfl rfl HR1.out (gArr_info 0)) rfl ?_
                exact ⟨fun _ => ⟨rfl, HR2.out⟩, fun G e => by rw [HB.out] at e; cases e⟩
              | some B =>
                obtain rfl : B = [] := by
                  cases B with
                  | nil => rfl
                  | cons x r => unfold live at hlv; rw [hc] at hlv; cases hlv
                have hnn : nn = 0 := (hcur.rb [] hc).1
                subst hnn
                have e1 : wr.cell? ⟨w.heap.size + 2, 1, none⟩ = some (.bool false) := by rw [d1, hc]; rfl
                cases hnm : P.named with
                | false =>
                  have HB : Hid (parseG b = none) := Lib.hid (parseG_bad hlast (.inr (.inl hnm)))
                  obtain ⟨RB1, RB2⟩ := ret_bad hx.l
                  have HR1 := Lib.hid RB1
                  have HR2 := Lib.hid RB2
                  have HRT := Lib.hid hx.l.ret
                  clear hrun hx hf hcur d1 hlv hlast hhost hc RB1 RB2 hst Q21 hnm
                  go_wp2_with (first
                    | (refine wpList_build07 rfl rfl ?_)
                    | (refine wpList_store_row rfl 28 (.tmp 2) (.tmp 167) rfl w.heap.size (gArr 0) rfl rfl 28 _ HRT.out (gArr_info 0) rfl (gArr_one 0) ?_))
                  refine bodyPost_ret (results_row_tmp rfl _ _ w.heap.size (gArr 0) (.int .i64 70) rfl rfl HR1.out (gArr_info 0)) rfl ?_
                  exact ⟨fun _ => ⟨rfl, HR2.out⟩, fun G e => by rw [HB.out] at e; cases e⟩
                | true =>
                  have HGE : grtOf b P = ⟨mi, pad32 R, ses, SU, me, P.host, (P.pos : Int), P.exts⟩ := by
                    unfold grtOf
                    rw [HMI.out, HRD.out, HSE.out, HSB.out, HSUE.out, HME.out]
                  obtain ⟨F1, F2, F3⟩ := lex_fin hx HPL.out HSU.out (by rw [← HSE.out]; exact flV_small1 _ 1 (by decide)) (by have h1 := HSU.out; have h2 := HJ.out; omega) (by rw [← HME.out]; exact flV_small1 _ 1 (by decide)) hhost
                  generalize hG : (⟨mi, pad32 R, ses, SU, me, P.host, (P.pos : Int), P.exts⟩ : Grt) = G at *
                  have HX3 : Hid (∀ x ∈ G.exts, x.2.length ≤ 1000000) := Lib.hid (by rw [← hG]; exact F3)
                  generalize hA : (⟨A15, k15, Au, cu, A19, k19, Ax, cx⟩ : Adr) = ad at *
                  have HF1 := Lib.hid F1
                  have HF2 := Lib.hid F2
                  have CM := Lib.hid (may_ref7 (F2.grV fun k hk => hk.2))
                  have HGI := Lib.hid (infoGA G ad)
                  have HGO := Lib.hid (grtA_one G ad)
                  have HLS := Lib.hid hx.l
                  have HPN : Hid (mayG G = false → parseG b = none) := Lib.hid fun e => parseG_bad hlast (.inr (.inr (by rw [HGE]; exact e)))
                  have HPY : Hid (mayG G = true → parseG b = some G) := Lib.hid fun e => by rw [← HGE]; exact parseG_ok hlast hc hnm (by rw [HGE]; exact e)
                  unfold BoolP at CM
                  clear hrun hx hf hcur d1 hlv hlast hhost hc hst Q21 hnm HGE F1 F2 F3 hG hA
                  cases hmay : mayG G with
                  | false =>
                    rw [hmay] at CM
                    have HB := Lib.hid (HPN.out hmay)
                    clear HPN HPY hmay
                    go_wp2_with (first
                      | (refine wpList_load_rowG (by first | rfl | kernel_rfl) 28 (.tmp 4) rfl (w.heap.size + 1) rfl 28 _ (0, 0) _ HF1.out Tryz.underlying28 rfl HGI.out ?_)
                      | (go_at_call 36; refine CM.out.mono ?_; rintro e w30 ⟨rfl, hb⟩; have L30 := HLS.out.low hb; have HRT := Lib.hid L30.ret; have HR1 := Lib.hid (ret_bad L30).1; have HR2 := Lib.hid (ret_bad L30).2; clear hb L30)
                      | (refine wpList_build07 rfl rfl ?_)
                      | (refine wpList_store_row rfl 28 (.tmp 2) (.tmp 167) rfl w.heap.size (gArr 0) rfl rfl 28 _ HRT.out (gArr_info 0) rfl (gArr_one 0) ?_))
                    refine bodyPost_ret (results_row_tmp rfl _ _ w.heap.size (gArr 0) (.int .i64 70) rfl rfl HR1.out (gArr_info 0)) rfl ?_
                    exact ⟨fun _ => ⟨rfl, HR2.out⟩, fun G e => by rw [HB.out] at e; cases e⟩
                  | true =>
                    rw [hmay] at CM
                    have HB := Lib.hid (HPY.out hmay)
                    clear HPN HPY hmay
                    go_wp2_with (first
                      | (refine wpList_load_rowG (by first | rfl | kernel_rfl) 28 (.tmp 4) rfl (w.heap.size + 1) rfl 28 _ (0, 0) _ (by first | exact HF1.out | exact HF3.out) Tryz.underlying28 rfl HGI.out ?_)
                      | (go_at_call 36; refine CM.out.mono ?_; rintro e w30 ⟨rfl, hb⟩; have L30 := HLS.out.low hb; have HRT := Lib.hid L30.ret; have HF3 := Lib.hid ((hb.block _ (by have := HLS.out.gt; omega)).trans HF1.out); have RK := Lib.hid (ret_ok L30 (HF2.out.keep (S' := New (w.heap.size + 2) w30) fun k hk => ⟨hb.block k hk.2, hk.1, Nat.lt_of_lt_of_le hk.2 hb.size⟩)); clear hb L30)
                      | (refine wpList_store_row rfl 28 (.tmp 2) (.tmp 168) rfl w.heap.size (grtA G ad) rfl rfl 28 _ HRT.out HGI.out rfl HGO.out ?_))
                    refine bodyPost_ret (results_row_tmp rfl _ _ w.heap.size (grtA G ad) (.int .i64 0) rfl rfl RK.out.1 HGI.out) rfl ?_
                    refine ⟨(fun e => by rw [HB.out] at e; cases e), fun G' e => ?_⟩
                    rw [HB.out] at e
                    obtain rfl := Option.some.inj e
                    exact ⟨ad, rfl, RK.out.2.1, RK.out.2.2, HX3.out⟩
end Go.Proofs.YtiakbmllpnabnaaGreatDoor
