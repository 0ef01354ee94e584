/- The range function over headers: what it hands to each loop over it. -/
import Derived.Test.YthniggdimfldhaaGreatDoorHj
import Derived.RangeFuncNested
import Derived.RangeFuncBound
import Derived.RangeFuncCalls
import Derived.RangeFuncLeaves
import Derived.Shelf.Abstract
import Derived.Shelf.RegionOpen
import Derived.OwnWalkIn
import Derived.TacticsInMore
import Derived.LoopNIn
import Derived.LoopIn
namespace Go.Proofs.YthniggdimfldhaaGreatDoor
open Go Go.RowKit Go.Shelf
attribute [local go_sem] Oper.semAt_some

/-- Blocks of a set lie as they lay. -/
structure KeptOn (S : Nat → Prop) (W W' : World) : Prop where
  size : W.heap.size ≤ W'.heap.size
  same : ∀ k, S k → k < W.heap.size → W'.heap[k]? = W.heap[k]?
theorem KeptOn.refl (S : Nat → Prop) (W : World) : KeptOn S W W := ⟨Nat.le_refl _, fun _ _ _ => rfl⟩
theorem KeptOn.trans {S : Nat → Prop} {X Y Z : World} (h : KeptOn S X Y) (k : KeptOn S Y Z) : KeptOn S X Z := ⟨Nat.le_trans h.size k.size, fun i hi hl => (k.same i hi (Nat.lt_of_lt_of_le hl h.size)).trans (h.same i hi hl)⟩
theorem keptOn_below {S : Nat → Prop} {n : Nat} {W W' : World} (hS : ∀ k, S k → k < n) (hb : Below n W W') : KeptOn S W W' := ⟨hb.size, fun k hk _ => hb.block k (hS k hk)⟩
theorem keptOn_new {S : Nat → Prop} {W W' : World} (hb : Below W.heap.size W W') : KeptOn S W W' := ⟨hb.size, fun k _ hl => hb.block k hl⟩
theorem keptOn_put {S : Nat → Prop} {n : Nat} (hS : ∀ k, S k → k < n) (W : World) (l : Nat) (o o' : Obj) (hl : n ≤ l) (_ : W.heap[l]? = some o) (_ : o.isCells = false) (_ : o.isWalk = false) : KeptOn S W (W.putObj l o') :=
  ⟨by simp, fun k hk _ => World.putObj_heap_other (fun e => by have := hS k hk; omega)⟩
theorem keptOn_cell {S : Nat → Prop} {W W' : World} (h : KeptOn S W W') {b : Nat} (hb : S b) (hl : b < W.heap.size) (j : Nat) : W'.cell? ⟨b, j, none⟩ = W.cell? ⟨b, j, none⟩ := cell_heap (h.same b hb hl) j

/-- What stands in memory while headers are gone through: the slice's box, the test's box, the box that the test reads, the headers; in blocks of 'S'. -/
structure SuchSt (S : Nat → Prop) (Bl Bi bx : Nat) (A : Option Addr) (c : Nat) (L : List Hd) (fv nm : Value) (W : World) : Prop where
  le : ∀ k, S k → k < W.heap.size
  l1 : S Bl
  l2 : S Bi
  l3 : S bx
  bl : W.cell? ⟨Bl, 0, none⟩ = some (.slice A L.length c)
  bi : W.cell? ⟨Bi, 0, none⟩ = some fv
  nx : W.cell? ⟨bx, 0, none⟩ = some nm
  rd : ∀ i (hi : i < (hv L).length), ∃ b off, A = some ⟨b, off, none⟩ ∧ S b ∧ W.cell? ⟨b, off + i, none⟩ = some (hv L)[i]
section
variable {S : Nat → Prop} {Bl Bi bx : Nat} {A : Option Addr} {c : Nat} {L : List Hd} {fv nm : Value} {W W' : World}
theorem SuchSt.below (h : SuchSt S Bl Bi bx A c L fv nm W) (hb : KeptOn S W W') : SuchSt S Bl Bi bx A c L fv nm W' :=
  ⟨fun k hk => Nat.lt_of_lt_of_le (h.le k hk) hb.size, h.l1, h.l2, h.l3, (keptOn_cell hb h.l1 (h.le _ h.l1) 0).trans h.bl, (keptOn_cell hb h.l2 (h.le _ h.l2) 0).trans h.bi, (keptOn_cell hb h.l3 (h.le _ h.l3) 0).trans h.nx, fun i hi => by
    obtain ⟨b, off, e, hl, hc⟩ := h.rd i hi
    exact ⟨b, off, e, hl, (keptOn_cell hb hl (h.le _ hl) _).trans hc⟩⟩
theorem SuchSt.fresh (h : SuchSt S Bl Bi bx A c L fv nm W) (hb : Below W.heap.size W W') : SuchSt S Bl Bi bx A c L fv nm W' := h.below (keptOn_new hb)
theorem SuchSt.read (h : SuchSt S Bl Bi bx A c L fv nm W) : Rd W A (hv L) := fun i hi => by
  obtain ⟨b, off, e, hl, hc⟩ := h.rd i hi
  exact ⟨b, off, e, h.le _ hl, hc⟩
end

def suchL (L : List Hd) (p : List UInt8 → Bool) : List Hd := L.filter fun h => p h.1
/-- What a loop over headers is handed: a header of a size that a machine has. -/
abbrev HdS := { x : Hd // x.1.length ≤ 1000 ∧ x.2.length ≤ 1000 }
def encH (x : HdS) : Array Value := #[.agg #[.string ⟨x.1.1.toArray⟩, .string ⟨x.1.2.toArray⟩]]
def unS (l : List HdS) : List Hd := l.map (·.1)
theorem unS_len (l : List HdS) : (unS l).length = l.length := List.length_map _
theorem unS_snoc (l : List HdS) (x : HdS) : unS (l ++ [x]) = unS l ++ [x.1] := by simp [unS]
theorem suchL_yes {L : List Hd} {p : List UInt8 → Bool} {k : Nat} (hk : k < L.length) (h : p L[k].1 = true) : suchL (L.take (k + 1)) p = suchL (L.take k) p ++ [(L[k].1, L[k].2)] := filter_yes hk h
theorem suchL_no {L : List Hd} {p : List UInt8 → Bool} {k : Nat} (hk : k < L.length) (h : p L[k].1 = false) : suchL (L.take (k + 1)) p = suchL (L.take k) p := filter_no hk h
theorem suchL_pre (L : List Hd) (p : List UInt8 → Bool) (k : Nat) : suchL (L.take k) p <+: suchL L p := (List.take_prefix k L).filter _

set_option maxRecDepth 100000 in
set_option maxHeartbeats 2000000 in
theorem such1_in (n : Nat) (hn : 1 ≤ n) (l Bl Bi bx fid : Nat) (S : Nat → Prop) (A : Option Addr) (c : Nat) (L : List Hd) (nm : Value) (p : List UInt8 → Bool) (hS : Sm L)
    (eg : ∀ args w, (callFunc fid args).run Tryz.prog w = .ok (.enter fid args) w)
    (hp : ∀ z : List UInt8, z.length ≤ 1000 → ∀ W, W.cell? ⟨bx, 0, none⟩ = some nm → Calls Tryz.prog fid #[.string ⟨z.toArray⟩, .pointer (some ⟨bx, 0, none⟩)] W fun e W' => e = .returned (.bool (p z)) ∧ Below W.heap.size W W')
    (J Jx : List HdS → World → Prop) (W : World) (hJ : ∀ pre W W', J pre W → W.grownBy W' none → J pre W')
    (hY : ∀ pre x W, J pre W → pre.length < (suchL L p).length → YieldAt Fence.wide (n - 1) Tryz.prog l (encH x) W fun e W' =>
      (e = .returned (.bool true) ∧ J (pre ++ [x]) W' ∧ KeptOn S W W') ∨ (e = .returned (.bool false) ∧ Jx (pre ++ [x]) W'))
    (hst : SuchSt S Bl Bi bx A c L (.func (.func fid) #[] #[.pointer (some ⟨bx, 0, none⟩)]) nm W) (h0 : J [] W) :
    CallsIn Fence.wide n Tryz.prog 76 #[.func (.yield l) #[] #[], .pointer (some ⟨Bl, 0, none⟩), .pointer (some ⟨Bi, 0, none⟩)] W fun e W' => (∃ v, e = .returned v) ∧
      ((∃ ys, unS ys = suchL L p ∧ J ys W') ∨ (∃ pre, unS pre <+: suchL L p ∧ Jx pre W')) := by
  obtain ⟨hn1, hsz⟩ := hS
  have HS := Lib.hid hsz
  have HP := Lib.hid hp
  have HJ := Lib.hid hJ
  have HY := Lib.hid hY
  clear hsz hp hJ hY
  have hbl := hst.bl
  refine callsIn_of_wp Tryz.func76 rfl trivial ?_ rfl
  simp only [Tryz.ntmps76, List.size_toArray, List.length_cons, List.length_nil, Nat.reduceAdd, Nat.reduceSub, Array.replicate_succ, Array.replicate_zero, List.push_toArray, List.append_toArray, List.nil_append, List.cons_append]
  gi_wp2
  gi_loopw [8] (fun i wr => ∃ k : Nat, k ≤ L.length ∧ i = .int .i64 k ∧ SuchSt S Bl Bi bx A c L (.func (.func fid) #[] #[.pointer (some ⟨bx, 0, none⟩)]) nm wr ∧ ∃ pre, Hid (unS pre = suchL (L.take k) p) ∧ J pre wr)
    (fun i _ => L.length - (intOf i).toNat)
  case atStart =>
    exact ⟨0, Nat.zero_le _, rfl, hst, [], rfl, h0⟩
  case round =>
    obtain ⟨k, hk, rfl, hs, pre, hpe, hJ⟩ := hrel
    clear hbl
    by_cases hlt : k < L.length
    · obtain ⟨b, o, rfl, hbl, h1, h2⟩ := hs.read.head k hlt
      obtain ⟨z1, z2⟩ := HS.out L[k] (List.getElem_mem hlt)
      have i1 : (0 : Int) ≤ k := by omega
      have i2 : (k : Int) < L.length := by omega
      have hY := HY.out pre ⟨(L[k].1, L[k].2), z1, z2⟩
      have hst1 := @suchL_yes L p k hlt
      have hst2 := @suchL_no L p k hlt
      have con := HP.out L[k].1 z1
      have W2 : ∀ P Q : ByteArray, SuchSt S Bl Bi bx (some ⟨b, o, none⟩) c L (.func (.func fid) #[] #[.pointer (some ⟨bx, 0, none⟩)]) nm (wr.alloc (.cells #[.string P, .string Q] 41)) ∧ J pre (wr.alloc (.cells #[.string P, .string Q] 41)) :=
        fun P Q => ⟨hs.fresh (below_new _ _), HJ.out _ _ _ hJ (World.grownBy_alloc _ _ none)⟩
      have HY2 := Lib.hid hY
      have HT1 := Lib.hid hst1
      have HT2 := Lib.hid hst2
      have HC := Lib.hid con
      clear hY hst1 hst2 con hs hJ
      generalize L[k].1 = y at *
      generalize L[k].2 = z at *
      obtain ⟨s2, j2⟩ := W2 ⟨y.toArray⟩ ⟨z.toArray⟩
      obtain ⟨c1, c2⟩ := alloc_head wr (.string ⟨y.toArray⟩) (.string ⟨z.toArray⟩)
      have bi := s2.bi
      have hlw : wr.heap.size < (wr.alloc (.cells #[.string ⟨y.toArray⟩, .string ⟨z.toArray⟩] 41)).heap.size := by simp
      clear W2
      gi_wp2_with fail
      generalize wr.alloc (.cells #[.string ⟨y.toArray⟩, .string ⟨z.toArray⟩] 41) = w2 at *
      refine ⟨trivial, (callsIn_wide.2 (HC.out _ s2.nx)).mono ?_⟩
      rintro e w3 ⟨rfl, b3⟩
      have s3 := s2.fresh b3
      have j3 := HJ.out _ _ _ j2 (grownBy_below b3 none)
      have d1 := (b3.cell (p := ⟨wr.heap.size, 0, none⟩) hlw).trans c1
      have d2 := (b3.cell (p := ⟨wr.heap.size, 1, none⟩) hlw).trans c2
      clear c1 c2 bi s2 j2
      have hwr : IntKind.i64.wrap ((k : Int) + 1) = (k : Int) + 1 := by
        rw [IntKind.wrap_i64]
        omega
      cases hq : p y with
      | false =>
        have H2 := Lib.hid (HT2.out hq)
        clear hq HT1 HT2
        gi_wp2_with (refine ⟨fun f (h : none = some f) => (by cases h), ?_⟩)
        go_roundw
        case rel => exact ⟨k + 1, by omega, by go_num, s3, pre, by rw [H2.out]; exact hpe, j3⟩
        case measure => simp [intOf]; omega
      | true =>
        have H1 := HT1.out hq
        have hlen : pre.length < (suchL L p).length := by
          have := (suchL_pre L p (k + 1)).length_le
          rw [H1, List.length_append, ← hpe.out, unS_len] at this
          exact this
        have hpe' : Hid (unS (pre ++ [⟨(y, z), z1, z2⟩]) = suchL (L.take (k + 1)) p) := by
          show _ = _
          rw [H1, unS_snoc, hpe.out]
        have hpre := suchL_pre L p (k + 1)
        have H1 := Lib.hid H1
        have HPR := Lib.hid hpre
        obtain ⟨fn, tmps, assign, body, hy, hR⟩ := HY2.out w3 j3 hlen
        dsimp only [encH] at hy
        clear hq HT1 HT2 hlen hpre
        gi_wp2
        refine hR.mono ?_
        rintro e w4 (⟨rfl, hJ4, hk4⟩ | ⟨rfl, hJx⟩)
        · gi_wp2
          go_roundw
          case rel => exact ⟨k + 1, by omega, by go_num, s3.below hk4, _, hpe', hJ4⟩
          case measure => simp [intOf]; omega
        · gi_wp2
          refine bodyPost_ret (results_none rfl _ _ _) rfl ?_
          exact ⟨⟨_, rfl⟩, .inr ⟨_, by rw [hpe'.out]; exact HPR.out, hJx⟩⟩
    · rw [List.take_of_length_le (by omega)] at hpe
      gi_wp2
      go_end0
      exact ⟨⟨_, rfl⟩, .inl ⟨pre, hpe.out, hJ⟩⟩

/-- The range function: all headers whose names the test takes, in order; or a part of them, if a round says so. -/
theorem such_stops (n : Nat) (hn : 1 ≤ n) (Bl Bi bx fid : Nat) (S : Nat → Prop) (A : Option Addr) (c : Nat) (L : List Hd) (nm : Value) (p : List UInt8 → Bool) (hS : Sm L)
    (eg : ∀ args w, (callFunc fid args).run Tryz.prog w = .ok (.enter fid args) w)
    (hp : ∀ z : List UInt8, z.length ≤ 1000 → ∀ W, W.cell? ⟨bx, 0, none⟩ = some nm → Calls Tryz.prog fid #[.string ⟨z.toArray⟩, .pointer (some ⟨bx, 0, none⟩)] W fun e W' => e = .returned (.bool (p z)) ∧ Below W.heap.size W W')
    (w : World) (hst : SuchSt S Bl Bi bx A c L (.func (.func fid) #[] #[.pointer (some ⟨bx, 0, none⟩)]) nm w) :
    SeqStopsK Fence.wide n Tryz.prog 76 #[.pointer (some ⟨Bl, 0, none⟩), .pointer (some ⟨Bi, 0, none⟩)] encH (KeptOn S) (fun ys => unS ys = suchL L p) (fun pre => unS pre <+: suchL L p) (suchL L p).length w := fun l J Jx W hW hJ _ hY h0 =>
  such1_in n hn l Bl Bi bx fid S A c L nm p hS eg hp J Jx W (fun pre W W' h hg => hJ pre W W' none h hg (fun r e => by cases e)) hY (hst.fresh hW) h0
end Go.Proofs.YthniggdimfldhaaGreatDoor
