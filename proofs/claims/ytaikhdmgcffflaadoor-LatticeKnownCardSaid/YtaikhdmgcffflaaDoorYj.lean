/- The program's lattice beside the chapter's: what each of their methods answers, of any label; the law's own comparison of both (same). -/
import Derived.Test.YtaikhdmgcffflaaDoorYh
import Derived.Test.YtaikhdmgcffflaaDoorYd
import Derived.Test.YtaikhdmgcffflaaDoorVk
namespace Go.Proofs.YtaikhdmgcffflaaDoor
open Go Go.RowKit

/-- The program's lattice and the chapter's, of the same names and pairs, beside each other. -/
structure Bo (w : World) (bl b o base bn : Nat) (v2 : Value) (An : Option Addr) (cn : Nat) (N : List (List UInt8)) (L : List (Int × Int)) (W : World) : Prop where
  lat : LtS w bl N.length N (ofL (natL L)) W
  ref : RefS W b o base bn v2 An cn N (natL L)
  pos : 0 < w.heap.size
theorem PL.blk {W : World} {b n : Nat} {N : List (List UInt8)} {A : Nat → Nat} (h : PL W b n N A) : ∃ f, Blk W b 76 226 f := by
  rcases h with h | h
  · exact ⟨_, h⟩
  · exact ⟨_, h⟩
theorem Rd.grown {w w' : World} {b off c : Nat} {vs : List Value} (h : Rd w (some ⟨b, off, none⟩) vs) (hg : w.grownBy w' (some c)) (hne : b ≠ c) : Rd w' (some ⟨b, off, none⟩) vs := fun i hi => by
  obtain ⟨b', off', e, hl, hc⟩ := h i hi
  cases e
  refine ⟨b, off, rfl, Nat.lt_of_lt_of_le hl hg.size, ?_⟩
  rw [World.cell?_of_block (hg.block b hl (by simpa using hne))]
  exact hc
section
variable {w W W' : World} {bl b o base bn : Nat} {v2 : Value} {An : Option Addr} {cn : Nat} {N : List (List UInt8)} {L : List (Int × Int)}
theorem Bo.below (h : Bo w bl b o base bn v2 An cn N L W) (hb : Below W.heap.size W W') : Bo w bl b o base bn v2 An cn N L W' := ⟨h.lat.below hb, h.ref.below hb, h.pos⟩
theorem Bo.drewN (h : Bo w bl b o base bn v2 An cn N L W) (q : Nat) : Bo w bl b o base bn v2 An cn N L (W.drewN q) := h.below (below_drewN (Below.refl _ _) q)
theorem Bo.turn (h : Bo w bl b o base bn v2 An cn N L W) (hg : W.grownBy W' (some bl)) (hl : PL W' bl N.length N (ofL (natL L))) : Bo w bl b o base bn v2 An cn N L W' := by
  obtain ⟨f, hf⟩ := h.lat.lat.blk
  exact ⟨h.lat.turn h.pos hg hl, h.ref.turn hf hg, h.pos⟩
/-- An answer, and both lattices as they were. -/
def BoPost (w : World) (bl b o base bn : Nat) (v2 : Value) (An : Option Addr) (cn : Nat) (N : List (List UInt8)) (L : List (Int × Int)) (X : Value) (e : Ending) (W' : World) : Prop := e = .returned X ∧ Bo w bl b o base bn v2 An cn N L W'
theorem LatOK.ga (K : LatOK N L) : 0 < N.length → Good N.length (ofL (natL L)) ∧ Anti (ofL (natL L)) := fun _ => ⟨K.good, K.anti⟩
theorem LatOK.fin (K : LatOK N L) : Fine N.length (natL L) := ⟨K.pos, by have := K.le10; omega, K.took.mem, by rw [natL_len]; exact K.len⟩
theorem LatOK.low (K : LatOK N L) : lowT N.length (leT N.length (ofL (natL L))) = loL N.length (ofL (natL L)) := by rw [lowT_at K.le10, lowR_eq K.good K.anti K.isp]; rfl
theorem LatOK.high (K : LatOK N L) : highT N.length (leT N.length (ofL (natL L))) = hiL N.length (ofL (natL L)) := by rw [highT_at K.le10, highR_eq K.good K.anti K.isp]; rfl

variable (B : Bo w bl b o base bn v2 An cn N L W) (K : LatOK N L)
include B
theorem boMany {z : Int} (h : (N.length : Int) = z) : Calls Tryd.prog 19 #[.pointer (some ⟨bl, 0, none⟩)] W fun e W' => e = .returned (.int .i64 z) ∧ W = W' := by
  obtain ⟨d, j, m, l⟩ := B.lat.lat.some
  subst h
  exact latMany_any bl _ W l.many
theorem boLow {z : Int} (h : ((loL N.length (ofL (natL L)) : Nat) : Int) = z) : Calls Tryd.prog 20 #[.pointer (some ⟨bl, 0, none⟩)] W fun e W' => e = .returned (.int .i64 z) ∧ W = W' := by
  obtain ⟨d, j, m, l⟩ := B.lat.lat.some
  subst h
  exact latLow_any bl _ W l.low
theorem boHigh {z : Int} (h : ((hiL N.length (ofL (natL L)) : Nat) : Int) = z) : Calls Tryd.prog 21 #[.pointer (some ⟨bl, 0, none⟩)] W fun e W' => e = .returned (.int .i64 z) ∧ W = W' := by
  obtain ⟨d, j, m, l⟩ := B.lat.lat.some
  subst h
  exact latHigh_any bl _ W l.high
include K
theorem boLowR {z : Int} (h : ((loL N.length (ofL (natL L)) : Nat) : Int) = z) : Calls Tryd.prog 38 #[.pointer (some ⟨b, 0, none⟩)] W fun e W' => e = .returned (.int .i64 z) ∧ W = W' := by
  subst h
  have := lrLow_any B.ref.lat K.le10
  rw [K.low] at this
  exact this
theorem boHighR {z : Int} (h : ((hiL N.length (ofL (natL L)) : Nat) : Int) = z) : Calls Tryd.prog 39 #[.pointer (some ⟨b, 0, none⟩)] W fun e W' => e = .returned (.int .i64 z) ∧ W = W' := by
  subst h
  have := lrHigh_any B.ref.lat K.le10
  rw [K.high] at this
  exact this
theorem boDecode (c : Int) {z q : Int} (h : (decV N.length (ofL (natL L)) c).1 = z) (h2 : (decV N.length (ofL (natL L)) c).2 = q) : Calls Tryd.prog 12 #[.pointer (some ⟨bl, 0, none⟩), .int .i64 c] W (BoPost w bl b o base bn v2 An cn N L (.tuple #[.int .i64 z, .int .i64 q])) := by
  obtain ⟨d, j, m, l⟩ := B.lat.lat.some
  subst h h2
  exact (latDecode_any l K.le10 c).mono fun _ _ ⟨he, hw⟩ => ⟨he, hw ▸ B⟩
theorem boDecodeR (c : Int) {z q : Int} (h : (decV N.length (ofL (natL L)) c).1 = z) (h2 : (decV N.length (ofL (natL L)) c).2 = q) : Calls Tryd.prog 13 #[.pointer (some ⟨b, 0, none⟩), .int .i64 c] W (BoPost w bl b o base bn v2 An cn N L (.tuple #[.int .i64 z, .int .i64 q])) := by
  subst h h2
  exact (lrDecode_any B.ref.lat B.ref.ord K.fin K.good K.le10 c).mono fun _ _ ⟨he, hb⟩ => ⟨he, B.below hb⟩
theorem boName (a : Int) {s : List UInt8} (h : nameI N.length N a = s) : Calls Tryd.prog 27 #[.pointer (some ⟨bl, 0, none⟩), .int .i64 a] W (BoPost w bl b o base bn v2 An cn N L (.string ⟨s.toArray⟩)) := by
  obtain ⟨d, j, m, l⟩ := B.lat.lat.some
  subst h
  exact (latName_any l K.le10 a).mono fun _ _ ⟨he, hw⟩ => ⟨he, hw ▸ B⟩
theorem boNameR (a : Int) {s : List UInt8} (h : nameI N.length N a = s) : Calls Tryd.prog 40 #[.pointer (some ⟨b, 0, none⟩), .int .i64 a] W (BoPost w bl b o base bn v2 An cn N L (.string ⟨s.toArray⟩)) := by
  have _ := K.le10
  subst h
  exact (lrName_any B.ref.lat rfl B.ref.rd a).mono fun _ _ ⟨he, hw⟩ => ⟨he, hw ▸ B⟩
theorem boFind (y : List UInt8) {z : Int} {q : Bool} (h : (findV N.length N y).1 = z) (h2 : (findV N.length N y).2 = q) : Calls Tryd.prog 10 #[.pointer (some ⟨bl, 0, none⟩), .string ⟨y.toArray⟩] W (BoPost w bl b o base bn v2 An cn N L (.tuple #[.int .i64 z, .bool q])) := by
  obtain ⟨d, j, m, l⟩ := B.lat.lat.some
  subst h h2
  exact (latFind_any l K.le10 y).mono fun _ _ ⟨he, hw⟩ => ⟨he, hw ▸ B⟩
theorem boFindR (y : List UInt8) {z : Int} {q : Bool} (h : (findV N.length N y).1 = z) (h2 : (findV N.length N y).2 = q) : Calls Tryd.prog 11 #[.pointer (some ⟨b, 0, none⟩), .string ⟨y.toArray⟩] W (BoPost w bl b o base bn v2 An cn N L (.tuple #[.int .i64 z, .bool q])) := by
  subst h h2
  exact (lrFind_any B.ref.lat rfl B.ref.rd (by have := K.le10; omega) y).mono fun _ _ ⟨he, hw⟩ => ⟨he, hw ▸ B⟩
theorem boCode (a : Int) {z : Int} (h : ((codeI N.length (ofL (natL L)) a : Nat) : Int) = z) : Calls Tryd.prog 23 #[.pointer (some ⟨bl, 0, none⟩), .int .i64 a] W (BoPost w bl b o base bn v2 An cn N L (.int .i64 z)) := by
  obtain ⟨d, j, m, l⟩ := B.lat.lat.some
  subst h
  exact (latCode_any l K.le10 a).mono fun _ _ ⟨he, hw⟩ => ⟨he, hw ▸ B⟩
theorem boCodeR (a : Int) {z : Int} (h : ((codeI N.length (ofL (natL L)) a : Nat) : Int) = z) : Calls Tryd.prog 37 #[.pointer (some ⟨b, 0, none⟩), .int .i64 a] W (BoPost w bl b o base bn v2 An cn N L (.int .i64 z)) := by
  subst h
  by_cases ha : 0 ≤ a ∧ a < N.length
  · obtain ⟨k, rfl, hk⟩ := isLb_nat ha
    have e : codeI N.length (ofL (natL L)) k = clo (ofL (natL L)) k := by simp [codeI, isLb, hk]
    rw [e]
    exact (lrCode_any B.ref.lat B.ref.ord K.fin K.good K.le10 k hk).mono fun _ _ ⟨he, hb⟩ => ⟨he, B.below hb⟩
  · have e : Hid (codeI N.length (ofL (natL L)) a = 0) := by show _ = _; simp only [codeI, isLb, decide_eq_false ha]; rfl
    have h1 := B.ref.lat.ord
    have con := Lib.hid (refDown_no o N.length a W B.ref.lat.many (by have := K.le10; omega) ha)
    have HB := Lib.hid B
    clear B K ha
    go_enter Tryd.func37, Tryd.ntmps37
    go_wp2_with fail
    refine Calls.mono con.out ?_
    rintro e w' ⟨rfl, rfl⟩
    go_wp2_with fail
    refine wp_loop_rounds 1 ?_
    rw [rounds_succ]
    go_wp2_with fail
    go_ret
    rw [e.out]
    exact ⟨rfl, HB.out⟩
theorem boLeq (a c : Int) {z : Bool} (h : leqI N.length (ofL (natL L)) a c = z) : Calls Tryd.prog 24 #[.pointer (some ⟨bl, 0, none⟩), .int .i64 a, .int .i64 c] W (BoPost w bl b o base bn v2 An cn N L (.bool z)) := by
  obtain ⟨d, j, m, l⟩ := B.lat.lat.some
  subst h
  exact (latLeq_any l (fun _ => K.good) K.le10 a c).mono fun _ _ ⟨he, k, hw⟩ => ⟨he, by rw [hw]; exact B.drewN k⟩
theorem boLeqR (a c : Int) {z : Bool} (h : leqI N.length (ofL (natL L)) a c = z) : Calls Tryd.prog 41 #[.pointer (some ⟨b, 0, none⟩), .int .i64 a, .int .i64 c] W (BoPost w bl b o base bn v2 An cn N L (.bool z)) := by
  subst h
  rw [← leqT_at K.le10]
  exact (lrLeq_any B.ref.lat K.le10 a c).mono fun _ _ ⟨he, hw⟩ => ⟨he, hw ▸ B⟩
theorem boJoin (a c : Int) {z : Int} (h : ((joinI N.length (ofL (natL L)) a c : Nat) : Int) = z) : Calls Tryd.prog 22 #[.pointer (some ⟨bl, 0, none⟩), .int .i64 a, .int .i64 c] W (BoPost w bl b o base bn v2 An cn N L (.int .i64 z)) := by
  subst h
  exact (latJoin_any B.lat.lat K.ga K.le10 a c).mono fun _ _ ⟨he, hg, hl⟩ => ⟨he, B.turn hg hl⟩
theorem boJoinR (a c : Int) {z : Int} (h : ((joinI N.length (ofL (natL L)) a c : Nat) : Int) = z) : Calls Tryd.prog 42 #[.pointer (some ⟨b, 0, none⟩), .int .i64 a, .int .i64 c] W (BoPost w bl b o base bn v2 An cn N L (.int .i64 z)) := by
  subst h
  rw [← twoT_join K.good K.anti K.isp K.le10 (jR_at K.le10)]
  exact (lrJoin_any B.ref.lat K.le10 a c).mono fun _ _ ⟨he, hw⟩ => ⟨he, hw ▸ B⟩
theorem boMeet (a c : Int) {z : Int} (h : ((meetI N.length (ofL (natL L)) a c : Nat) : Int) = z) : Calls Tryd.prog 25 #[.pointer (some ⟨bl, 0, none⟩), .int .i64 a, .int .i64 c] W (BoPost w bl b o base bn v2 An cn N L (.int .i64 z)) := by
  subst h
  exact (latMeet_any B.lat.lat K.ga K.le10 a c).mono fun _ _ ⟨he, hg, hl⟩ => ⟨he, B.turn hg hl⟩
theorem boMeetR (a c : Int) {z : Int} (h : ((meetI N.length (ofL (natL L)) a c : Nat) : Int) = z) : Calls Tryd.prog 43 #[.pointer (some ⟨b, 0, none⟩), .int .i64 a, .int .i64 c] W (BoPost w bl b o base bn v2 An cn N L (.int .i64 z)) := by
  subst h
  rw [← twoT_meet K.good K.anti K.isp K.le10 (mR_at K.le10)]
  exact (lrMeet_any B.ref.lat K.le10 a c).mono fun _ _ ⟨he, hw⟩ => ⟨he, hw ▸ B⟩
theorem boAll (a c : Int) (t : TypeId) {z : Int} (h : ((jAll N.length (ofL (natL L)) [a, c, 0] : Nat) : Int) = z) : Calls Tryd.prog 26 #[.pointer (some ⟨bl, 0, none⟩), .slice (some ⟨W.heap.size, 0, none⟩) 3 3] (W.alloc (.cells #[.int .i64 a, .int .i64 c, .int .i64 0] t)) (BoPost w bl b o base bn v2 An cn N L (.int .i64 z)) := by
  subst h
  have hlt := B.lat.lat.lt
  have B2 := B.below (below_new W (.cells #[.int .i64 a, .int .i64 c, .int .i64 0] t))
  have R2 : Rd (W.alloc (.cells #[.int .i64 a, .int .i64 c, .int .i64 0] t)) (some ⟨W.heap.size, 0, none⟩) (lv [a, c, 0]) := Rd.made W (lv [a, c, 0]) t
  exact (latJoinAll_any B2.lat.lat K.ga K.le10 _ 3 [a, c, 0] (fun w' hg => R2.grown hg (by omega)) (by simp)).mono fun _ _ ⟨he, hg, hl⟩ => ⟨he, B2.turn hg hl⟩
theorem boAllR (a c : Int) (t : TypeId) {z : Int} (h : ((jAll N.length (ofL (natL L)) [a, c, 0] : Nat) : Int) = z) : Calls Tryd.prog 44 #[.pointer (some ⟨b, 0, none⟩), .slice (some ⟨W.heap.size, 0, none⟩) 3 3] (W.alloc (.cells #[.int .i64 a, .int .i64 c, .int .i64 0] t)) (BoPost w bl b o base bn v2 An cn N L (.int .i64 z)) := by
  subst h
  have B2 := B.below (below_new W (.cells #[.int .i64 a, .int .i64 c, .int .i64 0] t))
  have R2 : Rd (W.alloc (.cells #[.int .i64 a, .int .i64 c, .int .i64 0] t)) (some ⟨W.heap.size, 0, none⟩) (lv [a, c, 0]) := Rd.made W (lv [a, c, 0]) t
  rw [← allT_jAll K.good K.anti K.isp K.le10 (jR_at K.le10)]
  exact (lrJoinAll_any B2.ref.lat K.le10 _ 3 [a, c, 0] R2 (by simp)).mono fun _ _ ⟨he, hw⟩ => ⟨he, hw ▸ B2⟩
end

section
variable {w W : World} {bl b o base bn : Nat} {v2 : Value} {An : Option Addr} {cn : Nat} {N : List (List UInt8)} {L : List (Int × Int)}
set_option maxHeartbeats 4000000 in
set_option maxRecDepth 100000 in
theorem lsame_any (B : Bo w bl b o base bn v2 An cn N L W) (K : LatOK N L) :
    Calls Tryd.prog 14 #[.pointer (some ⟨bl, 0, none⟩), .pointer (some ⟨b, 0, none⟩)] W (BoPost w bl b o base bn v2 An cn N L (.bool true)) := by
  have hn := K.le10
  have h1 := B.ref.lat.ord
  have h2 := B.ref.lat.many
  have hnn : ((N.length : Int) != N.length) = false := by simp
  obtain ⟨zl, hzl⟩ : ∃ z, ((loL N.length (ofL (natL L)) : Nat) : Int) = z := ⟨_, rfl⟩
  obtain ⟨zh, hzh⟩ : ∃ z, ((hiL N.length (ofL (natL L)) : Nat) : Int) = z := ⟨_, rfl⟩
  have el : (zl != zl) = false := by simp
  have eh : (zh != zh) = false := by simp
  have Bd := Lib.hid (B.drewN 1)
  have HL := Lib.hid hzl
  have HH := Lib.hid hzh
  clear B hzl hzh
  go_enter Tryd.func14, Tryd.ntmps14
  go_wp2_with fail
  go_region_held3 (fun w' => w'.cell? ⟨b, 1, none⟩ = some (.pointer (some ⟨o, 0, none⟩)) ∧ w'.cell? ⟨o, 0, none⟩ = some (.int .i64 (N.length : Nat))) (go_keep)
    (first
      | (go_at_call 19; refine Calls.mono (boMany Bd.out rfl) ?_; rintro e w' ⟨rfl, rfl⟩)
      | (go_at_call 20; refine Calls.mono (boLow Bd.out HL.out) ?_; rintro e w' ⟨rfl, rfl⟩)
      | (go_at_call 38; refine Calls.mono (boLowR Bd.out K HL.out) ?_; rintro e w' ⟨rfl, rfl⟩)
      | (go_at_call 21; refine Calls.mono (boHigh Bd.out HH.out) ?_; rintro e w' ⟨rfl, rfl⟩)
      | (go_at_call 39; refine Calls.mono (boHighR Bd.out K HH.out) ?_; rintro e w' ⟨rfl, rfl⟩))
  have B1 := Bd.out
  clear h1 h2 HL HH Bd el eh hnn
  generalize W.drewN 1 = w1 at *
  go_wp2_with fail
  go_loopw [6] (fun i wr => ∃ x : Int, -1 ≤ x ∧ x ≤ N.length + 1 ∧ i = .int .i64 x ∧ Bo w bl b o base bn v2 An cn N L wr) (fun i _ => ((N.length : Int) + 1 - intOf i).toNat)
  case atStart => exact ⟨-1, by omega, by omega, rfl, B1⟩
  case round =>
    obtain ⟨x, hx1, hx2, rfl, Bx⟩ := hrel
    clear B1
    by_cases hxn : x ≤ N.length
    · obtain ⟨d1, hd1⟩ : ∃ z, (decV N.length (ofL (natL L)) x).1 = z := ⟨_, rfl⟩
      obtain ⟨d2, hd2⟩ : ∃ z, (decV N.length (ofL (natL L)) x).2 = z := ⟨_, rfl⟩
      obtain ⟨s, hs⟩ : ∃ s, nameI N.length N x = s := ⟨_, rfl⟩
      obtain ⟨c, hc⟩ : ∃ z, ((codeI N.length (ofL (natL L)) x : Nat) : Int) = z := ⟨_, rfl⟩
      have D1 := Lib.hid hd1
      have D2 := Lib.hid hd2
      have HS := Lib.hid hs
      have HC := Lib.hid hc
      have e1 : (d1 != d1) = false := by simp
      have e2 : (d2 != d2) = false := by simp
      have e3 : (c != c) = false := by simp
      clear hd1 hd2 hs hc
      have con := Lib.hid (boDecode Bx K x D1.out D2.out)
      clear Bx
      go_wp2_with fail
      refine Calls.mono con.out ?_
      rintro e w2 ⟨rfl, B2⟩
      have con := Lib.hid (boDecodeR B2 K x D1.out D2.out)
      clear B2
      go_wp2_with fail
      refine Calls.mono con.out ?_
      rintro e w3 ⟨rfl, B3⟩
      have con := Lib.hid (boName B3 K x HS.out)
      clear B3
      go_wp2_with fail
      refine Calls.mono con.out ?_
      rintro e w4 ⟨rfl, B4⟩
      have con := Lib.hid (boNameR B4 K x HS.out)
      clear B4
      go_wp2_with fail
      refine Calls.mono con.out ?_
      rintro e w5 ⟨rfl, B5⟩
      have con := Lib.hid (boCode B5 K x HC.out)
      clear B5
      go_wp2_with fail
      refine Calls.mono con.out ?_
      rintro e w6 ⟨rfl, B6⟩
      have con := Lib.hid (boCodeR B6 K x HC.out)
      clear B6
      go_wp2_with fail
      refine Calls.mono con.out ?_
      rintro e w7 ⟨rfl, B7⟩
      clear con
      go_wp2_with fail
      go_loopw [11] (fun i wr => ∃ y : Int, -1 ≤ y ∧ y ≤ N.length + 1 ∧ i = .int .i64 y ∧ Bo w bl b o base bn v2 An cn N L wr) (fun i _ => ((N.length : Int) + 1 - intOf i).toNat)
      case atStart => exact ⟨-1, by omega, by omega, rfl, B7⟩
      case round =>
        obtain ⟨y, hy1, hy2, rfl, By⟩ := hrel
        clear B7 D1 D2 HS HC e1 e2 e3
        by_cases hyn : y ≤ N.length
        · obtain ⟨p, hp⟩ : ∃ z, leqI N.length (ofL (natL L)) x y = z := ⟨_, rfl⟩
          obtain ⟨j, hj⟩ : ∃ z, ((joinI N.length (ofL (natL L)) x y : Nat) : Int) = z := ⟨_, rfl⟩
          obtain ⟨m, hm⟩ : ∃ z, ((meetI N.length (ofL (natL L)) x y : Nat) : Int) = z := ⟨_, rfl⟩
          obtain ⟨q, hq⟩ : ∃ z, ((jAll N.length (ofL (natL L)) [x, y, 0] : Nat) : Int) = z := ⟨_, rfl⟩
          have HP := Lib.hid hp
          have HJ := Lib.hid hj
          have HM := Lib.hid hm
          have HQ := Lib.hid hq
          have e1 : (p != p) = false := by simp
          have e2 : (j != j) = false := by simp
          have e3 : (m != m) = false := by simp
          have e4 : (q != q) = false := by simp
          clear hp hj hm hq
          have con := Lib.hid (boLeq By K x y HP.out)
          clear By
          go_wp2_with fail
          refine Calls.mono con.out ?_
          rintro e w2 ⟨rfl, B2⟩
          have con := Lib.hid (boLeqR B2 K x y HP.out)
          clear B2
          go_wp2_with fail
          refine Calls.mono con.out ?_
          rintro e w3 ⟨rfl, B3⟩
          have con := Lib.hid (boJoin B3 K x y HJ.out)
          clear B3
          go_wp2_with fail
          refine Calls.mono con.out ?_
          rintro e w4 ⟨rfl, B4⟩
          have con := Lib.hid (boJoinR B4 K x y HJ.out)
          clear B4
          go_wp2_with fail
          refine Calls.mono con.out ?_
          rintro e w5 ⟨rfl, B5⟩
          have con := Lib.hid (boMeet B5 K x y HM.out)
          clear B5
          go_wp2_with fail
          refine Calls.mono con.out ?_
          rintro e w6 ⟨rfl, B6⟩
          have con := Lib.hid (boMeetR B6 K x y HM.out)
          clear B6
          go_wp2_with fail
          refine Calls.mono con.out ?_
          rintro e w7 ⟨rfl, B7⟩
          have con := Lib.hid (fun t => boAll B7 K x y t HQ.out)
          clear B7
          go_wp2_with fail
          refine Calls.mono (con.out _) ?_
          rintro e w8 ⟨rfl, B8⟩
          have con := Lib.hid (fun t => boAllR B8 K x y t HQ.out)
          clear B8
          go_wp2_with fail
          refine Calls.mono (con.out _) ?_
          rintro e w9 ⟨rfl, B9⟩
          clear con HP HJ HM HQ
          go_wp2_with fail
          go_roundw
          case rel => exact ⟨y + 1, by omega, by omega, by go_num, B9⟩
          case measure => simp [intOf]; omega
        · go_wp2_with fail
          go_roundw
          case rel => exact ⟨x + 1, by omega, by omega, by go_num, By⟩
          case measure => simp [intOf]; omega
    · go_wp2_with fail
      go_ret
      exact ⟨rfl, Bx⟩
end
end Go.Proofs.YtaikhdmgcffflaaDoor
