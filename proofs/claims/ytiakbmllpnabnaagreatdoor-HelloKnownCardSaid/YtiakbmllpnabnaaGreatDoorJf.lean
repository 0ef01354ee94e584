/- A greeting in memory; the chapter's May. -/
import Derived.Test.YtiakbmllpnabnaaGreatDoorJb
namespace Go.Proofs.YtiakbmllpnabnaaGreatDoor
open Go Go.RowKit

def cellR (l : List UInt8) (i : Nat) : Value := .int .u8 ((l.getD i 0).toNat : Int)
/-- where a greeting's rows stand -/
structure Adr where
  a1 : Option Addr
  c1 : Nat
  a2 : Option Addr
  c2 : Nat
  a3 : Option Addr
  c3 : Nat
  a4 : Option Addr
  c4 : Nat
abbrev grtA (g : Grt) (a : Adr) : Array Value := #[.int .i64 g.minor, cellR g.rnd 0, cellR g.rnd 1, cellR g.rnd 2, cellR g.rnd 3, cellR g.rnd 4, cellR g.rnd 5, cellR g.rnd 6, cellR g.rnd 7, cellR g.rnd 8, cellR g.rnd 9, cellR g.rnd 10, cellR g.rnd 11, cellR g.rnd 12, cellR g.rnd 13, cellR g.rnd 14, cellR g.rnd 15, cellR g.rnd 16, cellR g.rnd 17, cellR g.rnd 18, cellR g.rnd 19, cellR g.rnd 20, cellR g.rnd 21, cellR g.rnd 22, cellR g.rnd 23, cellR g.rnd 24, cellR g.rnd 25, cellR g.rnd 26, cellR g.rnd 27, cellR g.rnd 28, cellR g.rnd 29, cellR g.rnd 30, cellR g.rnd 31, .slice a.a1 g.ses.length a.c1, .slice a.a2 g.suites.length a.c2, .slice a.a3 g.meth.length a.c3, .string ⟨g.host.toArray⟩, .int .i64 g.pos, .slice a.a4 g.exts.length a.c4]
def NumsIn (D : Nat) (w : World) (A : Option Addr) (l : List Int) : Prop :=
  ∀ i (hi : i < l.length), ∃ b off, A = some ⟨b, off, none⟩ ∧ b < D ∧ w.cell? ⟨b, off + i, none⟩ = some (.int .i64 l[i])
theorem NumsIn.keep {D D' : Nat} {w w' : World} {A : Option Addr} {l : List Int} (h : NumsIn D w A l) (hb : ∀ k, k < D → w'.heap[k]? = w.heap[k]?) (hD : D ≤ D') : NumsIn D' w' A l := fun i hi => by
  obtain ⟨b, off, e, hl, h1⟩ := h i hi
  refine ⟨b, off, e, Nat.lt_of_lt_of_le hl hD, Eq.trans ?_ h1⟩
  unfold World.cell?
  rw [hb b hl]
/-- a greeting that stands in memory -/
structure GrV (D : Nat) (w : World) (g : Grt) (a : Adr) : Prop where
  ses : Rb D w a.a1 a.c1 g.ses
  sui : NumsIn D w a.a2 g.suites
  met : Rb D w a.a3 a.c3 g.meth
  ext : ExtsIn D w a.a4 g.exts
  sl : g.ses.length ≤ 1000000
  ul : g.suites.length ≤ 1000000
  ml : g.meth.length ≤ 1000000
  hl : g.host.length ≤ 1000000
  xl : g.exts.length ≤ 1000000
  rl : g.rnd.length = 32
theorem GrV.keep {D D' : Nat} {w w' : World} {g : Grt} {a : Adr} (h : GrV D w g a) (hb : ∀ k, k < D → w'.heap[k]? = w.heap[k]?) (hD : D ≤ D') : GrV D' w' g a :=
  ⟨(h.ses.keep hb).mono hD, h.sui.keep hb hD, (h.met.keep hb).mono hD, h.ext.keep hb hD, h.sl, h.ul, h.ml, h.hl, h.xl, h.rl⟩
theorem GrV.below {w w' : World} {g : Grt} {a : Adr} (h : GrV w.heap.size w g a) (hb : Below w.heap.size w w') : GrV w'.heap.size w' g a := h.keep (fun k hk => hb.block k hk) hb.size
theorem suitesOk_at {l : List Int} {k : Nat} (h : k < l.length) (hb : l[k] < 0 ∨ 65535 < l[k]) : suitesOk l = false := by
  cases e : suitesOk l with
  | false => rfl
  | true =>
    have := List.all_eq_true.1 e l[k] (List.getElem_mem h)
    rw [Bool.and_eq_true, decide_eq_true_iff, decide_eq_true_iff] at this
    omega
theorem suitesOk_all {l : List Int} (h : ∀ k (hk : k < l.length), 0 ≤ l[k] ∧ l[k] ≤ 65535) : suitesOk l = true := by
  refine List.all_eq_true.2 fun z hz => ?_
  obtain ⟨k, hk, rfl⟩ := List.getElem_of_mem hz
  rw [Bool.and_eq_true, decide_eq_true_iff, decide_eq_true_iff]
  exact h k hk
theorem box7 (w wx : World) (g : Grt) (a : Adr) (hb : Below (w.alloc (.cells (grtA g a) 28)).heap.size (w.alloc (.cells (grtA g a) 28)) wx) :
    wx.cell? ⟨w.heap.size, 34, none⟩ = some (.slice a.a2 g.suites.length a.c2) ∧ wx.cell? ⟨w.heap.size, 37, none⟩ = some (.int .i64 g.pos) ∧ wx.cell? ⟨w.heap.size, 38, none⟩ = some (.slice a.a4 g.exts.length a.c4) := by
  have hl : w.heap.size < (w.alloc (.cells (grtA g a) 28)).heap.size := by simp
  exact ⟨(hb.cell (p := ⟨w.heap.size, 34, none⟩) hl).trans (by rw [World.cell?_alloc_at _ _ _ _ rfl]; rfl), (hb.cell (p := ⟨w.heap.size, 37, none⟩) hl).trans (by rw [World.cell?_alloc_at _ _ _ _ rfl]; rfl), (hb.cell (p := ⟨w.heap.size, 38, none⟩) hl).trans (by rw [World.cell?_alloc_at _ _ _ _ rfl]; rfl)⟩
set_option maxRecDepth 100000 in
set_option maxHeartbeats 1000000 in
theorem may_ref7 {w : World} {g : Grt} {a : Adr} (h : GrV w.heap.size w g a) : Calls Tryz.prog 36 #[.agg (grtA g a)] w (BoolP (mayG g) w) := by
  have HV := Lib.hid fun (w' : World) (hb : Below w.heap.size w w') => h.below hb
  have HU : Hid (g.suites.length ≤ 1000000) := Lib.hid h.ul
  have HM : Hid (mayG g = (decide (0 ≤ g.minor) && decide (g.minor ≤ 4) && decide (g.ses.length ≤ 32) && decide (1 ≤ g.suites.length) && decide (g.suites.length ≤ 16384) && methOk g.meth && isH g.host && extsOk g.exts g.pos && suitesOk g.suites)) := Lib.hid rfl
  have C1 : Hid (∀ w', Below w.heap.size w w' → Calls Tryz.prog 51 #[.slice a.a3 g.meth.length a.c3] w' fun e w'' => e = .returned (.bool (methOk g.meth)) ∧ w' = w'') := Lib.hid fun w' hb => plain_ref7 (HV.out w' hb).met rfl h.ml
  have C2 : Hid (∀ w', Calls Tryz.prog 52 #[.string ⟨g.host.toArray⟩] w' (BoolP (isH g.host) w')) := Lib.hid fun w' => isHost_ref7 ⟨g.host.toArray⟩ w' h.hl
  have C3 : Hid (∀ w', Below w.heap.size w w' → Calls Tryz.prog 53 #[.slice a.a4 g.exts.length a.c4, .int .i64 g.pos] w' (BoolP (extsOk g.exts g.pos) w')) := Lib.hid fun w' hb => exts_ref7 (HV.out w' hb).ext rfl h.xl g.pos
  have HN := Lib.hid fun (w' : World) (hb : Below w.heap.size w w') => (HV.out w' hb).sui
  clear h HV
  unfold BoolP at *
  obtain ⟨mi, rnd, ses, su, me, ho, pos, ex⟩ := g
  obtain ⟨a1, k1, a2, k2, a3, k3, a4, k4⟩ := a
  dsimp only at *
  generalize mayG ⟨mi, rnd, ses, su, me, ho, pos, ex⟩ = R at *
  generalize methOk me = b1 at *
  generalize isH ho = b2 at *
  generalize extsOk ex pos = b3 at *
  have HB := Lib.hid (below_new w (.cells (grtA ⟨mi, rnd, ses, su, me, ho, pos, ex⟩ ⟨a1, k1, a2, k2, a3, k3, a4, k4⟩) 28))
  have HK := Lib.hid fun (wx : World) (hb : Below (w.alloc (.cells (grtA ⟨mi, rnd, ses, su, me, ho, pos, ex⟩ ⟨a1, k1, a2, k2, a3, k3, a4, k4⟩) 28)).heap.size (w.alloc (.cells (grtA ⟨mi, rnd, ses, su, me, ho, pos, ex⟩ ⟨a1, k1, a2, k2, a3, k3, a4, k4⟩) 28)) wx) => box7 w wx ⟨mi, rnd, ses, su, me, ho, pos, ex⟩ ⟨a1, k1, a2, k2, a3, k3, a4, k4⟩ hb
  have B0 := Lib.hid (Below.refl (w.alloc (.cells (grtA ⟨mi, rnd, ses, su, me, ho, pos, ex⟩ ⟨a1, k1, a2, k2, a3, k3, a4, k4⟩) 28)).heap.size (w.alloc (.cells (grtA ⟨mi, rnd, ses, su, me, ho, pos, ex⟩ ⟨a1, k1, a2, k2, a3, k3, a4, k4⟩) 28)))
  dsimp only at HK
  have hq : mi < 0 ∨ (¬ mi < 0 ∧ 4 < mi) ∨ (¬ mi < 0 ∧ ¬ 4 < mi ∧ (32 : Int) < ses.length) ∨ (¬ mi < 0 ∧ ¬ 4 < mi ∧ ¬ (32 : Int) < ses.length ∧ (su.length : Int) < 1) ∨ (¬ mi < 0 ∧ ¬ 4 < mi ∧ ¬ (32 : Int) < ses.length ∧ ¬ (su.length : Int) < 1 ∧ (16384 : Int) < su.length) ∨ (¬ mi < 0 ∧ ¬ 4 < mi ∧ ¬ (32 : Int) < ses.length ∧ ¬ (su.length : Int) < 1 ∧ ¬ (16384 : Int) < su.length) := by omega
  rcases hq with s1 | ⟨s1, s2⟩ | ⟨s1, s2, s3⟩ | ⟨s1, s2, s3, s4⟩ | ⟨s1, s2, s3, s4, s5⟩ | ⟨s1, s2, s3, s4, s5⟩
  · have HF : Hid (R = false) := Lib.hid (by rw [HM.out, decide_eq_false (show ¬ 0 ≤ mi by omega)]; simp)
    go_enter Tryz.func36, Tryz.ntmps36
    go_wp2_with fail
    go_ret
    exact ⟨by rw [HF.out] <;> rfl, HB.out⟩
  · have HF : Hid (R = false) := Lib.hid (by rw [HM.out, decide_eq_false (show ¬ mi ≤ 4 by omega)]; simp)
    go_enter Tryz.func36, Tryz.ntmps36
    go_wp2_with fail
    go_ret
    exact ⟨by rw [HF.out] <;> rfl, HB.out⟩
  · have HF : Hid (R = false) := Lib.hid (by rw [HM.out, decide_eq_false (show ¬ ses.length ≤ 32 by omega)]; simp)
    go_enter Tryz.func36, Tryz.ntmps36
    go_wp2_with fail
    go_ret
    exact ⟨by rw [HF.out] <;> rfl, HB.out⟩
  · have HF : Hid (R = false) := Lib.hid (by rw [HM.out, decide_eq_false (show ¬ 1 ≤ su.length by omega)]; simp)
    go_enter Tryz.func36, Tryz.ntmps36
    go_wp2_with fail
    go_ret
    exact ⟨by rw [HF.out] <;> rfl, HB.out⟩
  · have HF : Hid (R = false) := Lib.hid (by rw [HM.out, decide_eq_false (show ¬ su.length ≤ 16384 by omega)]; simp)
    go_enter Tryz.func36, Tryz.ntmps36
    go_wp2_with fail
    go_ret
    exact ⟨by rw [HF.out] <;> rfl, HB.out⟩
  · have HM : Hid (R = (b1 && b2 && b3 && suitesOk su)) := Lib.hid (by rw [HM.out, decide_eq_true (show 0 ≤ mi by omega), decide_eq_true (show mi ≤ 4 by omega), decide_eq_true (show ses.length ≤ 32 by omega), decide_eq_true (show 1 ≤ su.length by omega), decide_eq_true (show su.length ≤ 16384 by omega)]; simp)
    go_enter Tryz.func36, Tryz.ntmps36
    cases b1 with
    | false =>
      go_wp2_with (first
        | (go_at_call 51; refine (C1.out _ HB.out).mono ?_; rintro e w1 ⟨rfl, rfl⟩)
        | (go_at_call 52; refine (C2.out _).mono ?_; rintro e w1 ⟨rfl, hb⟩; have HB := Lib.hid (Below.and HB.out hb); have B0 := Lib.hid (Below.and B0.out hb); obtain ⟨d34, d37, d38⟩ := HK.out _ B0.out; clear hb)
        | (go_at_call 53; refine (C3.out _ HB.out).mono ?_; rintro e w1 ⟨rfl, hb⟩; have HB := Lib.hid (Below.and HB.out hb); have B0 := Lib.hid (Below.and B0.out hb); obtain ⟨d34, d37, d38⟩ := HK.out _ B0.out; clear hb))
      go_ret
      exact ⟨by rw [HM.out] <;> rfl, HB.out⟩
    | true =>
      cases b2 with
      | false =>
        go_wp2_with (first
          | (go_at_call 51; refine (C1.out _ HB.out).mono ?_; rintro e w1 ⟨rfl, rfl⟩)
          | (go_at_call 52; refine (C2.out _).mono ?_; rintro e w1 ⟨rfl, hb⟩; have HB := Lib.hid (Below.and HB.out hb); have B0 := Lib.hid (Below.and B0.out hb); obtain ⟨d34, d37, d38⟩ := HK.out _ B0.out; clear hb)
          | (go_at_call 53; refine (C3.out _ HB.out).mono ?_; rintro e w1 ⟨rfl, hb⟩; have HB := Lib.hid (Below.and HB.out hb); have B0 := Lib.hid (Below.and B0.out hb); obtain ⟨d34, d37, d38⟩ := HK.out _ B0.out; clear hb))
        go_ret
        exact ⟨by rw [HM.out] <;> rfl, HB.out⟩
      | true =>
        cases b3 with
        | false =>
          go_wp2_with (first
            | (go_at_call 51; refine (C1.out _ HB.out).mono ?_; rintro e w1 ⟨rfl, rfl⟩)
            | (go_at_call 52; refine (C2.out _).mono ?_; rintro e w1 ⟨rfl, hb⟩; have HB := Lib.hid (Below.and HB.out hb); have B0 := Lib.hid (Below.and B0.out hb); obtain ⟨d34, d37, d38⟩ := HK.out _ B0.out; clear hb)
            | (go_at_call 53; refine (C3.out _ HB.out).mono ?_; rintro e w1 ⟨rfl, hb⟩; have HB := Lib.hid (Below.and HB.out hb); have B0 := Lib.hid (Below.and B0.out hb); obtain ⟨d34, d37, d38⟩ := HK.out _ B0.out; clear hb))
          go_ret
          exact ⟨by rw [HM.out] <;> rfl, HB.out⟩
        | true =>
          go_wp2_with (first
            | (go_at_call 51; refine (C1.out _ HB.out).mono ?_; rintro e w1 ⟨rfl, rfl⟩)
            | (go_at_call 52; refine (C2.out _).mono ?_; rintro e w1 ⟨rfl, hb⟩; have HB := Lib.hid (Below.and HB.out hb); have B0 := Lib.hid (Below.and B0.out hb); obtain ⟨d34, d37, d38⟩ := HK.out _ B0.out; clear hb)
            | (go_at_call 53; refine (C3.out _ HB.out).mono ?_; rintro e w1 ⟨rfl, hb⟩; have HB := Lib.hid (Below.and HB.out hb); have B0 := Lib.hid (Below.and B0.out hb); obtain ⟨d34, d37, d38⟩ := HK.out _ B0.out; clear hb))
          have HBF := Lib.hid HB.out
          go_loop [3] (fun i => ∃ k : Nat, k ≤ su.length ∧ i = .int .i64 k ∧ Hid (∀ j (hj : j < su.length), j < k → 0 ≤ su[j] ∧ su[j] ≤ 65535)) (fun i => su.length - (intOf i).toNat)
          case atStart => exact ⟨0, Nat.zero_le _, rfl, Lib.hid fun i _ h => absurd h (Nat.not_lt_zero i)⟩
          case round =>
            clear s1 s2 s3 s4 s5
            obtain ⟨k, hk, rfl, hall⟩ := hrel
            have hul := HU.out
            by_cases hlt : k < su.length
            · obtain ⟨b, off, rfl, _, hc⟩ := HN.out _ HBF.out k hlt
              have q0 : (0 : Int) ≤ k := by omega
              have q1 : (k : Int) < su.length := by omega
              have hq : su[k] < 0 ∨ (¬ su[k] < 0 ∧ 65535 < su[k]) ∨ (¬ su[k] < 0 ∧ ¬ 65535 < su[k]) := by omega
              rcases hq with s1 | ⟨s1, s2⟩ | ⟨s1, s2⟩
              · have HF : Hid (R = false) := Lib.hid (by rw [HM.out, suitesOk_at hlt (.inl s1)]; rfl)
                go_wp2_with fail
                go_ret
                exact ⟨by rw [HF.out] <;> rfl, HBF.out⟩
              · have HF : Hid (R = false) := Lib.hid (by rw [HM.out, suitesOk_at hlt (.inr s2)]; rfl)
                go_wp2_with fail
                go_ret
                exact ⟨by rw [HF.out] <;> rfl, HBF.out⟩
              · have HR : Hid (0 ≤ su[k] ∧ su[k] ≤ 65535) := Lib.hid (by omega)
                go_wp2_with fail
                go_round
                case rel => exact ⟨k + 1, by omega, by go_num, Lib.hid fun i hi hij => by
                  by_cases e : i = k
                  · subst e; exact HR.out
                  · exact hall.out i hi (by omega)⟩
                case measure => simp [intOf]; omega
            · obtain rfl : su.length = k := by omega
              have HT : Hid (R = true) := Lib.hid (by rw [HM.out, suitesOk_all fun j hj => hall.out j hj hj]; rfl)
              go_wp2_with fail
              go_ret
              exact ⟨by rw [HT.out] <;> rfl, HBF.out⟩
end Go.Proofs.YtiakbmllpnabnaaGreatDoor
