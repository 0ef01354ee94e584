/- What the program asks of a greeting's parts: suites, methods, host, size. What the program asks of a greeting: its size. -/
import Derived.Test.YtiakbmllpnabnaaGreatDoorKf
import Derived.Shelf.Bytes.SlIndexAt
namespace Go.Proofs.YtiakbmllpnabnaaGreatDoor
open Go Go.RowKit

/-- the least, the greatest one -/
def LeastP (l : List Int) (w : World) (e : Ending) (w' : World) : Prop := ∃ m : Int, e = .returned (.int .i64 m) ∧ (∀ z ∈ l, m ≤ z) ∧ m ∈ l ∧ w = w'
def MostP (l : List Int) (w : World) (e : Ending) (w' : World) : Prop := ∃ m : Int, e = .returned (.int .i64 m) ∧ (∀ z ∈ l, z ≤ m) ∧ m ∈ l ∧ w = w'
set_option maxRecDepth 100000 in
set_option maxHeartbeats 400000 in
theorem min_prog {D : Nat} {w : World} {A : Option Addr} {c n : Nat} {l : List Int} (h : NumsIn D w A l) (hn : n = l.length) (h0 : 0 < l.length) (hl : l.length ≤ 1000000) :
    Calls Tryz.prog 79 #[.slice A n c] w (LeastP l w) := by
  subst hn
  unfold LeastP
  obtain ⟨b, off, rfl, _, hc0⟩ := h 0 h0
  have HC : Hid (∀ i (hi : i < l.length), w.cell? ⟨b, off + i, none⟩ = some (.int .i64 l[i])) := Lib.hid fun i hi => by
    obtain ⟨b', off', e, _, hc⟩ := h i hi
    cases e; exact hc
  have h1 : ¬ (l.length : Int) < 1 := by omega
  have h2 : (0 : Int) < l.length := by omega
  rw [Nat.add_zero] at hc0
  clear h
  go_enter Tryz.func79, Tryz.ntmps79
  go_wp2_with fail
  clear h1 h2
  go_loop [3, 4] (fun m i => ∃ (k : Nat) (x : Int), 0 < k ∧ k ≤ l.length ∧ i = .int .i64 k ∧ m = .int .i64 x ∧ Hid ((∀ j (hj : j < l.length), j < k → x ≤ l[j]) ∧ ∃ (j : Nat) (hj : j < l.length), x = l[j])) (fun _ i => l.length - (intOf i).toNat)
  case atStart => exact ⟨1, l[0], Nat.one_pos, h0, rfl, rfl, Lib.hid ⟨fun j hj hj1 => by have e : j = 0 := (by omega); subst e; exact Int.le_refl _, 0, h0, rfl⟩⟩
  case round =>
    obtain ⟨k, x, hk0, hk, rfl, rfl, hx⟩ := hrel
    by_cases hlt : k < l.length
    · have hc := HC.out k hlt
      have q0 : (0 : Int) ≤ k := by omega
      have q1 : (k : Int) < l.length := by omega
      have HX : Hid ((∀ j (hj : j < l.length), j < k + 1 → min x l[k] ≤ l[j]) ∧ ∃ (j : Nat) (hj : j < l.length), min x l[k] = l[j]) := Lib.hid ⟨fun j hj hj1 => by
        by_cases e : j = k
        · subst e; omega
        · have := hx.out.1 j hj (by omega); omega, by
        obtain ⟨j, hj, e⟩ := hx.out.2
        by_cases h : x ≤ l[k]
        · exact ⟨j, hj, by omega⟩
        · exact ⟨k, hlt, by omega⟩⟩
      generalize l[k] = y at *
      go_wp2_with fail
      go_round
      case rel => exact ⟨k + 1, min x y, Nat.succ_pos k, by omega, by go_num, rfl, HX⟩
      case measure => simp [intOf]; omega
    · obtain rfl : l.length = k := by omega
      go_wp2_with fail
      go_ret
      refine ⟨x, rfl, fun z hz => ?_, ?_, rfl⟩
      · obtain ⟨j, hj, rfl⟩ := List.getElem_of_mem hz
        exact hx.out.1 j hj hj
      · obtain ⟨j, hj, e⟩ := hx.out.2
        rw [e]; exact List.getElem_mem hj
set_option maxRecDepth 100000 in
set_option maxHeartbeats 400000 in
theorem max_prog {D : Nat} {w : World} {A : Option Addr} {c n : Nat} {l : List Int} (h : NumsIn D w A l) (hn : n = l.length) (h0 : 0 < l.length) (hl : l.length ≤ 1000000) :
    Calls Tryz.prog 80 #[.slice A n c] w (MostP l w) := by
  subst hn
  unfold MostP
  obtain ⟨b, off, rfl, _, hc0⟩ := h 0 h0
  have HC : Hid (∀ i (hi : i < l.length), w.cell? ⟨b, off + i, none⟩ = some (.int .i64 l[i])) := Lib.hid fun i hi => by
    obtain ⟨b', off', e, _, hc⟩ := h i hi
    cases e; exact hc
  have h1 : ¬ (l.length : Int) < 1 := by omega
  have h2 : (0 : Int) < l.length := by omega
  rw [Nat.add_zero] at hc0
  clear h
  go_enter Tryz.func80, Tryz.ntmps80
  go_wp2_with fail
  clear h1 h2
  go_loop [3, 4] (fun m i => ∃ (k : Nat) (x : Int), 0 < k ∧ k ≤ l.length ∧ i = .int .i64 k ∧ m = .int .i64 x ∧ Hid ((∀ j (hj : j < l.length), j < k → l[j] ≤ x) ∧ ∃ (j : Nat) (hj : j < l.length), x = l[j])) (fun _ i => l.length - (intOf i).toNat)
  case atStart => exact ⟨1, l[0], Nat.one_pos, h0, rfl, rfl, Lib.hid ⟨fun j hj hj1 => by have e : j = 0 := (by omega); subst e; exact Int.le_refl _, 0, h0, rfl⟩⟩
  case round =>
    obtain ⟨k, x, hk0, hk, rfl, rfl, hx⟩ := hrel
    by_cases hlt : k < l.length
    · have hc := HC.out k hlt
      have q0 : (0 : Int) ≤ k := by omega
      have q1 : (k : Int) < l.length := by omega
      have HX : Hid ((∀ j (hj : j < l.length), j < k + 1 → l[j] ≤ max x l[k]) ∧ ∃ (j : Nat) (hj : j < l.length), max x l[k] = l[j]) := Lib.hid ⟨fun j hj hj1 => by
        by_cases e : j = k
        · subst e; omega
        · have := hx.out.1 j hj (by omega); omega, by
        obtain ⟨j, hj, e⟩ := hx.out.2
        by_cases h : l[k] ≤ x
        · exact ⟨j, hj, by omega⟩
        · exact ⟨k, hlt, by omega⟩⟩
      generalize l[k] = y at *
      go_wp2_with fail
      go_round
      case rel => exact ⟨k + 1, max x y, Nat.succ_pos k, by omega, by go_num, rfl, HX⟩
      case measure => simp [intOf]; omega
    · obtain rfl : l.length = k := by omega
      go_wp2_with fail
      go_ret
      refine ⟨x, rfl, fun z hz => ?_, ?_, rfl⟩
      · obtain ⟨j, hj, rfl⟩ := List.getElem_of_mem hz
        exact hx.out.1 j hj hj
      · obtain ⟨j, hj, e⟩ := hx.out.2
        rw [e]; exact List.getElem_mem hj
def suitesB (l : List Int) : Bool := decide (1 ≤ l.length) && suitesOk l
set_option maxRecDepth 100000 in
set_option maxHeartbeats 400000 in
theorem areSuites_prog {D : Nat} {w : World} {A : Option Addr} {c n : Nat} {l : List Int} (h : NumsIn D w A l) (hn : n = l.length) (hl : l.length ≤ 1000000) :
    Calls Tryz.prog 59 #[.slice A n c] w fun e w' => e = .returned (.bool (suitesB l)) ∧ w = w' := by
  subst hn
  by_cases h0 : 0 < l.length
  · have CM := Lib.hid (min_prog (c := c) h rfl h0 hl)
    have CX := Lib.hid (max_prog (c := c) h rfl h0 hl)
    have h1 : (0 : Int) < l.length := by omega
    have HB : Hid (suitesB l = suitesOk l) := Lib.hid (by unfold suitesB; rw [decide_eq_true (show 1 ≤ l.length by omega)]; rfl)
    unfold LeastP MostP at *
    clear h
    go_enter Tryz.func59, Tryz.ntmps59
    go_wp2_with fail
    refine CM.out.mono ?_
    rintro e w' ⟨m, rfl, hm, hmm, rfl⟩
    by_cases hm0 : 0 ≤ m
    · have HM := Lib.hid hm
      clear hm
      go_wp2_with fail
      refine CX.out.mono ?_
      rintro e w' ⟨x, rfl, hx, hxm, rfl⟩
      have HX := Lib.hid hx
      clear hx
      go_wp2_with fail
      go_ret
      refine ⟨?_, rfl⟩
      rw [HB.out]
      by_cases hx0 : x ≤ 65535
      · rw [suitesOk_all fun k hk => ⟨Int.le_trans hm0 (HM.out _ (List.getElem_mem hk)), Int.le_trans (HX.out _ (List.getElem_mem hk)) hx0⟩]
        simp [hx0]
      · obtain ⟨k, hk, e⟩ := List.getElem_of_mem hxm
        rw [suitesOk_at hk (.inr (by rw [e]; omega))]
        simp [hx0]
    · have HF : Hid (suitesOk l = false) := Lib.hid (by
        obtain ⟨k, hk, e⟩ := List.getElem_of_mem hmm
        exact suitesOk_at hk (.inl (by rw [e]; omega)))
      clear hm hmm
      have hm1 : decide (0 ≤ m) = false := decide_eq_false hm0
      go_wp2_with fail
      go_ret
      exact ⟨by rw [HB.out, HF.out] <;> rfl, rfl⟩
  · have HF : Hid (suitesB l = false) := Lib.hid (by unfold suitesB; rw [decide_eq_false (show ¬ 1 ≤ l.length by omega)]; rfl)
    obtain rfl : l = [] := List.eq_nil_of_length_eq_zero (by omega)
    clear h
    go_enter Tryz.func59, Tryz.ntmps59
    go_wp2_with fail
    go_ret
    exact ⟨by rw [HF.out] <;> rfl, rfl⟩
set_option maxRecDepth 100000 in
set_option maxHeartbeats 400000 in
theorem indexByte_any {D : Nat} {w : World} {A : Option Addr} {c n : Nat} {z : List UInt8} (h : Rb D w A c z) (hn : n = z.length) :
    Calls Tryz.prog 81 #[.slice A n c, .int .u8 0] w fun e w' => e = .returned (.int .i64 (Lib.indexByte z 0)) ∧ w = w' := by
  subst hn
  have hr : (callFunc 96 #[.slice A z.length c, .int .u8 0]).run Tryz.prog w = .ok (.value (.int .i64 (Lib.indexByte z 0))) w := by
    rw [run_callFunc_extern Tryz.func96 (by kernel_rfl) (by kernel_rfl) (by kernel_rfl) (e := Extern.BytealgIndexByte.indexByte) (by kernel_rfl)]
    cases A with
    | none =>
      obtain rfl : z = [] := List.eq_nil_of_length_eq_zero (by have := h.cap; have := h.nil rfl; omega)
      have hc := h.nil rfl
      subst hc
      rw [show ([] : List UInt8).length = 0 from rfl, Lib.run_indexByteNil w 0 0 0]; rfl
    | some a =>
      rw [Lib.run_indexByteAt w a z.length c (ints z) (ints_len z) (fun i hi => by
        obtain ⟨b, off, e, _, hc⟩ := h.rd i hi
        have e := Option.some.inj e
        rw [e, add_pl, hc, ints_at z i hi]) 0, ints_of]; rfl
  clear h
  go_enter Tryz.func81, Tryz.ntmps81
  go_wp2_with fail
  go_ret
  exact ⟨rfl, rfl⟩
set_option maxRecDepth 100000 in
set_option maxHeartbeats 400000 in
theorem areMethods_prog {D : Nat} {w : World} {A : Option Addr} {c n : Nat} {z : List UInt8} (h : Rb D w A c z) (hn : n = z.length) (hz : z.length ≤ 1000000) :
    Calls Tryz.prog 60 #[.slice A n c] w fun e w' => e = .returned (.bool (methOk z)) ∧ w = w' := by
  subst hn
  have CI := Lib.hid (indexByte_any h rfl)
  have hi := indexByteC 0 z
  clear h
  by_cases h1 : z.length ≤ 255
  · have h2 : (z.length : Int) ≤ 255 := by omega
    have HB : Hid (methOk z = decide (0 ≤ Lib.indexByte z 0)) := Lib.hid (by
      unfold methOk
      rw [decide_eq_true h1, Bool.true_and]
      refine decide_eq_decide.2 ?_
      rw [hi]
      split
      · rename_i hm; exact ⟨fun _ => by omega, fun _ => hm⟩
      · rename_i hm; exact ⟨fun h => absurd h hm, fun h => by omega⟩)
    rw [HB.out]
    clear hi
    generalize Lib.indexByte z 0 = q at *
    go_enter Tryz.func60, Tryz.ntmps60
    go_wp2_with fail
    refine CI.out.mono ?_
    rintro e w' ⟨rfl, rfl⟩
    go_wp2_with fail
    go_ret
    exact ⟨rfl, rfl⟩
  · have h2 : ¬ (z.length : Int) ≤ 255 := by omega
    have h3 : decide ((z.length : Int) ≤ 255) = false := decide_eq_false h2
    have HB : Hid (methOk z = false) := Lib.hid (by unfold methOk; rw [decide_eq_false h1]; rfl)
    clear hi
    go_enter Tryz.func60, Tryz.ntmps60
    go_wp2_with fail
    go_ret
    exact ⟨by rw [HB.out] <;> rfl, rfl⟩
/-- the host in small letters; nothing, if it is none -/
def lowV (l : List UInt8) : List UInt8 := if isH l then lowS l else []
theorem lowV_some {l : List UInt8} (h : isH l = true) : lowV l = lowS l := by unfold lowV; rw [if_pos h]
theorem lowV_none {l : List UInt8} (h : isH l = false) : lowV l = [] := by unfold lowV; rw [h]; rfl
set_option maxRecDepth 100000 in
set_option maxHeartbeats 400000 in
theorem lower_prog (l : List UInt8) (w : World) (hG : Gl w) (hl : l.length ≤ 1000000) :
    Calls Tryz.prog 37 #[.string ⟨l.toArray⟩] w fun e w' => e = .returned (.string ⟨(lowV l).toArray⟩) ∧ Below w.heap.size w w' := by
  have hsz := mk_size l
  have CN := norm_prog ⟨l.toArray⟩ w hG (by rw [hsz]; exact hl)
  unfold NormP at CN
  rw [mk_toList] at CN
  have hcase : (∃ x n, normP l = some (x, n) ∧ x.length < l.length ∧ isH l = false) ∨ normP l = none ∧ isH l = false ∨ normP l = some (lowS l, 80) ∧ isH l = true := by
    by_cases hc : 58 ∈ l
    · have hi := isH_colon hc
      cases hn : normP l with
      | none => exact .inr (.inl ⟨rfl, hi⟩)
      | some q =>
        obtain ⟨x, n⟩ := q
        refine .inl ⟨x, n, rfl, ?_, hi⟩
        unfold normP at hn
        split at hn
        · have e := (Prod.mk.inj (Option.some.inj hn)).1
          rw [← e, lowS_len]
          exact hdC_lt hc
        · cases hn
    · have hn := isH_norm hc
      cases hi : isH l with
      | true => rw [hi, if_pos rfl] at hn; exact .inr (.inr ⟨hn, rfl⟩)
      | false => rw [hi, if_neg Bool.false_ne_true] at hn; exact .inr (.inl ⟨hn, rfl⟩)
  rcases hcase with ⟨x, n, hn, hx, hi⟩ | ⟨hn, hi⟩ | ⟨hn, hi⟩
  · rw [hn] at CN
    have HV := Lib.hid (lowV_none hi)
    have hxs := mk_size x
    have h1 : ¬ (x.length : Int) = l.length := by omega
    have h2 : (((x.length : Nat) : Int) != (l.length : Nat)) = true := by simpa using h1
    have CN := Lib.hid CN
    unfold normV at CN
    clear hx hn hi h1
    go_enter Tryz.func37, Tryz.ntmps37
    go_wp2_with fail
    refine CN.out.mono ?_
    rintro e w' ⟨rfl, hb⟩
    have HB := Lib.hid hb
    clear hb
    go_wp2_with fail
    go_ret
    exact ⟨by rw [HV.out] <;> rfl, HB.out⟩
  · rw [hn] at CN
    have HV := Lib.hid (lowV_none hi)
    have CN := Lib.hid CN
    unfold normV at CN
    clear hn hi
    go_enter Tryz.func37, Tryz.ntmps37
    go_wp2_with fail
    refine CN.out.mono ?_
    rintro e w' ⟨rfl, hb⟩
    have HB := Lib.hid hb
    clear hb
    go_wp2_with fail
    go_ret
    exact ⟨by rw [HV.out] <;> rfl, HB.out⟩
  · rw [hn] at CN
    have HV := Lib.hid (lowV_some hi)
    have hxs : (⟨(lowS l).toArray⟩ : ByteArray).size = l.length := by rw [mk_size, lowS_len]
    have CN := Lib.hid CN
    unfold normV at CN
    clear hn hi
    go_enter Tryz.func37, Tryz.ntmps37
    go_wp2_with fail
    refine CN.out.mono ?_
    rintro e w' ⟨rfl, hb⟩
    have HB := Lib.hid hb
    clear hb
    go_wp2_with fail
    go_ret
    exact ⟨by rw [HV.out] <;> rfl, HB.out⟩
end Go.Proofs.YtiakbmllpnabnaaGreatDoor
namespace Go.Proofs.YtiakbmllpnabnaaGreatDoor
open Go Go.RowKit

def sizeG (g : Grt) : Nat := 53 + g.ses.length + 2 * g.suites.length + g.meth.length + g.host.length + (encX g.exts).length
theorem encX_step {l : List (Int × List UInt8)} {k : Nat} (hk : k < l.length) : (encX (l.take (k + 1))).length = (encX (l.take k)).length + (4 + l[k].2.length) := by
  rw [encX_take hk]
  unfold fillB
  rw [List.length_append, List.length_append, List.length_append, rowB_len, rowB_len]
  omega
theorem encX_most {l : List (Int × List UInt8)} (hd : ∀ x ∈ l, x.2.length ≤ 1000000) : ∀ k, k ≤ l.length → (encX (l.take k)).length ≤ k * 1000004
  | 0, _ => by simp [encX]
  | k + 1, hk => by
    have := encX_most hd k (by omega)
    have h2 := hd l[k] (List.getElem_mem (by omega))
    rw [encX_step (by omega)]
    omega
set_option maxRecDepth 100000 in
set_option maxHeartbeats 1000000 in
theorem size_prog {w : World} {g : Grt} {a : Adr} (h : GrV w.heap.size w g a) (hd : ∀ x ∈ g.exts, x.2.length ≤ 1000000) : Calls Tryz.prog 58 #[.agg (grtA g a)] w fun e w' => e = .returned (.int .i64 (sizeG g : Nat)) ∧ Below w.heap.size w w' := by
  have HN := Lib.hid h.ext
  have HM := Lib.hid (encX_most hd)
  have HB0 := Lib.hid (below_new w (.cells (grtA g a) 28))
  have hs := h.sl
  have hu := h.ul
  have hm := h.ml
  have hh := h.hl
  have hx := h.xl
  have hhs := mk_size g.host
  have HS : Hid (∀ n, n = g.exts.length → 53 + g.ses.length + 2 * g.suites.length + g.meth.length + g.host.length + (encX (g.exts.take n)).length = sizeG g) := Lib.hid fun n hn => by rw [hn, List.take_length]; rfl
  have HE : Hid (∀ k (hk : k < g.exts.length), (encX (g.exts.take (k + 1))).length = (encX (g.exts.take k)).length + (4 + g.exts[k].2.length)) := Lib.hid fun k hk => encX_step hk
  have HDL : Hid (∀ k (hk : k < g.exts.length), g.exts[k].2.length ≤ 1000000) := Lib.hid fun k hk => hd _ (List.getElem_mem hk)
  clear h hd
  obtain ⟨mi, rnd, ses, su, me, ho, pos, ex⟩ := g
  obtain ⟨a1, k1, a2, k2, a3, k3, a4, k4⟩ := a
  dsimp only at *
  generalize sizeG ⟨mi, rnd, ses, su, me, ho, pos, ex⟩ = SZ at *
  go_enter Tryz.func58, Tryz.ntmps58
  go_wp2_with fail
  clear hhs
  generalize w.alloc (.cells (grtA ⟨mi, rnd, ses, su, me, ho, pos, ex⟩ ⟨a1, k1, a2, k2, a3, k3, a4, k4⟩) 28) = w1 at *
  generalize ses.length = q1 at *
  generalize su.length = q2 at *
  generalize me.length = q3 at *
  generalize ho.length = q4 at *
  go_loopw [3, 26] (fun n i wr => ∃ k : Nat, k ≤ ex.length ∧ i = .int .i64 k ∧ n = .int .i64 ((53 + q1 + 2 * q2 + q3 + q4 + (encX (ex.take k)).length : Nat) : Int) ∧ Below w.heap.size w wr) (fun _ i _ => ex.length - (intOf i).toNat)
  case atStart => exact ⟨0, Nat.zero_le _, rfl, congrArg (Value.int .i64) (by simp [encX]), HB0.out⟩
  case round =>
    obtain ⟨k, hk, rfl, rfl, hb⟩ := hrel
    have hem := HM.out k hk
    have HB := Lib.hid hb
    by_cases hlt : k < ex.length
    · obtain ⟨b, off, Ad, cd, rfl, _, hc0, hc1, _⟩ := HN.out.keep (fun j hj => hb.block j hj) hb.size k hlt
      have q0 : (0 : Int) ≤ k := by omega
      have q1' : (k : Int) < ex.length := by omega
      have hst := Lib.hid (HE.out k hlt)
      have hdl := HDL.out k hlt
      clear hb
      generalize ex[k].2.length = dl at *
      generalize ex[k].1 = kd at *
      generalize (encX (ex.take k)).length = E at *
      go_wp2_with fail
      go_roundw
      case rel => exact ⟨k + 1, by omega, by go_num, congrArg (Value.int .i64) (by rw [hst.out]; omega), HB.out.alloc HB.out.size _⟩
      case measure => simp [intOf]; omega
    · obtain rfl : ex.length = k := by omega
      clear hb
      have HT := Lib.hid (HS.out _ rfl)
      go_wp2_with fail
      go_ret
      exact ⟨by rw [← HT.out] <;> rfl, HB.out⟩
end Go.Proofs.YtiakbmllpnabnaaGreatDoor
