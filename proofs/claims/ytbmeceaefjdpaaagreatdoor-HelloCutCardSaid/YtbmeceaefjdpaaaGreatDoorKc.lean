/- The program's writer: suiteBytes, dataOf, extBytes. -/
import Derived.Test.YtbmeceaefjdpaaaGreatDoorKb
namespace Go.Proofs.YtbmeceaefjdpaaaGreatDoor
open Go Go.RowKit

theorem encS_take {l : List Int} {k : Nat} (hk : k < l.length) : encS (l.take (k + 1)) = encS (l.take k) ++ rowB l[k].toNat 2 := by
  rw [List.take_succ_eq_append_getElem hk]
  unfold encS
  rw [List.flatMap_append, List.flatMap_singleton]
set_option maxRecDepth 100000 in
set_option maxHeartbeats 400000 in
theorem suiteBytes_prog {w : World} {A : Option Addr} {c n : Nat} {l : List Int} (h : NumsIn w.heap.size w A l) (hn : n = l.length) (hl : l.length ≤ 1000000) (h0 : ∀ z ∈ l, 0 ≤ z) :
    Calls Tryz.prog 84 #[.slice A n c] w (MadeP (encS l) w) := by
  subst hn
  have HN := Lib.hid h
  have H0 : Hid (∀ k (hk : k < l.length), l[k] = ((l[k].toNat : Nat) : Int)) := Lib.hid fun k hk => by have := h0 _ (List.getElem_mem hk); omega
  unfold MadeP
  clear h h0
  go_enter Tryz.func84, Tryz.ntmps84
  go_wp2_with fail
  go_loopw [3, 8] (fun v i wr => ∃ (k : Nat) (A' : Option Addr) (c' : Nat), k ≤ l.length ∧ i = .int .i64 k ∧ v = .slice A' (encS (l.take k)).length c' ∧ RowG wr w.heap.size A' c' (encS (l.take k)) ∧ Below w.heap.size w wr) (fun _ i _ => l.length - (intOf i).toNat)
  case atStart => exact ⟨0, none, 0, Nat.zero_le _, rfl, rfl, RowG.nil _ _, Below.refl _ _⟩
  case round =>
    obtain ⟨k, A', c', hk, rfl, rfl, hown, hb⟩ := hrel
    by_cases hlt : k < l.length
    · obtain ⟨b, off, rfl, _, hc⟩ := HN.out.keep (fun j hj => hb.block j hj) hb.size k hlt
      have q0 : (0 : Int) ≤ k := by omega
      have q1 : (k : Int) < l.length := by omega
      have hel := encS_len (l.take k)
      rw [List.length_take] at hel
      have HS := Lib.hid (encS_take hlt)
      have e0 := H0.out k hlt
      rw [e0] at hc
      have CN := Lib.hid (number_prog l[k].toNat 2 hown rfl hb.size (by omega) (by decide))
      have HB := Lib.hid hb
      have hrl := rowB_len l[k].toNat 2
      clear hown hb hel e0
      unfold GrewP at CN
      generalize l[k].toNat = y at *
      generalize encS (l.take k) = R at *
      go_wp2_with (go_at_call 83; refine CN.out.mono ?_; rintro e w1 ⟨A1, c1, rfl, hr1, hb1⟩; have R1 := Lib.hid hr1; have B1 := Lib.hid hb1; clear hr1 hb1)
      go_roundw
      case rel => exact ⟨k + 1, A1, c1, by omega, by go_num, by rw [HS.out, List.length_append, rowB_len], by rw [HS.out]; exact R1.out, HB.out.trans B1.out.below⟩
      case measure => simp [intOf]; omega
    · obtain rfl : l.length = k := by omega
      rw [List.take_length] at hown
      rw [List.take_length]
      have HW := Lib.hid hown
      have HB := Lib.hid hb
      clear hown hb
      go_wp2_with fail
      go_ret
      exact ⟨A', c', rfl, HW.out, HB.out⟩
theorem rowG_one (w : World) (base : Nat) (n : Int) (y : UInt8) (h : n = y.toNat) (hb : base ≤ w.heap.size) : RowG (w.alloc (.cells #[.int .u8 n] 5)) base (some ⟨w.heap.size, 0, none⟩) 1 [y] := by
  subst h
  refine ⟨Nat.le_refl _, by decide, .inr ⟨w.heap.size, rfl, hb, by simp, fun j hj => ?_, fun j hj => ?_⟩⟩
  · obtain rfl : j = 0 := by omega
    constructor
    · rw [World.cell?_alloc_at _ _ _ _ rfl]; rfl
    · unfold World.frozen?
      rw [show (w.alloc (.cells #[.int .u8 (y.toNat : Int)] 5)).heap[w.heap.size]? = some (.cells #[.int .u8 (y.toNat : Int)] 5) from heap_alloc_new w _]
      rfl
  · obtain rfl : j = 0 := by simpa using hj
    rw [World.cell?_alloc_at _ _ _ _ rfl]; rfl
set_option maxRecDepth 100000 in
set_option maxHeartbeats 400000 in
theorem dataOf_prog (w : World) (h : List UInt8) (hl : h.length ≤ 1000000) :
    Calls Tryz.prog 85 #[.string ⟨h.toArray⟩] w (MadeP (encN h) w) := by
  have HE : Hid (encN h = fillB (0 :: fillB h 2) 2) := Lib.hid rfl
  have hf : (fillB h 2).length = h.length + 2 := by unfold fillB; simp [rowB_len]; omega
  have hsz := mk_size h
  have R0 := Lib.hid (rowG_one w w.heap.size 0 0 rfl (Nat.le_refl _))
  have B0 := Lib.hid (below_new w (.cells #[.int .u8 0] 5))
  have hz0 : (w.alloc (.cells #[.int .u8 0] 5)).heap.size = w.heap.size + 1 := by simp
  have hr1 := conv_rowG (w.alloc (.cells #[.int .u8 0] 5)) h (by omega)
  have hb1 := bytesWorld_below (w.alloc (.cells #[.int .u8 0] 5)) ⟨h.toArray⟩
  have hcv := bytes_conv (w.alloc (.cells #[.int .u8 0] 5)) ⟨h.toArray⟩
  rw [hsz] at hcv
  have R2 := Lib.hid (R0.out.below hb1)
  have B2 := Lib.hid (Below.and B0.out hb1)
  generalize grownCap (w.alloc (.cells #[.int .u8 0] 5)) h.length 0 5 = gc at *
  generalize Lib.bytesWorld (w.alloc (.cells #[.int .u8 0] 5)) 5 ⟨h.toArray⟩ = w2 at *
  rw [hz0] at hcv hr1
  have hl3 : (0 :: fillB h 2).length = h.length + 3 := by rw [List.length_cons, hf]
  have CP : Hid (Calls Tryz.prog 61 #[.slice (some ⟨w.heap.size, 0, none⟩) 1 1, .int .i64 2, .slice (some ⟨w.heap.size + 1, 0, none⟩) h.length gc] w2 fun e w' => ∃ (A' : Option Addr) (c' : Nat), e = .returned (.slice A' (h.length + 3) c') ∧ RowG w' w.heap.size A' c' (0 :: fillB h 2) ∧ Below w.heap.size w2 w') :=
    Lib.hid ((part_prog (A := some ⟨w.heap.size, 0, none⟩) (q := 1) (m := h.length) 2 R2.out rfl rfl B2.out.size (by decide) (by omega) (by decide) (safe_row hr1 fun g e => by cases e; omega)).mono fun e w' hg => by
      obtain ⟨A', c', rfl, h1, h2⟩ := hg
      exact ⟨A', c', by rw [hf, List.length_singleton, show 1 + (h.length + 2) = h.length + 3 by omega], h1, h2.below⟩)
  have C2 : Hid (∀ (w3 : World) (A3 : Option Addr) (c3 : Nat), RowG w3 w.heap.size A3 c3 (0 :: fillB h 2) → Below w.heap.size w w3 → Calls Tryz.prog 61 #[.slice none 0 0, .int .i64 2, .slice A3 (h.length + 3) c3] w3 fun e w' => ∃ (A' : Option Addr) (c' : Nat), e = .returned (.slice A' (encN h).length c') ∧ RowG w' w.heap.size A' c' (encN h) ∧ Below w.heap.size w3 w') :=
    Lib.hid fun w3 A3 c3 hr3 hb3 => (part_prog (A := none) (q := 0) (m := h.length + 3) (l := []) 2 (RowG.nil w3 _) rfl hl3 hb3.size (by decide) (by omega) (by decide) (safe_row hr3 fun g e => by cases e)).mono fun e w' hg => by
      obtain ⟨A', c', rfl, h1, h2⟩ := hg
      rw [List.nil_append, ← HE.out] at h1
      exact ⟨A', c', by rw [List.length_nil, Nat.zero_add, HE.out], h1, h2.below⟩
  clear hsz hr1 hb1 hz0 hl3 hf HE
  unfold MadeP
  go_enter Tryz.func85, Tryz.ntmps85
  go_wp2_with fail
  refine CP.out.mono ?_
  rintro e w3 ⟨A3, c3, rfl, hr3, hb3⟩
  have R3 := Lib.hid hr3
  have B3 := Lib.hid (B2.out.trans hb3)
  clear hr3 hb3
  go_wp2_with fail
  refine (C2.out w3 A3 c3 R3.out B3.out).mono ?_
  rintro e w4 ⟨A4, c4, rfl, hr4, hb4⟩
  have R4 := Lib.hid hr4
  have B4 := Lib.hid (B3.out.trans hb4)
  clear hr4 hb4
  go_wp2_with fail
  go_ret
  exact ⟨A4, c4, rfl, R4.out, B4.out⟩
theorem encX_take {l : List (Int × List UInt8)} {k : Nat} (hk : k < l.length) : encX (l.take (k + 1)) = encX (l.take k) ++ rowB l[k].1.toNat 2 ++ fillB l[k].2 2 := by
  rw [List.take_succ_eq_append_getElem hk, encX_app, encX_cons, encX_nil, List.append_nil]
  unfold encE
  rw [List.append_assoc]
theorem encX_take_le (l : List (Int × List UInt8)) (k : Nat) : (encX (l.take k)).length ≤ (encX l).length := by
  conv => rhs; rw [← List.take_append_drop k l, encX_app, List.length_append]
  omega
theorem encX_data_le {l : List (Int × List UInt8)} {k : Nat} (hk : k < l.length) : l[k].2.length ≤ (encX l).length := by
  have h := encX_take_le l (k + 1)
  rw [encX_take hk] at h
  unfold fillB at h
  simp only [List.length_append] at h
  omega
set_option maxRecDepth 100000 in
set_option maxHeartbeats 400000 in
theorem extBytes_prog {w : World} {A : Option Addr} {c n : Nat} {l : List (Int × List UInt8)} (h : ExtsIn w.heap.size w A l) (hn : n = l.length) (hl : (encX l).length ≤ 1000000) (h0 : ∀ x ∈ l, 0 ≤ x.1) :
    Calls Tryz.prog 86 #[.slice A n c] w (MadeP (encX l) w) := by
  subst hn
  have hll := encX_many l
  have HN := Lib.hid h
  have H0 : Hid (∀ k (hk : k < l.length), l[k].1 = ((l[k].1.toNat : Nat) : Int)) := Lib.hid fun k hk => by have := h0 _ (List.getElem_mem hk); omega
  unfold MadeP
  clear h h0
  go_enter Tryz.func86, Tryz.ntmps86
  go_wp2_with fail
  go_loopw [3, 8] (fun v i wr => ∃ (k : Nat) (A' : Option Addr) (c' : Nat), k ≤ l.length ∧ i = .int .i64 k ∧ v = .slice A' (encX (l.take k)).length c' ∧ RowG wr w.heap.size A' c' (encX (l.take k)) ∧ Below w.heap.size w wr) (fun _ i _ => l.length - (intOf i).toNat)
  case atStart => exact ⟨0, none, 0, Nat.zero_le _, rfl, rfl, RowG.nil _ _, Below.refl _ _⟩
  case round =>
    obtain ⟨k, A', c', hk, rfl, rfl, hown, hb⟩ := hrel
    by_cases hlt : k < l.length
    · obtain ⟨b, off, Ad, cd, rfl, _, hc0, hc1, hd⟩ := HN.out.keep (fun j hj => hb.block j hj) hb.size k hlt
      have q0 : (0 : Int) ≤ k := by omega
      have q1 : (k : Int) < l.length := by omega
      have hel := encX_take_le l k
      have hdl := encX_data_le hlt
      have HS := Lib.hid (encX_take hlt)
      have e0 := H0.out k hlt
      rw [e0] at hc0
      have hwlt : w.heap.size ≤ wr.heap.size := hb.size
      have HD : Hid (Rb w.heap.size wr Ad cd l[k].2) := Lib.hid (by
        obtain ⟨b', off', Ad', cd', _, _, _, hc1', hd'⟩ := HN.out k hlt
        obtain ⟨b2, off2, Ad2, cd2, e2, hl2, _, hc2, _⟩ := HN.out k hlt
        cases e2
        have : wr.cell? ⟨b, off + k * 2 + 1, none⟩ = w.cell? ⟨b, off + k * 2 + 1, none⟩ := by unfold World.cell?; rw [hb.block b hl2]
        rw [this, hc2] at hc1
        have hc1 := Option.some.inj hc1
        cases hc1
        rename_i hdd
        exact hdd.keep fun j hj => hb.block j hj)
      have HW := Lib.hid hown
      have HB := Lib.hid hb
      clear hown hb hd e0
      have hrl := rowB_len l[k].1.toNat 2
      generalize l[k].1.toNat = y at *
      generalize l[k].2 = D at *
      generalize encX (l.take k) = R at *
      have hlt1 : wr.heap.size < (wr.alloc (.cells #[.int .i64 y, .slice Ad D.length cd] 68)).heap.size := by simp
      have HA : Hid (A' ≠ some ⟨wr.heap.size, 0, none⟩) := Lib.hid fun e => by have := (HW.out.lt e).2; omega
      have hbox := Lib.hid (gw_new (base := w.heap.size) wr A' (.cells #[.int .i64 y, .slice Ad D.length cd] 68) hwlt)
      have CN := Lib.hid (number_prog (base := w.heap.size) y 2 (HW.out.below (below_new wr (.cells #[.int .i64 y, .slice Ad D.length cd] 68))) rfl (Nat.le_trans hwlt (below_new wr _).size) (by omega) (by decide))
      have HC : Hid ((wr.alloc (.cells #[.int .i64 y, .slice Ad D.length cd] 68)).cell? ⟨wr.heap.size, 1, none⟩ = some (.slice Ad D.length cd)) := Lib.hid (by rw [World.cell?_alloc_at _ _ _ _ rfl]; rfl)
      unfold GrewP at CN
      go_wp2_with (go_at_call 83; refine CN.out.mono ?_; rintro e w1 ⟨A1, c1, rfl, hr1, hb1⟩; have d1 : w1.cell? ⟨wr.heap.size, 1, none⟩ = some (.slice Ad D.length cd) := (by refine Eq.trans ?_ HC.out; unfold World.cell?; rw [hb1.old _ hlt1 HA.out]); have R1 := Lib.hid hr1; have B1 := Lib.hid (hbox.out.trans hb1); clear hr1 hb1)
      have C2 := Lib.hid (part_prog 2 R1.out (List.length_append ..) rfl (Nat.le_trans hwlt B1.out.below.size) (by rw [List.length_append]; omega) (by omega) (by decide) (safe_old R1.out (HD.out.keep fun j hj => B1.out.below.block j hj) (Nat.le_trans hwlt B1.out.below.size)))
      unfold GrewP at C2
      refine C2.out.mono ?_
      rintro e w2 ⟨A2, c2, rfl, hr2, hb2⟩
      have R2 := Lib.hid hr2
      have B2 := Lib.hid (B1.out.trans hb2)
      clear hr2 hb2
      go_wp2_with fail
      go_roundw
      case rel => exact ⟨k + 1, A2, c2, by omega, by go_num, by rw [HS.out, List.length_append, List.length_append, rowB_len], by rw [HS.out]; exact R2.out, HB.out.trans B2.out.below⟩
      case measure => simp [intOf]; omega
    · obtain rfl : l.length = k := by omega
      rw [List.take_length] at hown
      rw [List.take_length]
      have HW := Lib.hid hown
      have HB := Lib.hid hb
      clear hown hb
      go_wp2_with fail
      go_ret
      exact ⟨A', c', rfl, HW.out, HB.out⟩
end Go.Proofs.YtbmeceaefjdpaaaGreatDoor
