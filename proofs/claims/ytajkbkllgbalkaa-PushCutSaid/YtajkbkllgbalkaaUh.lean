/- The program's written, traverse of bytes, Bytes. -/
import Derived.Test.YtajkbkllgbalkaaUg
namespace Go.Proofs.Ytajkbkllgbalkaa
open Go Go.RowKit

theorem keepTs {base D : Nat} {B : Option Addr} {w w' : World} {c : Nat} {l : List Bs} (h : Below base w w') (ht : Ts D w B c l) (hD : D ≤ base) : Ts D w' B c l := ht.keep fun k hk => h.block k (Nat.lt_of_lt_of_le hk hD)
theorem GrewP.pre {base : Nat} {A : Option Addr} {l z : Bs} {w w1 : World} {e : Ending} {w' : World} (h : GrewP base A l z w1 e w') (hg : Gw base A A w w1) : GrewP base A l z w e w' := by
  obtain ⟨A', c', he, hr, hw⟩ := h
  exact ⟨A', c', he, hr, hg.trans hw⟩
set_option maxRecDepth 100000 in
theorem written_0 {base : Nat} {A : Option Addr} {c q : Nat} {l : Bs} {w : World} {p : Psh} {B : Option Addr} {n d : Nat} (hR : RowG w base A c l) (hq : l.length = q) (hbase : base ≤ w.heap.size) (hl : l.length ≤ 1000000000) (h0 : 0 ≤ p.ver) :
    Calls Try.prog 37 #[.slice A q c, .agg (pshA p B n d), .int .i64 1] w (GrewP base A l (writeF p 0) w) := by
  subst hq
  have hb := below_new w (.cells (pshA p B n d) 24)
  have CN := Lib.hid (number_prog (w := w.alloc (.cells (pshA p B n d) 24)) p.ver.toNat 7 (hR.below hb) rfl (Nat.le_trans hbase hb.size) (by omega) (by decide))
  have HG := Lib.hid (gw_new w A (.cells (pshA p B n d) 24) hbase)
  have d0 : (w.alloc (.cells (pshA p B n d) 24)).cell? ⟨w.heap.size, 1, none⟩ = some (.int .i64 ((p.ver.toNat : Nat) : Int)) := by rw [psh_cell, Int.toNat_of_nonneg h0]; rfl
  have HE : Hid (writeF p 0 = rowB p.ver.toNat 7) := Lib.hid rfl
  clear hR hb
  rw [HE.out]
  unfold GrewP at *
  generalize rowB p.ver.toNat 7 = Z at *
  generalize p.ver.toNat = v at *
  go_enter Try.func37, Try.ntmps37
  go_upto_region 12 with fail
  generalize w.alloc (.cells (pshA p B n d) 24) = w2 at *
  go_wp2_with (first
    | (go_at_call 69; refine (numberIn_0 _ _).mono ?_; rintro E w1 ⟨rfl, rfl⟩)
    | (go_at_call 33; refine CN.out.mono ?_; rintro E w1 ⟨A1, c1, rfl, hr1, hg1⟩; have R1 := Lib.hid hr1; have G1 := Lib.hid (HG.out.trans hg1); clear hr1 hg1))
  go_ret
  exact ⟨A1, c1, rfl, R1.out, G1.out⟩
set_option maxRecDepth 100000 in
theorem written_1 {base : Nat} {A : Option Addr} {c q : Nat} {l : Bs} {w : World} {p : Psh} {B : Option Addr} {n d : Nat} (hR : RowG w base A c l) (hq : l.length = q) (hbase : base ≤ w.heap.size) (hl : l.length ≤ 1000000000) (h0 : 0 ≤ p.frm) :
    Calls Try.prog 37 #[.slice A q c, .agg (pshA p B n d), .int .i64 2] w (GrewP base A l (writeF p 1) w) := by
  subst hq
  have hb := below_new w (.cells (pshA p B n d) 24)
  have CN := Lib.hid (number_prog (w := w.alloc (.cells (pshA p B n d) 24)) p.frm.toNat 7 (hR.below hb) rfl (Nat.le_trans hbase hb.size) (by omega) (by decide))
  have HG := Lib.hid (gw_new w A (.cells (pshA p B n d) 24) hbase)
  have d0 : (w.alloc (.cells (pshA p B n d) 24)).cell? ⟨w.heap.size, 2, none⟩ = some (.int .i64 ((p.frm.toNat : Nat) : Int)) := by rw [psh_cell, Int.toNat_of_nonneg h0]; rfl
  have HE : Hid (writeF p 1 = rowB p.frm.toNat 7) := Lib.hid rfl
  clear hR hb
  rw [HE.out]
  unfold GrewP at *
  generalize rowB p.frm.toNat 7 = Z at *
  generalize p.frm.toNat = v at *
  go_enter Try.func37, Try.ntmps37
  go_upto_region 12 with fail
  generalize w.alloc (.cells (pshA p B n d) 24) = w2 at *
  go_wp2_with (first
    | (go_at_call 69; refine (numberIn_1 _ _).mono ?_; rintro E w1 ⟨rfl, rfl⟩)
    | (go_at_call 33; refine CN.out.mono ?_; rintro E w1 ⟨A1, c1, rfl, hr1, hg1⟩; have R1 := Lib.hid hr1; have G1 := Lib.hid (HG.out.trans hg1); clear hr1 hg1))
  go_ret
  exact ⟨A1, c1, rfl, R1.out, G1.out⟩
set_option maxRecDepth 100000 in
theorem written_2 {base : Nat} {A : Option Addr} {c q : Nat} {l : Bs} {w : World} {p : Psh} {B : Option Addr} {n d : Nat} (hR : RowG w base A c l) (hq : l.length = q) (hbase : base ≤ w.heap.size) (hl : l.length ≤ 1000000000) (h0 : 0 ≤ p.node) :
    Calls Try.prog 37 #[.slice A q c, .agg (pshA p B n d), .int .i64 4] w (GrewP base A l (writeF p 2) w) := by
  subst hq
  have hb := below_new w (.cells (pshA p B n d) 24)
  have CN := Lib.hid (number_prog (w := w.alloc (.cells (pshA p B n d) 24)) p.node.toNat 7 (hR.below hb) rfl (Nat.le_trans hbase hb.size) (by omega) (by decide))
  have HG := Lib.hid (gw_new w A (.cells (pshA p B n d) 24) hbase)
  have d0 : (w.alloc (.cells (pshA p B n d) 24)).cell? ⟨w.heap.size, 3, none⟩ = some (.int .i64 ((p.node.toNat : Nat) : Int)) := by rw [psh_cell, Int.toNat_of_nonneg h0]; rfl
  have HE : Hid (writeF p 2 = rowB p.node.toNat 7) := Lib.hid rfl
  clear hR hb
  rw [HE.out]
  unfold GrewP at *
  generalize rowB p.node.toNat 7 = Z at *
  generalize p.node.toNat = v at *
  go_enter Try.func37, Try.ntmps37
  go_upto_region 12 with fail
  generalize w.alloc (.cells (pshA p B n d) 24) = w2 at *
  go_wp2_with (first
    | (go_at_call 69; refine (numberIn_2 _ _).mono ?_; rintro E w1 ⟨rfl, rfl⟩)
    | (go_at_call 33; refine CN.out.mono ?_; rintro E w1 ⟨A1, c1, rfl, hr1, hg1⟩; have R1 := Lib.hid hr1; have G1 := Lib.hid (HG.out.trans hg1); clear hr1 hg1))
  go_ret
  exact ⟨A1, c1, rfl, R1.out, G1.out⟩
set_option maxRecDepth 100000 in
theorem written_3 {base : Nat} {A : Option Addr} {c q : Nat} {l : Bs} {w : World} {p : Psh} {B : Option Addr} {n d : Nat} (hR : RowG w base A c l) (hq : l.length = q) (hbase : base ≤ w.heap.size) (hl : l.length ≤ 1000000000) (h0 : 0 ≤ p.tick) :
    Calls Try.prog 37 #[.slice A q c, .agg (pshA p B n d), .int .i64 8] w (GrewP base A l (writeF p 3) w) := by
  subst hq
  have hb := below_new w (.cells (pshA p B n d) 24)
  have CN := Lib.hid (number_prog (w := w.alloc (.cells (pshA p B n d) 24)) p.tick.toNat 7 (hR.below hb) rfl (Nat.le_trans hbase hb.size) (by omega) (by decide))
  have HG := Lib.hid (gw_new w A (.cells (pshA p B n d) 24) hbase)
  have d0 : (w.alloc (.cells (pshA p B n d) 24)).cell? ⟨w.heap.size, 4, none⟩ = some (.int .i64 ((p.tick.toNat : Nat) : Int)) := by rw [psh_cell, Int.toNat_of_nonneg h0]; rfl
  have HE : Hid (writeF p 3 = rowB p.tick.toNat 7) := Lib.hid rfl
  clear hR hb
  rw [HE.out]
  unfold GrewP at *
  generalize rowB p.tick.toNat 7 = Z at *
  generalize p.tick.toNat = v at *
  go_enter Try.func37, Try.ntmps37
  go_upto_region 12 with fail
  generalize w.alloc (.cells (pshA p B n d) 24) = w2 at *
  go_wp2_with (first
    | (go_at_call 69; refine (numberIn_3 _ _).mono ?_; rintro E w1 ⟨rfl, rfl⟩)
    | (go_at_call 33; refine CN.out.mono ?_; rintro E w1 ⟨A1, c1, rfl, hr1, hg1⟩; have R1 := Lib.hid hr1; have G1 := Lib.hid (HG.out.trans hg1); clear hr1 hg1))
  go_ret
  exact ⟨A1, c1, rfl, R1.out, G1.out⟩
set_option maxRecDepth 100000 in
theorem written_4 {base : Nat} {A : Option Addr} {c q : Nat} {l : Bs} {w : World} {p : Psh} {B : Option Addr} {n d : Nat} (hR : RowG w base A c l) (hq : l.length = q) (hbase : base ≤ w.heap.size) (hl : l.length ≤ 1000000000) (h0 : 0 ≤ p.head) :
    Calls Try.prog 37 #[.slice A q c, .agg (pshA p B n d), .int .i64 16] w (GrewP base A l (writeF p 4) w) := by
  subst hq
  have hb := below_new w (.cells (pshA p B n d) 24)
  have CN := Lib.hid (number_prog (w := w.alloc (.cells (pshA p B n d) 24)) p.head.toNat 7 (hR.below hb) rfl (Nat.le_trans hbase hb.size) (by omega) (by decide))
  have HG := Lib.hid (gw_new w A (.cells (pshA p B n d) 24) hbase)
  have d0 : (w.alloc (.cells (pshA p B n d) 24)).cell? ⟨w.heap.size, 5, none⟩ = some (.int .i64 ((p.head.toNat : Nat) : Int)) := by rw [psh_cell, Int.toNat_of_nonneg h0]; rfl
  have HE : Hid (writeF p 4 = rowB p.head.toNat 7) := Lib.hid rfl
  clear hR hb
  rw [HE.out]
  unfold GrewP at *
  generalize rowB p.head.toNat 7 = Z at *
  generalize p.head.toNat = v at *
  go_enter Try.func37, Try.ntmps37
  go_upto_region 12 with fail
  generalize w.alloc (.cells (pshA p B n d) 24) = w2 at *
  go_wp2_with (first
    | (go_at_call 69; refine (numberIn_4 _ _).mono ?_; rintro E w1 ⟨rfl, rfl⟩)
    | (go_at_call 33; refine CN.out.mono ?_; rintro E w1 ⟨A1, c1, rfl, hr1, hg1⟩; have R1 := Lib.hid hr1; have G1 := Lib.hid (HG.out.trans hg1); clear hr1 hg1))
  go_ret
  exact ⟨A1, c1, rfl, R1.out, G1.out⟩
set_option maxRecDepth 100000 in
theorem written_5 {base : Nat} {A : Option Addr} {c q : Nat} {l : Bs} {w : World} {p : Psh} {B : Option Addr} {n d : Nat} (hR : RowG w base A c l) (hq : l.length = q) (hbase : base ≤ w.heap.size) (hl : l.length ≤ 1000000000) (h0 : 0 ≤ p.tail) :
    Calls Try.prog 37 #[.slice A q c, .agg (pshA p B n d), .int .i64 32] w (GrewP base A l (writeF p 5) w) := by
  subst hq
  have hb := below_new w (.cells (pshA p B n d) 24)
  have CN := Lib.hid (number_prog (w := w.alloc (.cells (pshA p B n d) 24)) p.tail.toNat 7 (hR.below hb) rfl (Nat.le_trans hbase hb.size) (by omega) (by decide))
  have HG := Lib.hid (gw_new w A (.cells (pshA p B n d) 24) hbase)
  have d0 : (w.alloc (.cells (pshA p B n d) 24)).cell? ⟨w.heap.size, 6, none⟩ = some (.int .i64 ((p.tail.toNat : Nat) : Int)) := by rw [psh_cell, Int.toNat_of_nonneg h0]; rfl
  have HE : Hid (writeF p 5 = rowB p.tail.toNat 7) := Lib.hid rfl
  clear hR hb
  rw [HE.out]
  unfold GrewP at *
  generalize rowB p.tail.toNat 7 = Z at *
  generalize p.tail.toNat = v at *
  go_enter Try.func37, Try.ntmps37
  go_upto_region 12 with fail
  generalize w.alloc (.cells (pshA p B n d) 24) = w2 at *
  go_wp2_with (first
    | (go_at_call 69; refine (numberIn_5 _ _).mono ?_; rintro E w1 ⟨rfl, rfl⟩)
    | (go_at_call 33; refine CN.out.mono ?_; rintro E w1 ⟨A1, c1, rfl, hr1, hg1⟩; have R1 := Lib.hid hr1; have G1 := Lib.hid (HG.out.trans hg1); clear hr1 hg1))
  go_ret
  exact ⟨A1, c1, rfl, R1.out, G1.out⟩
set_option maxRecDepth 100000 in
theorem written_6 {base : Nat} {A : Option Addr} {c q : Nat} {l : Bs} {w : World} {p : Psh} {B : Option Addr} {n d : Nat} (hR : RowG w base A c l) (hq : l.length = q) (hbase : base ≤ w.heap.size) (hl : l.length ≤ 1000000000) (h0 : p.text.length ≤ 1000000000) :
    Calls Try.prog 37 #[.slice A q c, .agg (pshA p B n d), .int .i64 64] w (GrewP base A l (writeF p 6) w) := by
  subst hq
  have hb := below_new w (.cells (pshA p B n d) 24)
  have CN := Lib.hid (counted_prog (w := w.alloc (.cells (pshA p B n d) 24)) p.text (hR.below hb) rfl (Nat.le_trans hbase hb.size) (by omega) (by omega))
  have HG := Lib.hid (gw_new w A (.cells (pshA p B n d) 24) hbase)
  have d0 : (w.alloc (.cells (pshA p B n d) 24)).cell? ⟨w.heap.size, 7, none⟩ = some (.string ⟨p.text.toArray⟩) := by rw [psh_cell]; rfl
  have HE : Hid (writeF p 6 = cntL p.text) := Lib.hid rfl
  clear hR hb
  rw [HE.out]
  unfold GrewP at *
  generalize cntL p.text = Z at *
  go_enter Try.func37, Try.ntmps37
  go_upto_region 3 with fail
  generalize w.alloc (.cells (pshA p B n d) 24) = w2 at *
  go_wp2_with (go_at_call 68; refine CN.out.mono ?_; rintro E w1 ⟨A1, c1, rfl, hr1, hg1⟩; have R1 := Lib.hid hr1; have G1 := Lib.hid (HG.out.trans hg1); clear hr1 hg1)
  go_ret
  exact ⟨A1, c1, rfl, R1.out, G1.out⟩
theorem flat_len {l : List Bs} {m : Nat} (h : ∀ s ∈ l, s.length ≤ m) : (l.flatMap cntL).length ≤ l.length * (m + 3) := by
  induction l with
  | nil => simp
  | cons a l ih =>
    have h1 := ih fun s hs => h s (by simp [hs])
    have h2 := h a (by simp)
    rw [List.flatMap_cons, List.length_append, List.length_cons, Nat.succ_mul]
    have : (cntL a).length = a.length + 3 := by unfold cntL; rw [List.length_append, rowB_len]; omega
    omega
set_option maxRecDepth 100000 in
theorem written_7 {base D : Nat} {A : Option Addr} {c q : Nat} {l : Bs} {w : World} {p : Psh} {B : Option Addr} {n d : Nat} (hR : RowG w base A c l) (hq : l.length = q) (hbase : base ≤ w.heap.size) (hl : l.length ≤ 1000000000) (hp : PsIn D w p B n d) (hD : D ≤ base) (hf : p.lines.length ≤ 1000) :
    Calls Try.prog 37 #[.slice A q c, .agg (pshA p B n d), .int .i64 128] w (GrewP base A l (writeF p 7) w) := by
  subst hq
  have hb := below_new w (.cells (pshA p B n d) 24)
  have hn := hp.len
  subst hn
  have CN := Lib.hid (number_prog (w := w.alloc (.cells (pshA p B p.lines.length d) 24)) p.lines.length 2 (hR.below hb) rfl (Nat.le_trans hbase hb.size) (by omega) (by decide))
  have HG := Lib.hid (gw_new w A (.cells (pshA p B p.lines.length d) 24) hbase)
  have HX := Lib.hid (box_new w 24 (pshA p B p.lines.length d))
  have HP := Lib.hid ((hp.keep fun k hk => hb.block k (Nat.lt_of_lt_of_le (Nat.lt_of_lt_of_le hk hD) hbase)))
  have hrl := rowB_len p.lines.length 2
  have HW : Hid (writeF p 7 = rowB p.lines.length 2 ++ p.lines.flatMap cntL) := Lib.hid rfl
  have HBS := Lib.hid hbase
  have HTS := Lib.hid hp.ts
  have HF := Lib.hid hp.short
  have HAW : Hid (∀ g, A = some ⟨g, 0, none⟩ → g < w.heap.size) := Lib.hid fun g e => (hR.lt e).2
  have HS : Hid (w.heap.size < (w.alloc (.cells (pshA p B p.lines.length d) 24)).heap.size) := Lib.hid (by simp)
  have d0 : (w.alloc (.cells (pshA p B p.lines.length d) 24)).cell? ⟨w.heap.size, 8, none⟩ = some (.slice B p.lines.length d) := by rw [psh_cell]; rfl
  clear hR hb hp
  rw [HW.out]
  unfold GrewP at *
  generalize rowB p.lines.length 2 = H at *
  generalize p.lines = L at *
  go_enter Try.func37, Try.ntmps37
  go_upto_region 5 with fail
  generalize w.alloc (.cells (pshA p B L.length d) 24) = w2 at *
  have H8 : Hid (∀ (w1 : World) (A1 : Option Addr), Gw base A A1 w2 w1 → w1.cell? ⟨w.heap.size, 8, none⟩ = some (.slice B L.length d)) := Lib.hid fun w1 A1 hg => by
    have hk := hg.old w.heap.size HS.out (fun e => absurd (HAW.out _ e) (Nat.lt_irrefl _))
    unfold World.cell? at d0 ⊢
    rw [show w1.heap[(⟨w.heap.size, 8, none⟩ : Addr).block]? = _ from hk]
    exact d0
  go_wp2_with (go_at_call 33; refine CN.out.mono ?_; rintro E w1 ⟨A1, c1, rfl, hr1, hg1⟩; have R1 := Lib.hid hr1; have G1 := Lib.hid hg1; have e0 := H8.out _ _ hg1; clear hr1 hg1)
  clear CN H8 HP HAW d0 e0
  go_loopw [0, 26] (fun v i wr => ∃ (j : Nat) (A' : Option Addr) (c' : Nat), j ≤ L.length ∧ i = .int .i64 j ∧ v = .slice A' (l ++ (H ++ (L.take j).flatMap cntL)).length c' ∧ RowG wr base A' c' (l ++ (H ++ (L.take j).flatMap cntL)) ∧ Gw base A A' w wr) (fun _ i _ => L.length - (intOf i).toNat)
  case atStart => exact ⟨0, A1, c1, Nat.zero_le _, rfl, by rw [List.take_zero, List.flatMap_nil, List.append_nil, List.length_append, hrl], by rw [List.take_zero, List.flatMap_nil, List.append_nil]; exact R1.out, HG.out.trans G1.out⟩
  case round =>
    obtain ⟨j, A', c', hj, rfl, rfl, hown, hg⟩ := hrel
    by_cases hlt : j < L.length
    · obtain ⟨b, off, rfl, _, hc⟩ := (keepTs hg.below HTS.out hD).rd j hlt
      have q0 : (0 : Int) ≤ j := by omega
      have q1 : (j : Int) < L.length := by omega
      have hsz : (L[j]'hlt).length ≤ 1000000 := HF.out _ (List.getElem_mem hlt)
      have hfl := flat_len (l := L.take j) (m := 1000000) fun s hs => HF.out s (List.mem_of_mem_take hs)
      have hll : (l ++ (H ++ (L.take j).flatMap cntL)).length ≤ 10000000000 := by
        rw [List.length_append, List.length_append, hrl]
        have h2 : (L.take j).length ≤ 1000 := by rw [List.length_take]; omega
        have h3 := Nat.mul_le_mul_right (1000000 + 3) h2
        omega
      have CT := Lib.hid (counted_prog (L[j]'hlt) hown rfl (Nat.le_trans HBS.out hg.below.size) hll (by omega))
      have HT : Hid ((L.take (j + 1)).flatMap cntL = (L.take j).flatMap cntL ++ cntL (L[j]'hlt)) := Lib.hid (by rw [List.take_succ_eq_append_getElem hlt, List.flatMap_append, List.flatMap_singleton])
      have GG := Lib.hid hg
      clear hown hg hfl hll hsz
      unfold GrewP at CT
      generalize (L[j]'hlt) = z at *
      generalize cntL z = Y at *
      generalize (L.take j).flatMap cntL = R at *
      generalize hX : l ++ (H ++ R) = X at *
      go_wp2_with (go_at_call 68; refine CT.out.mono ?_; rintro E w3 ⟨A3, c3, rfl, hr3, hg3⟩; have R3 := Lib.hid hr3; have G3 := Lib.hid (GG.out.trans hg3); clear hr3 hg3)
      go_roundw
      case rel => exact ⟨j + 1, A3, c3, by omega, by go_num, by rw [HT.out, ← List.append_assoc H, ← List.append_assoc l, hX, List.length_append], by rw [HT.out, ← List.append_assoc H, ← List.append_assoc l, hX]; exact R3.out, G3.out⟩
      case measure => simp [intOf]; omega
    · obtain rfl : j = L.length := by omega
      rw [List.take_length] at hown ⊢
      have RR := Lib.hid hown
      have GG := Lib.hid hg
      clear hown hg
      go_wp2_with fail
      go_ret
      exact ⟨A', c', by rw [← List.length_append]; rfl, RR.out, GG.out⟩
theorem written_any {base D : Nat} {A : Option Addr} {c q : Nat} {l : Bs} {w : World} {p : Psh} {B : Option Addr} {n d : Nat} (hR : RowG w base A c l) (hq : l.length = q) (hbase : base ≤ w.heap.size) (hl : l.length ≤ 1000000000) (hp : PsIn D w p B n d) (hD : D ≤ base) (hc : checkP p = true) (k : Nat) (hk : k < 8) (hm : (fldL p.kind).contains k = true) :
    Calls Try.prog 37 #[.slice A q c, .agg (pshA p B n d), .int .i64 (bitI k)] w (GrewP base A l (writeF p k) w) := by
  have hv := check_ver hc
  have hs := check_all hc k hk
  unfold stepK at hs
  rw [if_pos hm] at hs
  match k, hk, hs with
  | 0, _, hs => exact written_0 hR hq hbase hl hv.1
  | 1, _, hs =>
    have hs : (decide (1 ≤ p.frm) && decide (p.frm < p.ver)) = true := hs
    rw [Bool.and_eq_true, decide_eq_true_iff] at hs
    exact written_1 hR hq hbase hl (by omega)
  | 2, _, hs => exact written_2 hR hq hbase hl ((inR_iff _ _ _).1 hs).1
  | 3, _, hs => exact written_3 hR hq hbase hl ((inR_iff _ _ _).1 hs).1
  | 4, _, hs => exact written_4 hR hq hbase hl ((inR_iff _ _ _).1 hs).1
  | 5, _, hs => exact written_5 hR hq hbase hl ((inR_iff _ _ _).1 hs).1
  | 6, _, hs => exact written_6 hR hq hbase hl hp.txt
  | 7, _, hs =>
    have hs : areL p.lines = true := hs
    unfold areL at hs
    rw [Bool.and_eq_true, Bool.and_eq_true, decide_eq_true_iff] at hs
    exact written_7 hR hq hbase hl hp hD hs.1.2
set_option maxRecDepth 100000 in
theorem bytes1_any {base D g : Nat} {A : Option Addr} {c q : Nat} {l : Bs} {w : World} {p : Psh} {B : Option Addr} {n d : Nat} (hR : RowG w base A c l) (hq : l.length = q) (hbase : base ≤ w.heap.size) (hl : l.length ≤ 1000000000) (hp : PsIn D w p B n d) (hD : D ≤ base) (hc : checkP p = true) (hg : Box w g 24 (pshA p B n d)) (k : Nat) (hk : k < 8) (hm : (fldL p.kind).contains k = true) :
    Calls Try.prog 36 #[.slice A q c, .int .i64 (bitI k), .pointer (some ⟨g, 0, none⟩)] w (GrewP base A l (writeF p k) w) := by
  subst hq
  have CW := Lib.hid (written_any hR rfl hbase hl hp hD hc k hk hm)
  have HG := Lib.hid hg
  clear hR hp hc hg hk hm
  unfold GrewP at *
  generalize writeF p k = Z at *
  generalize bitI k = f at *
  go_enter Try.func36, Try.ntmps36
  go_wp2_with (first
    | (refine wpList_load_row rfl 24 (.tmp 2) rfl g rfl 24 _ (0, 0) _ HG.out Try.underlying24 rfl pshInfo ?_)
    | (go_at_call 37; refine CW.out.mono ?_; rintro E w1 ⟨A1, c1, rfl, hr1, hg1⟩; have R1 := Lib.hid hr1; have G1 := Lib.hid hg1; clear hr1 hg1))
  go_ret
  exact ⟨A1, c1, rfl, R1.out, G1.out⟩
/-- what the fields ahead of a place are written as -/
def preW (p : Psh) (k : Nat) : Bs := (List.range k).flatMap fun j => if (fldL p.kind).contains j then writeF p j else []
theorem preW_succ (p : Psh) (k : Nat) : preW p (k + 1) = preW p k ++ if (fldL p.kind).contains k then writeF p k else [] := by
  unfold preW
  rw [List.range_succ, List.flatMap_append, List.flatMap_singleton]
theorem preW_8 (p : Psh) : preW p 8 = (fldL p.kind).flatMap (writeF p) := by
  rw [preW_succ, preW_succ, preW_succ, preW_succ, preW_succ, preW_succ, preW_succ, preW_succ, show preW p 0 = [] from rfl]
  rcases kinds p.kind with (h | h | h | h | h) | ⟨h, _⟩
  · rw [h]; simp [fldL]
  · rw [h]; simp [fldL]
  · rw [h]; simp [fldL]
  · rw [h]; simp [fldL]
  · rw [h]; simp [fldL]
  · rw [h]; simp
theorem preW_le (p : Psh) : ∀ k, k ≤ 8 → (preW p k).length ≤ (preW p 8).length := fun k hk => by
  have key : ∀ j, (preW p k).length ≤ (preW p (k + j)).length := fun j => by
    induction j with
    | zero => exact Nat.le_refl _
    | succ j ih => rw [← Nat.add_assoc, preW_succ, List.length_append]; omega
  have := key (8 - k)
  rwa [Nat.add_sub_of_le hk] at this
set_option maxRecDepth 100000 in
theorem trav_bytes {base g : Nat} {A0 : Option Addr} {c0 q0 : Nat} {l0 : Bs} {w : World} {p : Psh} (hR : RowG w base A0 c0 l0) (hq : l0.length = q0) (hl : (l0 ++ preW p 8).length ≤ 1000000000)
    (HC : ∀ (k : Nat) (A : Option Addr) (c : Nat) (l : Bs) (w' : World), k < 8 → (fldL p.kind).contains k = true → RowG w' base A c l → l.length ≤ 1000000000 → Gw base A0 A w w' → Calls Try.prog 36 #[.slice A l.length c, .int .i64 (bitI k), .pointer (some ⟨g, 0, none⟩)] w' (GrewP base A l (writeF p k) w')) :
    Calls Try.prog 34 #[.int .i64 (fldN p.kind), .slice A0 q0 c0, .func (.func 36) #[] #[.pointer (some ⟨g, 0, none⟩)]] w (GrewP base A0 l0 (preW p 8) w) := by
  subst hq
  have HC := Lib.hid HC
  have HR := Lib.hid hR
  have HL := Lib.hid hl
  clear hR hl
  unfold GrewP at *
  go_enter Try.func34, Try.ntmps34
  go_wp2_with fail
  go_loopw [1, 7] (fun v i wr => ∃ (k : Nat) (A : Option Addr) (c : Nat), k ≤ 8 ∧ i = .int .i64 (bitI k) ∧ v = .slice A (l0 ++ preW p k).length c ∧ RowG wr base A c (l0 ++ preW p k) ∧ Gw base A0 A w wr) (fun _ i _ => (256 - intOf i).toNat)
  case atStart => exact ⟨0, A0, c0, Nat.zero_le _, rfl, by rw [show preW p 0 = [] from rfl, List.append_nil], by rw [show preW p 0 = [] from rfl, List.append_nil]; exact HR.out, Gw.refl _ _ _⟩
  case round =>
    obtain ⟨k, A, c, hk, rfl, rfl, hr, hg⟩ := hrel
    by_cases hlt : k < 8
    · have q1 := bitI_le k hlt
      have q2 := bitI_pos k
      have q3 := and_bit p.kind k hlt
      have HS := Lib.hid (bitI_succ k)
      have HRR := Lib.hid hr
      have HG := Lib.hid hg
      have hll : (l0 ++ preW p k).length ≤ 1000000000 := by
        have h1 := HL.out
        have h2 := preW_le p k hk
        rw [List.length_append] at h1 ⊢
        omega
      have CC := Lib.hid fun hm => HC.out k A c (l0 ++ preW p k) wr hlt hm hr hll hg
      have HT := Lib.hid (preW_succ p k)
      clear hr hg
      generalize fldN p.kind = N at *
      cases hm : (fldL p.kind).contains k with
      | true =>
        replace q3 : (bits BinOp.and IntKind.i64 N (bitI k) == 0) = false := by rw [q3, hm]; rfl
        rw [hm, if_pos rfl] at HT
        have CC := Lib.hid (CC.out hm)
        clear hm
        generalize writeF p k = Z at *
        generalize hX : l0 ++ preW p k = X at *
        generalize hx : bitI k = x at *
        go_wp2_with (go_at_call 36; refine CC.out.mono ?_; rintro e w1 ⟨A1, c1, rfl, hr1, hg1⟩; have R1 := Lib.hid hr1; have G1 := Lib.hid (HG.out.trans hg1); clear hr1 hg1)
        go_roundw
        case rel => exact ⟨k + 1, A1, c1, by omega, by rw [HS.out], by rw [HT.out, ← List.append_assoc, hX, List.length_append], by rw [HT.out, ← List.append_assoc, hX]; exact R1.out, G1.out⟩
        case measure => simp [intOf]; omega
      | false =>
        replace q3 : (bits BinOp.and IntKind.i64 N (bitI k) == 0) = true := by rw [q3, hm]; rfl
        rw [hm, if_neg (by decide), List.append_nil] at HT
        clear hm
        generalize hx : bitI k = x at *
        go_wp2_with fail
        go_roundw
        case rel => exact ⟨k + 1, A, c, by omega, by rw [HS.out], by rw [HT.out], by rw [HT.out]; exact HRR.out, HG.out⟩
        case measure => simp [intOf]; omega
    · obtain rfl : k = 8 := by omega
      have q1 : ¬ bitI 8 ≤ 128 := by decide
      have HRR := Lib.hid hr
      have HG := Lib.hid hg
      clear hr hg
      generalize bitI 8 = x at *
      go_wp2_with fail
      go_ret
      exact ⟨A, c, by rw [← List.length_append]; rfl, HRR.out, HG.out⟩
end Go.Proofs.Ytajkbkllgbalkaa
