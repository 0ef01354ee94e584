/- The chapter's small functions: row, filled, extension, isHost, plain. The chapter's filled, extension, isHost, plain. The chapter's isHost. The chapter's exts: extensions that a slice holds. -/
import Derived.Test.YtiakbmllpnabnaaGreatDoorJa
import Derived.Deep.RegionHeld3
import Derived.Deep.Cut
namespace Go.Proofs.YtiakbmllpnabnaaGreatDoor
open Go Go.RowKit

theorem byte_at (n m : Nat) : (n : Int) / ((256 ^ m : Nat) : Int) % 256 = ((UInt8.ofNat (n / 256 ^ m)).toNat : Int) := by
  rw [UInt8.toNat_ofNat']
  show _ = ((n / 256 ^ m % 256 : Nat) : Int)
  rw [Int.natCast_emod, Int.natCast_ediv]; rfl
/-- a row of one byte, just made -/
theorem rb_new (w : World) (n : Int) (y : UInt8) (h : n = y.toNat) : Rb (w.heap.size + 1) (w.alloc (.cells #[.int .u8 n] 5)) (some ⟨w.heap.size, 0, none⟩) 1 [y] := by
  subst h
  refine ⟨Nat.le_refl _, (fun e => by cases e), fun i hi => ⟨w.heap.size, 0, rfl, Nat.lt_succ_self _, ?_⟩⟩
  obtain rfl : i = 0 := by simpa using hi
  rw [World.cell?_alloc_at _ _ _ _ rfl]; rfl
theorem wpList_pushOne {ops : Array Oper} {rest : List Oper} {o : Oper} {a : Act} {Q : Exit → Act → World → Prop} (hgd : o.guard = none) (s x : Operand)
    (ho : o.op = .call { callee := .builtin .append, args := #[s, x], argTypes := #[22, 22] }) (w : World) (base : Nat) (A : Option Addr) (c n : Nat) (l : List UInt8) (v : Int) (y : UInt8) (hv : v = y.toNat) (hn : l.length = n)
    (hs : a.eval s = .slice A n c) (hx : a.eval x = .slice (some ⟨w.heap.size, 0, none⟩) 1 1) (h : RowG w base A c l) (hbase : base ≤ w.heap.size) (hlen : n + 1 ≤ 140737488355328)
    (hk : ∀ (A' : Option Addr) (c' : Nat) w', RowG w' base A' c' (l ++ [y]) → Below base w w' → wpList Tryz.prog ops Q rest (a.put o.dst (.slice A' (n + 1) c')) w') :
    wpList Tryz.prog ops Q (o :: rest) a (w.alloc (.cells #[.int .u8 v] 5)) := by
  have hb := (Below.refl base w).alloc hbase (.cells #[.int .u8 v] 5)
  refine wpList_pushG hgd s x 22 ho _ base A c n 1 l [y] _ hn rfl hs hx (h.below (below_new _ _)) (src_rb (rb_new w v y hv)) (Nat.le_trans hbase (below_new _ _).size) hlen fun A' c' w' h1 h2 _ => hk A' c' w' h1 (hb.trans h2)
set_option maxRecDepth 100000 in
set_option maxHeartbeats 400000 in
theorem row_ref7 (n k : Nat) (w : World) (hk : k ≤ 3) : Calls Tryz.prog 42 #[.int .i64 n, .int .i64 k] w (MadeP (rowB n k) w) := by
  unfold MadeP
  go_enter Tryz.func42, Tryz.ntmps42
  go_wp2_with fail
  go_loopw [5, 6] (fun v i wr => ∃ (m : Nat) (R : List UInt8) (A : Option Addr) (c : Nat), m ≤ k ∧ i = .int .i64 ((m : Int) - 1) ∧ v = .slice A R.length c ∧ RowG wr w.heap.size A c R ∧ R ++ rowB n m = rowB n k ∧ Below w.heap.size w wr) (fun _ i _ => (intOf i + 1).toNat)
  case atStart => exact ⟨k, [], none, 0, Nat.le_refl _, rfl, rfl, RowG.nil _ _, rfl, Below.refl _ _⟩
  case round =>
    obtain ⟨m, R, A, c, hm, rfl, rfl, hown, hR, hb⟩ := hrel
    have hlen : R.length ≤ 3 := by
      have := congrArg List.length hR
      rw [List.length_append, rowB_len, rowB_len] at this
      omega
    cases m with
    | zero =>
      go_wp2_with fail
      go_ret
      rw [rowB, List.append_nil] at hR
      subst hR
      exact ⟨A, c, rfl, hown, hb⟩
    | succ m =>
      have e1 : ((m + 1 : Nat) : Int) - 1 = (m : Int) := by omega
      rw [e1]
      have hcases : m = 0 ∨ m = 1 ∨ m = 2 := by omega
      rcases hcases with rfl | rfl | rfl
      · go_wp2_with (at_builtin; refine wpList_pushOne rfl (.tmp 13) (.tmp 19) rfl _ w.heap.size A c R.length R _ (UInt8.ofNat (n / 256 ^ 0)) ?_ rfl rfl rfl hown hb.size (by omega) ?_; rotate_left; intro A1 c1 w1 hr1 hb1)
        all_goals first
          | (rw [← byte_at n 0]; simp; done)
          | exact ⟨⟨0, R ++ [UInt8.ofNat (n / 256 ^ 0)], A1, c1, by omega, rfl, by rw [List.length_append]; rfl, hr1, by rw [← hR, List.append_assoc]; rfl, hb.trans hb1⟩, by simp [intOf]⟩
      · go_wp2_with (at_builtin; refine wpList_pushOne rfl (.tmp 13) (.tmp 19) rfl _ w.heap.size A c R.length R _ (UInt8.ofNat (n / 256 ^ 1)) ?_ rfl rfl rfl hown hb.size (by omega) ?_; rotate_left; intro A1 c1 w1 hr1 hb1)
        all_goals first
          | exact byte_at n 1
          | exact ⟨⟨1, R ++ [UInt8.ofNat (n / 256 ^ 1)], A1, c1, by omega, rfl, by rw [List.length_append]; rfl, hr1, by rw [← hR, List.append_assoc]; rfl, hb.trans hb1⟩, by simp [intOf]⟩
      · go_wp2_with (at_builtin; refine wpList_pushOne rfl (.tmp 13) (.tmp 19) rfl _ w.heap.size A c R.length R _ (UInt8.ofNat (n / 256 ^ 2)) ?_ rfl rfl rfl hown hb.size (by omega) ?_; rotate_left; intro A1 c1 w1 hr1 hb1)
        all_goals first
          | exact byte_at n 2
          | exact ⟨⟨2, R ++ [UInt8.ofNat (n / 256 ^ 2)], A1, c1, by omega, rfl, by rw [List.length_append]; rfl, hr1, by rw [← hR, List.append_assoc]; rfl, hb.trans hb1⟩, by simp [intOf]⟩
end Go.Proofs.YtiakbmllpnabnaaGreatDoor
namespace Go.Proofs.YtiakbmllpnabnaaGreatDoor
open Go Go.RowKit

set_option maxRecDepth 100000 in
set_option maxHeartbeats 400000 in
theorem filled_ref7 {w : World} {A : Option Addr} {c n : Nat} {z : List UInt8} (h : Rb w.heap.size w A c z) (hn : n = z.length) (hz : z.length ≤ 1000000) (k : Nat) (hk : k ≤ 3) :
    Calls Tryz.prog 43 #[.slice A n c, .int .i64 k] w (MadeP (fillB z k) w) := by
  subst hn
  have HR := Lib.hid h
  have CR := Lib.hid (row_ref7 z.length k w hk)
  have hl := rowB_len z.length k
  have HS : Hid (fillB z k = rowB z.length k ++ z) := Lib.hid rfl
  unfold MadeP at *
  generalize fillB z k = F at *
  generalize rowB z.length k = X at *
  clear h
  go_enter Tryz.func43, Tryz.ntmps43
  go_wp2_with (first
    | (go_at_call 42; refine CR.out.mono ?_; rintro e w1 ⟨A1, c1, rfl, hr1, hb1⟩; have R1 := Lib.hid hr1; have B1 := Lib.hid hb1; clear hr1 hb1)
    | (at_builtin; refine wpList_pushG rfl _ _ 22 rfl w1 w.heap.size A1 c1 k z.length X z (.slice A z.length c) hl rfl rfl rfl R1.out (src_rb ((HR.out.keep fun k hk => B1.out.block k hk).mono B1.out.size)) B1.out.size (by omega) ?_; intro A2 c2 w2 hr2 hb2 _; have R2 := Lib.hid hr2; have B2 := Lib.hid (B1.out.trans hb2); clear hr2 hb2))
  go_ret
  rw [HS.out]
  exact ⟨A2, c2, by rw [List.length_append, hl]; rfl, R2.out, B2.out⟩
set_option maxRecDepth 100000 in
set_option maxHeartbeats 400000 in
theorem extension_ref7 {w : World} {A : Option Addr} {c n : Nat} {z : List UInt8} (h : Rb w.heap.size w A c z) (hn : n = z.length) (hz : z.length ≤ 1000000) (k : Nat) :
    Calls Tryz.prog 44 #[.int .i64 k, .slice A n c] w (MadeP (encE k z) w) := by
  subst hn
  have HR := Lib.hid h
  have CR := Lib.hid (row_ref7 k 2 w (by decide))
  have hl := rowB_len k 2
  have hf : (fillB z 2).length = z.length + 2 := by unfold fillB; simp [rowB_len]; omega
  have CF : Hid (∀ w', Below w.heap.size w w' → Calls Tryz.prog 43 #[.slice A z.length c, .int .i64 2] w' (MadeP (fillB z 2) w')) := Lib.hid fun w' hb =>
    filled_ref7 ((h.keep fun k hk => hb.block k hk).mono hb.size) rfl hz 2 (by decide)
  have HS : Hid (encE k z = rowB k 2 ++ fillB z 2) := Lib.hid rfl
  unfold MadeP at *
  generalize encE k z = F at *
  generalize rowB k 2 = X at *
  generalize fillB z 2 = Y at *
  clear h
  go_enter Tryz.func44, Tryz.ntmps44
  go_wp2_with (first
    | (go_at_call 42; refine CR.out.mono ?_; rintro e w1 ⟨A1, c1, rfl, hr1, hb1⟩; have R1 := Lib.hid hr1; have B1 := Lib.hid hb1; clear hr1 hb1)
    | (go_at_call 43; refine (CF.out _ B1.out).mono ?_; rintro e w2 ⟨A2, c2, rfl, hr2, hb2⟩; have R2 := Lib.hid hr2; have R1 := Lib.hid (R1.out.below hb2); have B2 := Lib.hid (Below.and B1.out hb2); clear hr2 hb2)
    | (at_builtin; refine wpList_pushG rfl _ _ 22 rfl w2 w.heap.size A1 c1 2 (z.length + 2) X Y (.slice A2 (z.length + 2) c2) hl hf rfl rfl R1.out (by have := src_rb R2.out.rb; rw [hf] at this ⊢; exact this) B2.out.size (by omega) ?_; intro A3 c3 w3 hr3 hb3 _; have R3 := Lib.hid hr3; have B3 := Lib.hid (B2.out.trans hb3); clear hr3 hb3))
  go_ret
  rw [HS.out]
  exact ⟨A3, c3, by rw [List.length_append, hl, hf]; rfl, R3.out, B3.out⟩
set_option maxRecDepth 100000 in
set_option maxHeartbeats 400000 in
theorem plain_ref7 {w : World} {A : Option Addr} {c n : Nat} {z : List UInt8} (h : Rb w.heap.size w A c z) (hn : n = z.length) (hz : z.length ≤ 1000000) :
    Calls Tryz.prog 51 #[.slice A n c] w fun e w' => e = .returned (.bool (methOk z)) ∧ w = w' := by
  subst hn
  have HC : Hid (∀ i (hi : i < z.length), ∃ b off, A = some ⟨b, off, none⟩ ∧ w.cell? ⟨b, off + i, none⟩ = some (.int .u8 (z[i].toNat : Int))) := Lib.hid fun i hi => by
    obtain ⟨b, off, e, _, hc⟩ := h.rd i hi
    exact ⟨b, off, e, hc⟩
  clear h
  go_enter Tryz.func51, Tryz.ntmps51
  go_wp2_with fail
  go_loop [3] (fun i => ∃ k : Nat, k ≤ z.length ∧ i = .int .i64 k ∧ Hid (∀ j (hj : j < z.length), j < k → z[j] ≠ 0)) (fun i => z.length - (intOf i).toNat)
  case atStart => exact ⟨0, Nat.zero_le _, rfl, Lib.hid fun j _ h => absurd h (Nat.not_lt_zero j)⟩
  case round =>
    obtain ⟨k, hk, rfl, hall⟩ := hrel
    by_cases hlt : k < z.length
    · obtain ⟨b, off, rfl, hc⟩ := HC.out k hlt
      have q0 : (0 : Int) ≤ k := by omega
      have q1 : (k : Int) < z.length := by omega
      by_cases h0 : z[k] = 0
      · have hz0 : ((z[k]'hlt).toNat : Int) = 0 := by rw [h0]; rfl
        have hin : (0 : UInt8) ∈ z := h0 ▸ List.getElem_mem hlt
        rw [hz0] at hc
        have HM : Hid (methOk z = decide ((z.length : Int) ≤ 255)) := Lib.hid (by unfold methOk; rw [decide_eq_true hin, Bool.and_true]; exact decide_eq_decide.2 (by omega))
        clear h0 hin hz0
        go_wp2_with fail
        go_ret
        exact ⟨by rw [HM.out] <;> rfl, rfl⟩
      · have hz0 : (((z[k]'hlt).toNat : Int) == 0) = false := by
          rw [beq_eq_false_iff_ne]
          intro e
          exact h0 (UInt8.toNat_inj.1 (by show _ = 0; omega))
        have HN := Lib.hid h0
        clear h0
        go_wp2_with fail
        go_round
        case rel => exact ⟨k + 1, by omega, by go_num, Lib.hid fun j hj hjk => by
          by_cases e : j = k
          · subst e; exact HN.out
          · exact hall.out j hj (by omega)⟩
        case measure => simp [intOf]; omega
    · obtain rfl : z.length = k := by omega
      have HM : Hid (methOk z = false) := Lib.hid (by
        unfold methOk
        rw [decide_eq_false (show ¬ (0 : UInt8) ∈ z from fun hm => by
          obtain ⟨j, hj, e⟩ := List.getElem_of_mem hm
          exact hall.out j hj hj e), Bool.and_false])
      go_wp2_with fail
      go_ret
      exact ⟨by rw [HM.out] <;> rfl, rfl⟩
theorem isH_colon {l : List UInt8} (h : 58 ∈ l) : isH l = false := by
  unfold isH
  by_cases e : isPl (lowS l) = true
  · have := List.all_eq_true.1 (isPl_fit e) (lowB 58) (by unfold lowS; exact List.mem_map.2 ⟨58, h, rfl⟩)
    have h2 : fitB (lowB 58) = false := by decide
    rw [h2] at this; cases this
  · simpa using e
theorem isH_norm {l : List UInt8} (h : 58 ∉ l) : normP l = if isH l then some (lowS l, 80) else none := by
  unfold normP portN hasC isH
  rw [(hdC_none h).1, decide_eq_false h]
  simp
end Go.Proofs.YtiakbmllpnabnaaGreatDoor
namespace Go.Proofs.YtiakbmllpnabnaaGreatDoor
open Go Go.RowKit

set_option maxRecDepth 100000 in
set_option maxHeartbeats 400000 in
theorem isHost_ref7 (s : ByteArray) (w : World) (hs : s.size ≤ 1000000) :
    Calls Tryz.prog 52 #[.string s] w (BoolP (isH s.data.toList) w) := by
  have HZ := Lib.hid (Lib.size_eq s)
  have CN := Lib.hid (norm_ref s w hs)
  unfold BoolP
  go_enter Tryz.func52, Tryz.ntmps52
  go_wp2_with fail
  go_loop [3] (fun i => ∃ k : Nat, k ≤ s.size ∧ i = .int .i64 k ∧ Hid (∀ j (hj : j < s.size), j < k → s[j] ≠ 58)) (fun i => s.size - (intOf i).toNat)
  case atStart => exact ⟨0, Nat.zero_le _, rfl, Lib.hid fun j _ h => absurd h (Nat.not_lt_zero j)⟩
  case round =>
    obtain ⟨k, hk, rfl, hall⟩ := hrel
    by_cases hlt : k < s.size
    · by_cases h0 : s[k] = 58
      · have hin : (58 : UInt8) ∈ s.data.toList := h0 ▸ (by simp [ByteArray.getElem_eq_getElem_data])
        have hz0 : ((s[k]'hlt).toNat : Int) = 58 := by rw [h0]; rfl
        have HM := Lib.hid (isH_colon hin)
        clear h0 hin
        go_wp2_with fail
        go_ret
        exact ⟨by rw [HM.out] <;> rfl, Below.refl _ _⟩
      · have hz0 : (((s[k]'hlt).toNat : Int) == 58) = false := by
          rw [beq_eq_false_iff_ne]
          intro e
          exact h0 (UInt8.toNat_inj.1 (by show _ = 58; omega))
        have HN := Lib.hid h0
        clear h0
        go_wp2_with fail
        go_round
        case rel => exact ⟨k + 1, by omega, by go_num, Lib.hid fun j hj hjk => by
          by_cases e : j = k
          · subst e; exact HN.out
          · exact hall.out j hj (by omega)⟩
        case measure => simp [intOf]; omega
    · obtain rfl : s.size = k := by omega
      have hno : 58 ∉ s.data.toList := fun hm => by
        obtain ⟨j, hj, e⟩ := List.getElem_of_mem hm
        exact hall.out j (by rw [HZ.out]; exact hj) (by rw [HZ.out]; exact hj) (by rw [← e]; simp [ByteArray.getElem_eq_getElem_data])
      have HE := isH_norm hno
      unfold NormP at CN
      rw [HE] at CN
      clear HE hno hall
      cases hH : isH s.data.toList with
      | true =>
        rw [hH, if_pos rfl] at CN
        unfold normV at CN
        go_wp2_with (go_at_call 38; refine CN.out.mono ?_; rintro e w1 ⟨rfl, hb⟩)
        go_ret
        exact ⟨by rw [hH] <;> rfl, hb⟩
      | false =>
        rw [hH, if_neg Bool.false_ne_true] at CN
        unfold normV at CN
        go_wp2_with (go_at_call 38; refine CN.out.mono ?_; rintro e w1 ⟨rfl, hb⟩)
        go_ret
        exact ⟨by rw [hH] <;> rfl, hb⟩
end Go.Proofs.YtiakbmllpnabnaaGreatDoor
namespace Go.Proofs.YtiakbmllpnabnaaGreatDoor
open Go Go.RowKit

def typeR (x : Int × List UInt8) : Prop := 1 ≤ x.1 ∧ x.1 ≤ 65535 ∧ x.2.length ≤ 65535
theorem typesOk_iff : ∀ l : List (Int × List UInt8), typesOk l = true ↔ ∀ i (hi : i < l.length), typeR l[i] ∧ ∀ k (hk : k < i), (l[k]'(Nat.lt_trans hk hi)).1 ≠ l[i].1
  | [] => ⟨fun _ i hi => absurd hi (Nat.not_lt_zero i), fun _ => rfl⟩
  | x :: l => by
    rw [typesOk]
    simp only [Bool.and_eq_true, decide_eq_true_iff, Bool.not_eq_true', List.any_eq_false]
    constructor
    · rintro ⟨⟨⟨⟨h1, h2⟩, h3⟩, h4⟩, h5⟩ i hi
      cases i with
      | zero => exact ⟨⟨h1, h2, h3⟩, fun k hk => absurd hk (Nat.not_lt_zero k)⟩
      | succ i =>
        have hi' : i < l.length := by simpa using hi
        obtain ⟨r1, r2⟩ := (typesOk_iff l).1 h5 i hi'
        refine ⟨r1, fun k hk => ?_⟩
        cases k with
        | zero =>
          have := h4 l[i] (List.getElem_mem hi')
          intro e
          exact this e.symm
        | succ k => exact r2 k (by omega)
    · intro h
      obtain ⟨⟨h1, h2, h3⟩, _⟩ := h 0 (by simp)
      refine ⟨⟨⟨⟨h1, h2⟩, h3⟩, fun y hy => ?_⟩, (typesOk_iff l).2 fun i hi => ?_⟩
      · obtain ⟨i, hi, rfl⟩ := List.getElem_of_mem hy
        have := (h (i + 1) (by simpa using hi)).2 0 (by omega)
        intro e
        exact this e.symm
      · obtain ⟨r1, r2⟩ := h (i + 1) (by simpa using hi)
        exact ⟨r1, fun k hk => r2 (k + 1) (by omega)⟩

/-- extensions that a slice holds, in blocks below 'D' -/
def ExtsIn (D : Nat) (w : World) (A : Option Addr) (l : List (Int × List UInt8)) : Prop :=
  ∀ i (hi : i < l.length), ∃ b off Ad cd, A = some ⟨b, off, none⟩ ∧ b < D ∧ w.cell? ⟨b, off + i * 2, none⟩ = some (.int .i64 l[i].1) ∧ w.cell? ⟨b, off + i * 2 + 1, none⟩ = some (.slice Ad l[i].2.length cd) ∧ Rb D w Ad cd l[i].2
theorem ExtsIn.keep {D D' : Nat} {w w' : World} {A : Option Addr} {l : List (Int × List UInt8)} (h : ExtsIn D w A l) (hb : ∀ k, k < D → w'.heap[k]? = w.heap[k]?) (hD : D ≤ D') : ExtsIn D' w' A l := fun i hi => by
  obtain ⟨b, off, Ad, cd, e, hl, h1, h2, h3⟩ := h i hi
  have hc : ∀ j, w'.cell? ⟨b, j, none⟩ = w.cell? ⟨b, j, none⟩ := fun j => by unfold World.cell?; rw [hb b hl]
  exact ⟨b, off, Ad, cd, e, Nat.lt_of_lt_of_le hl hD, (hc _).trans h1, (hc _).trans h2, (h3.keep hb).mono hD⟩
theorem extsOk_bad {l : List (Int × List UInt8)} {pos : Int} {i : Nat} (hi : i < l.length) (h : ¬ (typeR l[i] ∧ ∀ k (hk : k < i), (l[k]'(Nat.lt_trans hk hi)).1 ≠ l[i].1)) : extsOk l pos = false := by
  have : typesOk l = false := by
    cases e : typesOk l with
    | false => rfl
    | true => exact absurd ((typesOk_iff l).1 e i hi) h
  unfold extsOk
  rw [this, Bool.and_false]
set_option maxRecDepth 100000 in
set_option maxHeartbeats 400000 in
theorem exts_ref7 {w : World} {A : Option Addr} {c n : Nat} {l : List (Int × List UInt8)} (h : ExtsIn w.heap.size w A l) (hn : n = l.length) (hl : l.length ≤ 1000000) (pos : Int) :
    Calls Tryz.prog 53 #[.slice A n c, .int .i64 pos] w (BoolP (extsOk l pos) w) := by
  unfold BoolP
  subst hn
  have HX := Lib.hid fun (w' : World) (hb : Below w.heap.size w w') => h.keep (fun k hk => hb.block k hk) hb.size
  clear h
  by_cases hp : 0 ≤ pos ∧ pos ≤ l.length
  · have p1 : ¬ pos < 0 := by omega
    have p2 : ¬ (l.length : Int) < pos := by omega
    have p3 : ¬ pos > (l.length : Int) := by omega
    have HP : Hid (extsOk l pos = typesOk l) := Lib.hid (by unfold extsOk; rw [decide_eq_true hp.1, decide_eq_true hp.2]; rfl)
    clear hp
    go_enter Tryz.func53, Tryz.ntmps53
    go_wp2_with fail
    go_loopw [5] (fun i wr => ∃ k : Nat, k ≤ l.length ∧ i = .int .i64 k ∧ Below w.heap.size w wr ∧ Hid (∀ i (hi : i < l.length), i < k → typeR l[i] ∧ ∀ j (hj : j < i), (l[j]'(Nat.lt_trans hj hi)).1 ≠ l[i].1)) (fun i _ => l.length - (intOf i).toNat)
    case atStart => exact ⟨0, Nat.zero_le _, rfl, Below.refl _ _, Lib.hid fun i _ h => absurd h (Nat.not_lt_zero i)⟩
    case round =>
      clear p1 p2 p3
      obtain ⟨k, hk, rfl, hbl, hall⟩ := hrel
      have HB1 := Lib.hid hbl
      clear hbl
      by_cases hlt : k < l.length
      · obtain ⟨b, off, Ad, cd, rfl, hb, hc0, hc1, _⟩ := HX.out _ HB1.out k hlt
        have q0 : (0 : Int) ≤ k := by omega
        have q1 : (k : Int) < l.length := by omega
        by_cases hr : typeR l[k]
        · obtain ⟨r1, r2, r3⟩ := hr
          have HR : Hid (typeR l[k]) := Lib.hid ⟨r1, r2, r3⟩
          have s1 : ¬ (l[k]'hlt).1 < 1 := by omega
          have s2 : ¬ 65535 < (l[k]'hlt).1 := by omega
          have s3 : ¬ 65535 < ((l[k]'hlt).2.length : Int) := by omega
          clear r1 r2 r3
          go_wp2_with fail
          clear s1 s2 s3
          go_loopw [6] (fun i wr => ∃ j : Nat, j ≤ k ∧ i = .int .i64 j ∧ Below w.heap.size w wr ∧ Hid (∀ i (hi : i < k), i < j → (l[i]'(Nat.lt_trans hi hlt)).1 ≠ l[k].1)) (fun i _ => k - (intOf i).toNat)
          case atStart => exact ⟨0, Nat.zero_le _, rfl, HB1.out, Lib.hid fun i _ h => absurd h (Nat.not_lt_zero i)⟩
          case round =>
            obtain ⟨j, hj, rfl, hbl, hin⟩ := hrel
            have HB2 := Lib.hid hbl
            clear hbl
            by_cases hjk : j < k
            · clear hc0 hc1
              obtain ⟨b1, off1, Ad1, cd1, e1, _, hc0, _, _⟩ := HX.out _ HB2.out k hlt
              cases e1
              obtain ⟨b', off', Ad', cd', e', _, hd0, _, _⟩ := HX.out _ HB2.out j (Nat.lt_trans hjk hlt)
              cases e'
              have t0 : (0 : Int) ≤ j := by omega
              have t1 : (j : Int) < l.length := by omega
              have t2 : (j : Int) < k := by omega
              by_cases he : (l[j]'(Nat.lt_trans hjk hlt)).1 = l[k].1
              · have HB : Hid (extsOk l pos = false) := Lib.hid (extsOk_bad hlt fun h => h.2 j hjk he)
                rw [he] at hd0
                clear he
                go_upto_region 11 with fail
                go_region_held3 (fun w' => w'.cell? ⟨b, off + j * 2, none⟩ = some (.int .i64 (l[k]'hlt).1) ∧ w'.cell? ⟨b, off + k * 2, none⟩ = some (.int .i64 (l[k]'hlt).1)) (first | go_keep | exact ⟨hd0, hc0⟩) (fail)
                go_wp2_with fail
                go_ret
                exact ⟨by rw [HB.out] <;> rfl, HB2.out.drew⟩
              · have HE := Lib.hid he
                go_upto_region 11 with fail
                go_region_held3 (fun w' => w'.cell? ⟨b, off + j * 2, none⟩ = some (.int .i64 (l[j]'(Nat.lt_trans hjk hlt)).1) ∧ w'.cell? ⟨b, off + k * 2, none⟩ = some (.int .i64 (l[k]'hlt).1)) (first | go_keep | exact ⟨hd0, hc0⟩) (fail)
                go_wp2_with fail
                go_roundw
                case rel => exact ⟨j + 1, by omega, by go_num, HB2.out.drew, Lib.hid fun i hi hij => by
                  by_cases e : i = j
                  · subst e; exact HE.out
                  · exact hin.out i hi (by omega)⟩
                case measure => simp [intOf]; omega
            · obtain rfl : j = k := by omega
              go_wp2_with fail
              go_roundw
              case rel => exact ⟨j + 1, by omega, by go_num, HB2.out, Lib.hid fun i hi hij => by
                by_cases e : i = j
                · subst e; exact ⟨HR.out, fun k hk => hin.out k hk hk⟩
                · exact hall.out i hi (by omega)⟩
              case measure => simp [intOf]; omega
        · have HB : Hid (extsOk l pos = false) := Lib.hid (extsOk_bad hlt fun h => hr h.1)
          have hq : (l[k]'hlt).1 < 1 ∨ (¬ (l[k]'hlt).1 < 1 ∧ 65535 < (l[k]'hlt).1) ∨ (¬ (l[k]'hlt).1 < 1 ∧ ¬ 65535 < (l[k]'hlt).1 ∧ 65535 < ((l[k]'hlt).2.length : Int)) := by
            unfold typeR at hr
            omega
          clear hr
          rcases hq with s1 | ⟨s1, s2⟩ | ⟨s1, s2, s3⟩
          all_goals
            go_wp2_with fail
            go_ret
            exact ⟨by rw [HB.out] <;> rfl, HB1.out⟩
      · obtain rfl : l.length = k := by omega
        have HT : Hid (extsOk l pos = true) := Lib.hid (by rw [HP.out]; exact (typesOk_iff l).2 fun i hi => hall.out i hi hi)
        go_wp2_with fail
        go_ret
        exact ⟨by rw [HT.out] <;> rfl, HB1.out⟩
  · have HP : Hid (extsOk l pos = false) := Lib.hid (by
      unfold extsOk
      by_cases h1 : 0 ≤ pos
      · rw [decide_eq_false (show ¬ pos ≤ l.length from fun h2 => hp ⟨h1, h2⟩)]; simp
      · rw [decide_eq_false h1]; simp)
    have hq : pos < 0 ∨ (¬ pos < 0 ∧ (l.length : Int) < pos) := by omega
    clear hp
    rcases hq with hq | ⟨hq, hr⟩
    · go_enter Tryz.func53, Tryz.ntmps53
      go_wp2_with fail
      go_ret
      exact ⟨by rw [HP.out] <;> rfl, Below.refl _ _⟩
    · go_enter Tryz.func53, Tryz.ntmps53
      go_wp2_with fail
      go_ret
      exact ⟨by rw [HP.out] <;> rfl, Below.refl _ _⟩
end Go.Proofs.YtiakbmllpnabnaaGreatDoor
