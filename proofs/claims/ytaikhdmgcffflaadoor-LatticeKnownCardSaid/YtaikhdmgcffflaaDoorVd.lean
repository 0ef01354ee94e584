/- Walks of joinOf and fill: the joins and meets are laid. -/
import Derived.Test.YtaikhdmgcffflaaDoorVc
import Derived.Test.YtaikhdmgcffflaaDoorWm
import Derived.Deep.RegionWith
import Derived.Deep.RegionHeld3
namespace Go.Proofs.YtaikhdmgcffflaaDoor
open Go Go.RowKit

theorem jcL_succ (A : Nat → Nat) (bits k c : Nat) : jcL A bits (List.range (k + 1)) c = if bits &&& clo A k == bits then jcL A bits (List.range k) c &&& clo A k else jcL A bits (List.range k) c := by
  unfold jcL
  rw [List.range_succ, List.foldl_append]
  rfl
theorem jcL_le (A : Nat → Nat) (bits : Nat) : ∀ (l : List Nat) (c : Nat), jcL A bits l c ≤ c
  | [], c => Nat.le_refl _
  | x :: l, c => by
    rw [jcL, List.foldl_cons, ← jcL]
    split
    · exact Nat.le_trans (jcL_le A bits l _) Nat.and_le_left
    · exact jcL_le A bits l c
/-- What joinOf answers. -/
def joinD (n : Nat) (A : Nat → Nat) (hi bits : Nat) : Nat := (decO n A (jcL A bits (List.range n) (clo A hi))).getD 0
theorem decV1 (n : Nat) (A : Nat → Nat) (c : Nat) : (decV n A (c : Int)).1 = ((decO n A c).getD 0 : Nat) := by
  unfold decV
  rw [decI_nat]
  cases decO n A c <;> rfl

set_option maxHeartbeats 1000000 in
theorem latJoinOf_any {w : World} {b n : Nat} {N : List (List UInt8)} {A : Nat → Nat} {lo hi : Nat} {d s : Int} {j m : Nat} (h : LatM w b n N A lo hi d s j m) (g : Good n A) (hn : n ≤ 10) (hhi : hi < n) (bs : Nat) (hb : bs < 1024) :
    Calls Tryd.prog 65 #[.pointer (some ⟨b, 0, none⟩), .int .i64 bs] w fun e w' => e = .returned (.int .i64 (joinD n A hi bs : Nat)) ∧ ∃ k, w' = w.drewN k := by
  have hm := h.many
  have hh := h.high
  have hc := h.code (i := hi) (by omega) hhi
  have hcl := clo_lt10 g hn hhi
  have i1 : (0 : Int) ≤ hi := by omega
  have i2 : (hi : Int) < 10 := by omega
  have i3 : (0 : Int) ≤ n := by omega
  have i4 : (n : Int) ≤ 10 := by omega
  have HH := Lib.hid h
  clear h
  go_enter Tryd.func65, Tryd.ntmps65
  go_wp2
  go_quiet (fail)
  go_wp2
  go_quiet (fail)
  go_wp2
  go_loopw [5, 28] (fun c i wr => ∃ k q : Nat, k ≤ n ∧ i = .int .i64 k ∧ c = .int .i64 (jcL A bs (List.range k) (clo A hi) : Nat) ∧ wr = w.drewN q) (fun _ i _ => n - (intOf i).toNat)
  case atStart => exact ⟨0, _, Nat.zero_le _, rfl, rfl, World.drewN_drewN _ _ _⟩
  case round =>
    obtain ⟨k, q, hk, rfl, rfl, rfl⟩ := hrel
    have hjl := jcL_le A bs (List.range k) (clo A hi)
    by_cases hlt : k < n
    · have hck := HH.out.code (i := k) (by omega) hlt
      have hkl := clo_lt10 g hn hlt
      have hst := Lib.hid (jcL_succ A bs k (clo A hi))
      generalize jcL A bs (List.range k) (clo A hi) = jk at *
      generalize clo A k = ck at *
      have han := Lib.hid (i64_and_nat jk ck (by omega) (by omega))
      have k1 : (0 : Int) ≤ k := by omega
      have k2 : (k : Int) < n := by omega
      cases hq : (bs &&& ck == bs) with
      | true =>
        have hst' : Hid (jcL A bs (List.range (k + 1)) (clo A hi) = jk &&& ck) := by have := hst.out; rw [hq] at this; exact this
        clear hst
        go_wp2_with (go_at_call 49; refine (within_any bs ck (by omega) (by omega) _).mono ?_; rw [hq]; rintro e w' ⟨rfl, rfl⟩)
        go_roundw
        case rel => exact ⟨k + 1, _, by omega, by go_num, by rw [hst'.out, han.out], rfl⟩
        case measure => simp [intOf]; omega
      | false =>
        have hst' : Hid (jcL A bs (List.range (k + 1)) (clo A hi) = jk) := by have := hst.out; rw [hq] at this; exact this
        clear hst
        go_wp2_with (go_at_call 49; refine (within_any bs ck (by omega) (by omega) _).mono ?_; rw [hq]; rintro e w' ⟨rfl, rfl⟩)
        go_roundw
        case rel => exact ⟨k + 1, _, by omega, by go_num, by rw [hst'.out], rfl⟩
        case measure => simp [intOf]; omega
    · obtain rfl : k = n := by omega
      have hfin := Lib.hid (decV1 k A (jcL A bs (List.range k) (clo A hi)))
      go_wp2_with (go_at_call 12; refine (latDecode_any (HH.out.drewN q) hn _).mono ?_; rintro e w' ⟨rfl, rfl⟩)
      go_ret
      exact ⟨ret_int hfin.out, _, rfl⟩

/-! fill. -/
theorem jT_next (n : Nat) (A : Nat → Nat) {x y : Nat} (hn : n ≤ 10) (hy : y < n) : jT n A (x * 10 + y + 1) = fun k => if k = x * 10 + y then joinP n A x y else jT n A (x * 10 + y) k := by
  funext k
  unfold jT
  by_cases e : k = x * 10 + y
  · rw [if_pos (by omega), if_pos e, show k / 10 = x by omega, show k % 10 = y by omega]
  · rw [if_neg e]
    by_cases h : k < x * 10 + y ∧ k % 10 < n
    · rw [if_pos h, if_pos (by omega)]
    · rw [if_neg h, if_neg (by omega)]
theorem mT_next (n : Nat) (A : Nat → Nat) {x y : Nat} (hn : n ≤ 10) (hy : y < n) : mT n A (x * 10 + y + 1) = fun k => if k = x * 10 + y then meetP n A x y else mT n A (x * 10 + y) k := by
  funext k
  unfold mT
  by_cases e : k = x * 10 + y
  · rw [if_pos (by omega), if_pos e, show k / 10 = x by omega, show k % 10 = y by omega]
  · rw [if_neg e]
    by_cases h : k < x * 10 + y ∧ k % 10 < n
    · rw [if_pos h, if_pos (by omega)]
    · rw [if_neg h, if_neg (by omega)]
theorem jT_row (n : Nat) (A : Nat → Nat) {x : Nat} (hn : n ≤ 10) : jT n A (x * 10 + n) = jT n A ((x + 1) * 10) := by
  funext k
  unfold jT
  by_cases h : k < x * 10 + n ∧ k % 10 < n
  · rw [if_pos h, if_pos (by omega)]
  · rw [if_neg h, if_neg (by omega)]
theorem mT_row (n : Nat) (A : Nat → Nat) {x : Nat} (hn : n ≤ 10) : mT n A (x * 10 + n) = mT n A ((x + 1) * 10) := by
  funext k
  unfold mT
  by_cases h : k < x * 10 + n ∧ k % 10 < n
  · rw [if_pos h, if_pos (by omega)]
  · rw [if_neg h, if_neg (by omega)]
theorem latF_J {n : Nat} {nm : Nat → Value} {C : Nat → Nat} {lo hi : Nat} {d s : Int} {J M : Nat → Nat} {p v : Nat} (hp : p < 100) (i : Nat) :
    latF n nm C lo hi d s (fun k => if k = p then v else J k) M i = if i = 26 + p then .int .i64 (v : Nat) else latF n nm C lo hi d s J M i := by
  by_cases e : i = 26 + p
  · rw [if_pos e]
    unfold latF
    rw [if_neg (by omega), if_neg (by omega), if_neg (by omega), if_neg (by omega), if_neg (by omega), if_neg (by omega), if_neg (by omega), if_neg (by omega), if_pos (by omega)]
    dsimp only
    rw [if_pos (by omega)]
  · rw [if_neg e]
    unfold latF
    by_cases h0 : i = 0
    · simp only [if_pos h0]
    simp only [if_neg h0]
    by_cases h1 : i < 11
    · simp only [if_pos h1]
    simp only [if_neg h1]
    by_cases h2 : i < 21
    · simp only [if_pos h2]
    simp only [if_neg h2]
    by_cases h3 : i = 21
    · simp only [if_pos h3]
    simp only [if_neg h3]
    by_cases h4 : i = 22
    · simp only [if_pos h4]
    simp only [if_neg h4]
    by_cases h5 : i = 23
    · simp only [if_pos h5]
    simp only [if_neg h5]
    by_cases h6 : i = 24
    · simp only [if_pos h6]
    simp only [if_neg h6]
    by_cases h7 : i = 25
    · simp only [if_pos h7]
    simp only [if_neg h7]
    by_cases h8 : i < 126
    · simp only [if_pos h8]
      rw [if_neg (by omega)]
    · simp only [if_neg h8]
theorem latF_M {n : Nat} {nm : Nat → Value} {C : Nat → Nat} {lo hi : Nat} {d s : Int} {J M : Nat → Nat} {p v : Nat} (i : Nat) :
    latF n nm C lo hi d s J (fun k => if k = p then v else M k) i = if i = 126 + p then .int .i64 (v : Nat) else latF n nm C lo hi d s J M i := by
  by_cases e : i = 126 + p
  · rw [if_pos e]
    unfold latF
    rw [if_neg (by omega), if_neg (by omega), if_neg (by omega), if_neg (by omega), if_neg (by omega), if_neg (by omega), if_neg (by omega), if_neg (by omega), if_neg (by omega)]
    dsimp only
    rw [if_pos (by omega)]
  · rw [if_neg e]
    unfold latF
    by_cases h0 : i = 0
    · simp only [if_pos h0]
    simp only [if_neg h0]
    by_cases h1 : i < 11
    · simp only [if_pos h1]
    simp only [if_neg h1]
    by_cases h2 : i < 21
    · simp only [if_pos h2]
    simp only [if_neg h2]
    by_cases h3 : i = 21
    · simp only [if_pos h3]
    simp only [if_neg h3]
    by_cases h4 : i = 22
    · simp only [if_pos h4]
    simp only [if_neg h4]
    by_cases h5 : i = 23
    · simp only [if_pos h5]
    simp only [if_neg h5]
    by_cases h6 : i = 24
    · simp only [if_pos h6]
    simp only [if_neg h6]
    by_cases h7 : i = 25
    · simp only [if_pos h7]
    simp only [if_neg h7]
    by_cases h8 : i < 126
    · simp only [if_pos h8]
    · simp only [if_neg h8]
      rw [if_neg (by omega)]
theorem latF_d {n : Nat} {nm : Nat → Value} {C : Nat → Nat} {lo hi : Nat} {d d' s : Int} {J M : Nat → Nat} (i : Nat) : latF n nm C lo hi d' s J M i = if i = 23 then .int .u32 d' else latF n nm C lo hi d s J M i := by
  by_cases e : i = 23
  · subst e; rfl
  · rw [if_neg e]
    unfold latF
    simp only [if_neg e]
theorem latF_s {n : Nat} {nm : Nat → Value} {C : Nat → Nat} {lo hi : Nat} {d s s' : Int} {J M : Nat → Nat} (i : Nat) : latF n nm C lo hi d s' J M i = if i = 24 then .int .i32 s' else latF n nm C lo hi d s J M i := by
  by_cases e : i = 24
  · subst e; rfl
  · rw [if_neg e]
    unfold latF
    simp only [if_neg e]
section
variable {w : World} {b n : Nat} {N : List (List UInt8)} {A : Nat → Nat} {lo hi : Nat} {d s : Int} {j m : Nat}
theorem LatM.setJ {x y : Nat} (h : LatM w b n N A lo hi d s (x * 10 + y) m) (hn : n ≤ 10) (hx : x < n) (hy : y < n) : LatM (w.setCell ⟨b, 26 + x * 10 + y, none⟩ (.int .i64 (joinP n A x y : Nat))) b n N A lo hi d s (x * 10 + y + 1) m := by
  refine Blk.congr (Blk.set h _ _) fun i _ => ?_
  rw [jT_next n A hn hy, latF_J (by omega), Nat.add_assoc]
theorem LatM.setM {x y : Nat} (h : LatM w b n N A lo hi d s j (x * 10 + y)) (hn : n ≤ 10) (hy : y < n) : LatM (w.setCell ⟨b, 126 + x * 10 + y, none⟩ (.int .i64 (meetP n A x y : Nat))) b n N A lo hi d s j (x * 10 + y + 1) := by
  refine Blk.congr (Blk.set h _ _) fun i _ => ?_
  rw [mT_next n A hn hy, latF_M, Nat.add_assoc]
theorem LatM.setD (h : LatM w b n N A lo hi d s j m) (d' : Int) : LatM (w.setCell ⟨b, 23, none⟩ (.int .u32 d')) b n N A lo hi d' s j m :=
  Blk.congr (Blk.set h _ _) fun i _ => (latF_d i).symm
theorem LatM.setS (h : LatM w b n N A lo hi d s j m) (s' : Int) : LatM (w.setCell ⟨b, 24, none⟩ (.int .i32 s')) b n N A lo hi d s' j m :=
  Blk.congr (Blk.set h _ _) fun i _ => (latF_s i).symm
end
theorem joinD_P {n : Nat} {A : Nat → Nat} (x y : Nat) : joinD n A (hiL n A) (clo A x ||| clo A y) = joinP n A x y := rfl

theorem cell_far {w : World} {b i j k : Nat} {v u : Value} (h : w.cell? ⟨b, i, none⟩ = some u) (hne : j ≠ i) : ((w.drewN k).setCell ⟨b, j, none⟩ v).cell? ⟨b, i, none⟩ = some u :=
  (World.cell?_setCell_other (w.drewN k) ⟨b, j, none⟩ ⟨b, i, none⟩ v (fun e => hne (by cases e; rfl))).trans h
theorem cell_far0 {w : World} {b i j : Nat} {v u : Value} (h : w.cell? ⟨b, i, none⟩ = some u) (hne : j ≠ i) : (w.setCell ⟨b, j, none⟩ v).drew.cell? ⟨b, i, none⟩ = some u :=
  (World.cell?_setCell_other w ⟨b, j, none⟩ ⟨b, i, none⟩ v (fun e => hne (by cases e; rfl))).trans h
theorem grownBy_set {W V : World} {b : Nat} (h : W.grownBy V (some b)) (v : Value) (o : Nat) : W.grownBy (V.setCell ⟨b, o, none⟩ v) (some b) := World.grownBy.trans_set h v o

set_option maxHeartbeats 4000000 in
set_option maxRecDepth 100000 in
theorem latFill_any {w : World} {b n : Nat} {N : List (List UInt8)} {A : Nat → Nat} {lo : Nat} {d s : Int} (h : LatM w b n N A lo (hiL n A) d s 0 0) (g : Good n A) (t : Anti A) (hn : n ≤ 10) :
    Calls Tryd.prog 48 #[.pointer (some ⟨b, 0, none⟩)] w fun e w' => e = .returned (.tuple #[]) ∧ w.grownBy w' (some b) ∧ LatM w' b n N A lo (hiL n A) d s (n * 10) (n * 10) := by
  have hm := h.many
  have hhi := (hi_spec g t).1
  go_enter Tryd.func48, Tryd.ntmps48
  go_wp2
  go_loopw [8] (fun i wr => ∃ x : Nat, x ≤ n ∧ i = .int .i64 x ∧ LatM wr b n N A lo (hiL n A) d s (x * 10) (x * 10) ∧ w.grownBy wr (some b)) (fun i _ => n - (intOf i).toNat)
  case atStart => exact ⟨0, Nat.zero_le _, rfl, h, grownBy_drewN w 0 _⟩
  case round =>
    obtain ⟨x, hx, rfl, L, G⟩ := hrel
    clear h hm
    by_cases hlx : x < n
    · have hm := L.many
      go_wp2
      go_loopw [15] (fun i wr => ∃ y : Nat, y ≤ n ∧ i = .int .i64 y ∧ LatM wr b n N A lo (hiL n A) d s (x * 10 + y) (x * 10 + y) ∧ w.grownBy wr (some b)) (fun i _ => n - (intOf i).toNat)
      case atStart => exact ⟨0, Nat.zero_le _, rfl, L, G⟩
      case round =>
        obtain ⟨y, hy, rfl, L2, G2⟩ := hrel
        clear L G hm
        by_cases hly : y < n
        · have hcx := L2.code (i := x) (by omega) hlx
          have hcy := L2.code (i := y) (by omega) hly
          have lx := clo_lt10 g hn hlx
          have ly := clo_lt10 g hn hly
          have lo' := Lib.hid (Nat.or_lt_two_pow (n := 10) lx ly)
          have hor := Lib.hid (i64_or_nat (clo A x) (clo A y) (by omega) (by omega))
          have han := Lib.hid (i64_and_nat (clo A x) (clo A y) (by omega) (by omega))
          have i1 : (0 : Int) ≤ x := by omega
          have i2 : (x : Int) < 10 := by omega
          have i3 : (0 : Int) ≤ y := by omega
          have i4 : (y : Int) < 10 := by omega
          have con := latJoinOf_any (show LatM wr.drew b n N A lo (hiL n A) d s (x * 10 + y) (x * 10 + y) from L2) g hn hhi _ lo'.out
          rw [joinD_P, ← hor.out] at con
          obtain ⟨jv, hjv⟩ : ∃ jv, jv = joinP n A x y := ⟨_, rfl⟩
          obtain ⟨ov, hov⟩ : ∃ ov, wr.cell? ⟨b, 26 + x * 10 + y, none⟩ = some ov := ⟨_, L2.join (x := x) (y := y) (by omega) (by omega)⟩
          have hfr : wr.frozen? ⟨b, 26 + x * 10 + y, none⟩ = false := Blk.free L2 _
          rw [← hjv] at con
          have CON := Lib.hid con
          have HJV := Lib.hid hjv
          have HL2 := Lib.hid L2
          clear con hjv L2 hor lo'
          go_wp2_with fail
          go_region_held3 (fun w' => w'.cell? ⟨b, 11 + x, none⟩ = some (.int .i64 (clo A x : Nat)) ∧ w'.cell? ⟨b, 11 + y, none⟩ = some (.int .i64 (clo A y : Nat))) (first | go_keep | exact ⟨cell_far hcx (by omega), cell_far hcy (by omega)⟩)
            ((go_at_call 65; refine Calls.mono CON.out ?_; rintro e w5 ⟨rfl, q5, rfl⟩; have d1 : (wr.drew.drewN q5).cell? ⟨b, 11 + x, none⟩ = _ := hcx; have d2 : (wr.drew.drewN q5).cell? ⟨b, 11 + y, none⟩ = _ := hcy; have d3 : (wr.drew.drewN q5).cell? ⟨b, 26 + x * 10 + y, none⟩ = _ := hov; have d4 : (wr.drew.drewN q5).frozen? ⟨b, 26 + x * 10 + y, none⟩ = false := hfr))
          have L3 := LatM.setJ (x := x) (y := y) (HL2.out.drewN (1 + q5)) hn hlx hly
          rw [← HJV.out] at L3
          have G3 : w.grownBy ((wr.drewN (1 + q5)).setCell ⟨b, 26 + x * 10 + y, none⟩ (.int .i64 (jv : Nat))) (some b) := grownBy_set (V := wr.drewN (1 + q5)) ⟨G2.os, G2.tape, G2.output, G2.size, G2.block⟩ _ _
          clear HL2 G2 hcx hcy HJV CON hov hfr
          generalize (wr.drewN (1 + q5)).setCell ⟨b, 26 + x * 10 + y, none⟩ (.int .i64 (jv : Nat)) = w3 at *
          have hcx := L3.code (i := x) (by omega) hlx
          have hcy := L3.code (i := y) (by omega) hly
          have con := latDecode_any (show LatM w3.drew b n N A lo (hiL n A) d s (x * 10 + y + 1) (x * 10 + y) from L3) hn ((clo A x &&& clo A y : Nat) : Int)
          rw [decV1 n A (clo A x &&& clo A y), ← han.out] at con
          obtain ⟨mv, hmv⟩ : ∃ mv, mv = meetP n A x y := ⟨_, rfl⟩
          obtain ⟨ov, hov⟩ : ∃ ov, w3.cell? ⟨b, 126 + x * 10 + y, none⟩ = some ov := ⟨_, L3.meet (x := x) (y := y) (by omega) (by omega)⟩
          have hfr : w3.frozen? ⟨b, 126 + x * 10 + y, none⟩ = false := Blk.free L3 _
          change Calls _ _ _ _ fun e w' => e = .returned (.tuple #[.int .i64 (meetP n A x y : Nat), _]) ∧ w3.drew = w' at con
          rw [← hmv] at con
          generalize (decV n A (bits BinOp.and IntKind.i64 (clo A x : Nat) (clo A y : Nat))).2 = er at con
          have CON := Lib.hid con
          have HMV := Lib.hid hmv
          have hk1 : (w3.setCell ⟨b, 126 + x * 10 + y, none⟩ (.int .i64 (mv : Nat))).drew.cell? ⟨b, 11 + x, none⟩ = some (.int .i64 (clo A x : Nat)) := cell_far0 hcx (by omega)
          have hk2 : (w3.setCell ⟨b, 126 + x * 10 + y, none⟩ (.int .i64 (mv : Nat))).drew.cell? ⟨b, 11 + y, none⟩ = some (.int .i64 (clo A y : Nat)) := cell_far0 hcy (by omega)
          have HL3 := Lib.hid L3
          clear con hmv L3 han
          go_wp2_with fail
          go_region_held3 (fun w' => w'.cell? ⟨b, 11 + x, none⟩ = some (.int .i64 (clo A x : Nat)) ∧ w'.cell? ⟨b, 11 + y, none⟩ = some (.int .i64 (clo A y : Nat))) (first | go_keep | exact ⟨hk1, hk2⟩)
            ((go_at_call 12; refine Calls.mono CON.out ?_; rintro e w5 ⟨rfl, rfl⟩; have d1 : w3.drew.cell? ⟨b, 11 + x, none⟩ = _ := hcx; have d2 : w3.drew.cell? ⟨b, 11 + y, none⟩ = _ := hcy; have d3 : w3.drew.cell? ⟨b, 126 + x * 10 + y, none⟩ = _ := hov; have d4 : w3.drew.frozen? ⟨b, 126 + x * 10 + y, none⟩ = false := hfr))
          have L4 := LatM.setM (x := x) (y := y) HL3.out hn hly
          rw [← HMV.out] at L4
          have G4 : w.grownBy (w3.setCell ⟨b, 126 + x * 10 + y, none⟩ (.int .i64 (mv : Nat))) (some b) := grownBy_set G3 _ _
          clear HL3 G3 hcx hcy HMV CON hov hfr
          go_wp2_with fail
          go_roundw
          case rel => exact ⟨y + 1, by omega, by go_num, L4, ⟨G4.os, G4.tape, G4.output, G4.size, G4.block⟩⟩
          case measure => simp [intOf]; omega
        · obtain rfl : y = n := by omega
          have L3 : LatM wr b y N A lo (hiL y A) d s ((x + 1) * 10) ((x + 1) * 10) := by
            have h := L2
            unfold LatM at h ⊢
            rwa [jT_row y A hn, mT_row y A hn] at h
          clear L2
          go_wp2_with fail
          go_roundw
          case rel => exact ⟨x + 1, by omega, by go_num, L3, G2⟩
          case measure => simp [intOf]; omega
    · obtain rfl : x = n := by omega
      go_wp2_with fail
      go_end0
      exact ⟨rfl, G, L⟩
end Go.Proofs.YtaikhdmgcffflaaDoor
