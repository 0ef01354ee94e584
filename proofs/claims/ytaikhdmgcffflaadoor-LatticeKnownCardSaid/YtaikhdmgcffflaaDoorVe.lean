/- Walks of Once.Do over fill, of Join, Meet and JoinAll. -/
import Derived.Test.YtaikhdmgcffflaaDoorVd
namespace Go.Proofs.YtaikhdmgcffflaaDoor
open Go Go.RowKit

theorem grownBy_same {W V U : World} {r : Option Nat} (h : W.grownBy V r) (o : U.os = V.os) (t : U.tape = V.tape) (p : U.output = V.output) (k : U.heap = V.heap) : W.grownBy U r :=
  ⟨o.trans h.os, t.trans h.tape, p.trans h.output, by rw [k]; exact h.size, fun i hi hne => by rw [k]; exact h.block i hi hne⟩
theorem grownBy_rfl (W : World) (r : Option Nat) : W.grownBy W r := grownBy_drewN W 0 r
theorem grownBy_drew {W V : World} {r : Option Nat} (h : W.grownBy V r) : W.grownBy V.drew r := ⟨h.os, h.tape, h.output, h.size, h.block⟩

set_option maxRecDepth 100000 in
set_option maxHeartbeats 1600000 in
theorem latSlow_any {w : World} {b n : Nat} {N : List (List UInt8)} {A : Nat → Nat} {lo : Nat} (h : LatM w b n N A lo (hiL n A) 0 0 0 0) (g : Good n A) (t : Anti A) (hn : n ≤ 10) :
    Calls Tryd.prog 64 #[.pointer (some ⟨b, 23, none⟩), .func (.func 48) #[.pointer (some ⟨b, 0, none⟩)] #[]] w fun e w' => e = .returned (.tuple #[]) ∧ w.grownBy w' (some b) ∧ LatM w' b n N A lo (hiL n A) 1 0 (n * 10) (n * 10) := by
  have hs := h.state
  have hfs : w.frozen? ⟨b, 24, none⟩ = false := Blk.free h _
  have L1 := h.setS 1
  have G1 : w.grownBy (w.setCell ⟨b, 24, none⟩ (.int .i32 1)) (some b) := grownBy_set (grownBy_rfl w _) _ _
  have hd1 := L1.done
  have hnot : ∀ (x : Bool) (w : World), (Op.unary .not (.bool x)).run Tryd.prog w = .ok (.bool (!x)) w := fun _ _ => rfl
  have HL1 := Lib.hid L1
  clear L1 h
  go_enter_defers Tryd.func64, Tryd.ntmps64
  go_wp2_with (go_at_call 79; refine (lock_free b 24 _ hs hfs).mono ?_; rintro e w' ⟨rfl, rfl⟩)
  generalize w.setCell ⟨b, 24, none⟩ (.int .i32 1) = w1 at *
  go_wp2_with (first
    | (go_at_call 63; refine (load_any ⟨b, 23, none⟩ 0 _ hd1).mono ?_; rintro e w' ⟨rfl, rfl⟩)
    | (go_at_call 48; refine (latFill_any HL1.out g t hn).mono ?_; rintro e w2 ⟨rfl, G2, L2⟩))
  try go_end0
  try go_wp2
  have G3 : w.grownBy (w2.drew.setCell ⟨b, 23, none⟩ (.int .u32 1)) (some b) := grownBy_set (grownBy_drew (grownBy_trans G1 G2)) _ _
  have L3 := LatM.setD (show LatM w2.drew _ _ _ _ _ _ _ _ _ _ from L2) 1
  refine leaves_cons (f := 81) (args := #[.pointer (some ⟨b, 23, none⟩), .bool true]) (by simp) (by simp [go_sem]) ?_
  refine (store_deferred ⟨b, 23, none⟩ _ .returning _ L2.done (Blk.free L2 _)).mono ?_
  rintro e u' w'' ⟨rfl, rfl, rfl⟩
  refine leaves_cons (f := 80) (args := #[.pointer (some ⟨b, 24, none⟩)]) (by simp [settle]) (by simp [go_sem]) ?_
  refine (unlock_deferred b 24 _ _ L3.state (Blk.free L3 _)).mono ?_
  rintro e u' w'' ⟨rfl, rfl, rfl⟩
  have G4 := grownBy_set G3 (.int .i32 0) 24
  have L4 := L3.setS 0
  simp [Leaves, settle, results, Tryd.results64]
  exact ⟨G4, L4⟩

/-- Do, not yet done. -/
theorem latDo_first {w : World} {b n : Nat} {N : List (List UInt8)} {A : Nat → Nat} {lo : Nat} (h : LatM w b n N A lo (hiL n A) 0 0 0 0) (g : Good n A) (t : Anti A) (hn : n ≤ 10) :
    Calls Tryd.prog 47 #[.pointer (some ⟨b, 23, none⟩), .func (.func 48) #[.pointer (some ⟨b, 0, none⟩)] #[]] w fun e w' => e = .returned (.tuple #[]) ∧ w.grownBy w' (some b) ∧ LatM w' b n N A lo (hiL n A) 1 0 (n * 10) (n * 10) := by
  have hd := h.done
  have hnot : ∀ (x : Bool) (w : World), (Op.unary .not (.bool x)).run Tryd.prog w = .ok (.bool (!x)) w := fun _ _ => rfl
  have HL := Lib.hid h
  clear h
  go_enter Tryd.func47, Tryd.ntmps47
  go_wp2_with (first
    | (go_at_call 63; refine (load_any ⟨b, 23, none⟩ 0 _ hd).mono ?_; rintro e w' ⟨rfl, rfl⟩)
    | (go_at_call 64; refine (latSlow_any HL.out g t hn).mono ?_; rintro e w2 ⟨rfl, G2, L2⟩))
  go_end0
  exact ⟨rfl, G2, L2⟩

/-- A lattice as it stands between two calls. -/
def PL (w : World) (b n : Nat) (N : List (List UInt8)) (A : Nat → Nat) : Prop := LatM w b n N A (loL n A) (hiL n A) 0 0 0 0 ∨ LatM w b n N A (loL n A) (hiL n A) 1 0 (n * 10) (n * 10)
theorem PL.some {w : World} {b n : Nat} {N : List (List UInt8)} {A : Nat → Nat} (h : PL w b n N A) : ∃ d j m, LatM w b n N A (loL n A) (hiL n A) d 0 j m := by
  rcases h with h | h
  · exact ⟨_, _, _, h⟩
  · exact ⟨_, _, _, h⟩
theorem LatM.kept {w w' : World} {b n : Nat} {N : List (List UInt8)} {A : Nat → Nat} {lo hi : Nat} {d s : Int} {j m : Nat} (h : LatM w b n N A lo hi d s j m) {row : Option Nat} (hg : w.grownBy w' row) (hne : some b ≠ row) : LatM w' b n N A lo hi d s j m := Blk.kept h hg hne
theorem LatM.lt {w : World} {b n : Nat} {N : List (List UInt8)} {A : Nat → Nat} {lo hi : Nat} {d s : Int} {j m : Nat} (h : LatM w b n N A lo hi d s j m) : b < w.heap.size := Blk.lt h
theorem PL.lt {w : World} {b n : Nat} {N : List (List UInt8)} {A : Nat → Nat} (h : PL w b n N A) : b < w.heap.size := by
  obtain ⟨d, j, m, h⟩ := h.some
  exact h.lt
theorem PL.kept {w w' : World} {b n : Nat} {N : List (List UInt8)} {A : Nat → Nat} (h : PL w b n N A) {row : Option Nat} (hg : w.grownBy w' row) (hne : Option.some b ≠ row) : PL w' b n N A := by
  rcases h with h | h
  · exact .inl (h.kept hg hne)
  · exact .inr (h.kept hg hne)
theorem PL.drewN {w : World} {b n : Nat} {N : List (List UInt8)} {A : Nat → Nat} (h : PL w b n N A) (k : Nat) : PL (w.drewN k) b n N A := h

/-- What a join and a meet are, of any two numbers. -/
def joinI (n : Nat) (A : Nat → Nat) (a c : Int) : Nat := if isLb n a && isLb n c then joinP n A a.toNat c.toNat else hiL n A
def meetI (n : Nat) (A : Nat → Nat) (a c : Int) : Nat := if isLb n a && isLb n c then meetP n A a.toNat c.toNat else loL n A
theorem isLb_no {n : Nat} {a c : Int} (h : ¬ ((0 ≤ a ∧ a < n) ∧ (0 ≤ c ∧ c < n))) : (isLb n a && isLb n c) = false := by
  unfold isLb
  rcases Classical.not_and_iff_not_or_not.1 h with h | h
  · rw [decide_eq_false h]; rfl
  · rw [decide_eq_false h, Bool.and_false]
theorem jT_full {n : Nat} {A : Nat → Nat} {x y : Nat} (hn : n ≤ 10) (hx : x < n) (hy : y < n) : jT n A (n * 10) (x * 10 + y) = joinP n A x y := by
  unfold jT
  rw [if_pos (by omega), show (x * 10 + y) / 10 = x by omega, show (x * 10 + y) % 10 = y by omega]
theorem mT_full {n : Nat} {A : Nat → Nat} {x y : Nat} (hn : n ≤ 10) (hx : x < n) (hy : y < n) : mT n A (n * 10) (x * 10 + y) = meetP n A x y := by
  unfold mT
  rw [if_pos (by omega), show (x * 10 + y) / 10 = x by omega, show (x * 10 + y) % 10 = y by omega]

section
variable {w : World} {b n : Nat} {N : List (List UInt8)} {A : Nat → Nat}
/-- Do, done or not. -/
theorem latDo_any (h : PL w b n N A) (g : Good n A) (t : Anti A) (hn : n ≤ 10) :
    Calls Tryd.prog 47 #[.pointer (some ⟨b, 23, none⟩), .func (.func 48) #[.pointer (some ⟨b, 0, none⟩)] #[]] w fun e w' => e = .returned (.tuple #[]) ∧ w.grownBy w' (some b) ∧ LatM w' b n N A (loL n A) (hiL n A) 1 0 (n * 10) (n * 10) := by
  rcases h with h | h
  · exact latDo_first h g t hn
  · exact (do_done ⟨b, 23, none⟩ 1 (by decide) _ w h.done).mono fun _ _ ⟨he, hw⟩ => ⟨he, hw ▸ grownBy_rfl w _, hw ▸ h⟩

theorem latJoin_yes (h : PL w b n N A) (g : Good n A) (t : Anti A) (hn : n ≤ 10) (x y : Nat) (hx : x < n) (hy : y < n) : Calls Tryd.prog 22 #[.pointer (some ⟨b, 0, none⟩), .int .i64 x, .int .i64 y] w fun e w' =>
    e = .returned (.int .i64 (joinP n A x y : Nat)) ∧ w.grownBy w' (some b) ∧ PL w' b n N A := by
  have hm : w.cell? ⟨b, 0, none⟩ = some (.int .i64 n) := by obtain ⟨d, j, m, h⟩ := h.some; exact h.many
  have HP := Lib.hid h
  clear h
  have i1 : (0 : Int) ≤ x := by omega
  have i2 : (x : Int) < 10 := by omega
  have i3 : (0 : Int) ≤ y := by omega
  have i4 : (y : Int) < 10 := by omega
  have hmf : ∀ (fn : Fn) (first cap : Array Value) (w : World), (Instr.makeFunc fn first cap).run Tryd.prog w = .ok (.func fn first cap) w := fun _ _ _ _ => rfl
  go_enter Tryd.func22, Tryd.ntmps22
  go_wp2_with (first
    | (go_at_call 46; refine (latHas_yes b n _ _ hm (by omega)).mono ?_; rintro e w' ⟨rfl, rfl⟩)
    | (go_at_call 47; refine (latDo_any HP.out g t hn).mono ?_; rintro e w2 ⟨rfl, G2, L2⟩; have hc := L2.join (x := x) (y := y) (by omega) (by omega); rw [jT_full hn hx hy] at hc; have HL2 := Lib.hid L2; clear L2))
  go_ret
  exact ⟨rfl, G2, .inr HL2.out⟩
theorem latMeet_yes (h : PL w b n N A) (g : Good n A) (t : Anti A) (hn : n ≤ 10) (x y : Nat) (hx : x < n) (hy : y < n) : Calls Tryd.prog 25 #[.pointer (some ⟨b, 0, none⟩), .int .i64 x, .int .i64 y] w fun e w' =>
    e = .returned (.int .i64 (meetP n A x y : Nat)) ∧ w.grownBy w' (some b) ∧ PL w' b n N A := by
  have hm : w.cell? ⟨b, 0, none⟩ = some (.int .i64 n) := by obtain ⟨d, j, m, h⟩ := h.some; exact h.many
  have HP := Lib.hid h
  clear h
  have i1 : (0 : Int) ≤ x := by omega
  have i2 : (x : Int) < 10 := by omega
  have i3 : (0 : Int) ≤ y := by omega
  have i4 : (y : Int) < 10 := by omega
  have hmf : ∀ (fn : Fn) (first cap : Array Value) (w : World), (Instr.makeFunc fn first cap).run Tryd.prog w = .ok (.func fn first cap) w := fun _ _ _ _ => rfl
  go_enter Tryd.func25, Tryd.ntmps25
  go_wp2_with (first
    | (go_at_call 46; refine (latHas_yes b n _ _ hm (by omega)).mono ?_; rintro e w' ⟨rfl, rfl⟩)
    | (go_at_call 47; refine (latDo_any HP.out g t hn).mono ?_; rintro e w2 ⟨rfl, G2, L2⟩; have hc := L2.meet (x := x) (y := y) (by omega) (by omega); rw [mT_full hn hx hy] at hc; have HL2 := Lib.hid L2; clear L2))
  go_ret
  exact ⟨rfl, G2, .inr HL2.out⟩

theorem latJoin_no (h : PL w b n N A) (a c : Int) (ho : ¬ ((0 ≤ a ∧ a < n) ∧ (0 ≤ c ∧ c < n))) : Calls Tryd.prog 22 #[.pointer (some ⟨b, 0, none⟩), .int .i64 a, .int .i64 c] w fun e w' =>
    e = .returned (.int .i64 (hiL n A : Nat)) ∧ w = w' := by
  obtain ⟨d, j, m, h⟩ := h.some
  have hm := h.many
  have hh := h.high
  clear h
  by_cases ha : 0 ≤ a ∧ a < n
  · obtain ⟨x, rfl, hx⟩ := isLb_nat ha
    have hc : ¬ (0 ≤ c ∧ c < n) := fun h => ho ⟨ha, h⟩
    clear ho ha
    go_enter Tryd.func22, Tryd.ntmps22
    go_wp2_with fail
    refine (latHas_yes b n x _ hm hx).mono ?_
    rintro e w' ⟨rfl, rfl⟩
    go_wp2_with fail
    refine (latHas_no b n c _ hm hc).mono ?_
    rintro e w' ⟨rfl, rfl⟩
    go_wp2_with fail
    refine (latHigh_any b _ _ hh).mono ?_
    rintro e w' ⟨rfl, rfl⟩
    go_wp2_with fail
    go_ret
    exact ⟨rfl, rfl⟩
  · go_enter Tryd.func22, Tryd.ntmps22
    go_wp2_with fail
    refine (latHas_no b n a _ hm ha).mono ?_
    rintro e w' ⟨rfl, rfl⟩
    go_wp2_with fail
    refine (latHigh_any b _ _ hh).mono ?_
    rintro e w' ⟨rfl, rfl⟩
    go_wp2_with fail
    go_ret
    exact ⟨rfl, rfl⟩
theorem latMeet_no (h : PL w b n N A) (a c : Int) (ho : ¬ ((0 ≤ a ∧ a < n) ∧ (0 ≤ c ∧ c < n))) : Calls Tryd.prog 25 #[.pointer (some ⟨b, 0, none⟩), .int .i64 a, .int .i64 c] w fun e w' =>
    e = .returned (.int .i64 (loL n A : Nat)) ∧ w = w' := by
  obtain ⟨d, j, m, h⟩ := h.some
  have hm := h.many
  have hh := h.low
  clear h
  by_cases ha : 0 ≤ a ∧ a < n
  · obtain ⟨x, rfl, hx⟩ := isLb_nat ha
    have hc : ¬ (0 ≤ c ∧ c < n) := fun h => ho ⟨ha, h⟩
    clear ho ha
    go_enter Tryd.func25, Tryd.ntmps25
    go_wp2_with fail
    refine (latHas_yes b n x _ hm hx).mono ?_
    rintro e w' ⟨rfl, rfl⟩
    go_wp2_with fail
    refine (latHas_no b n c _ hm hc).mono ?_
    rintro e w' ⟨rfl, rfl⟩
    go_wp2_with fail
    refine (latLow_any b _ _ hh).mono ?_
    rintro e w' ⟨rfl, rfl⟩
    go_wp2_with fail
    go_ret
    exact ⟨rfl, rfl⟩
  · go_enter Tryd.func25, Tryd.ntmps25
    go_wp2_with fail
    refine (latHas_no b n a _ hm ha).mono ?_
    rintro e w' ⟨rfl, rfl⟩
    go_wp2_with fail
    refine (latLow_any b _ _ hh).mono ?_
    rintro e w' ⟨rfl, rfl⟩
    go_wp2_with fail
    go_ret
    exact ⟨rfl, rfl⟩

theorem latJoin_any (h : PL w b n N A) (g : 0 < n → Good n A ∧ Anti A) (hn : n ≤ 10) (a c : Int) : Calls Tryd.prog 22 #[.pointer (some ⟨b, 0, none⟩), .int .i64 a, .int .i64 c] w fun e w' =>
    e = .returned (.int .i64 (joinI n A a c : Nat)) ∧ w.grownBy w' (some b) ∧ PL w' b n N A := by
  by_cases hac : (0 ≤ a ∧ a < n) ∧ (0 ≤ c ∧ c < n)
  · obtain ⟨x, rfl, hx⟩ := isLb_nat hac.1
    obtain ⟨y, rfl, hy⟩ := isLb_nat hac.2
    have e1 : joinI n A x y = joinP n A x y := by simp [joinI, isLb, hx, hy]
    rw [e1]
    exact latJoin_yes h (g (by omega)).1 (g (by omega)).2 hn x y hx hy
  · have e1 : joinI n A a c = hiL n A := by unfold joinI; rw [isLb_no hac]; rfl
    rw [e1]
    exact (latJoin_no h a c hac).mono fun _ _ ⟨he, hw⟩ => ⟨he, hw ▸ grownBy_rfl w _, hw ▸ h⟩
theorem latMeet_any (h : PL w b n N A) (g : 0 < n → Good n A ∧ Anti A) (hn : n ≤ 10) (a c : Int) : Calls Tryd.prog 25 #[.pointer (some ⟨b, 0, none⟩), .int .i64 a, .int .i64 c] w fun e w' =>
    e = .returned (.int .i64 (meetI n A a c : Nat)) ∧ w.grownBy w' (some b) ∧ PL w' b n N A := by
  by_cases hac : (0 ≤ a ∧ a < n) ∧ (0 ≤ c ∧ c < n)
  · obtain ⟨x, rfl, hx⟩ := isLb_nat hac.1
    obtain ⟨y, rfl, hy⟩ := isLb_nat hac.2
    have e1 : meetI n A x y = meetP n A x y := by simp [meetI, isLb, hx, hy]
    rw [e1]
    exact latMeet_yes h (g (by omega)).1 (g (by omega)).2 hn x y hx hy
  · have e1 : meetI n A a c = loL n A := by unfold meetI; rw [isLb_no hac]; rfl
    rw [e1]
    exact (latMeet_no h a c hac).mono fun _ _ ⟨he, hw⟩ => ⟨he, hw ▸ grownBy_rfl w _, hw ▸ h⟩
end
theorem latJoin_nil (a c : Int) (w : World) : Calls Tryd.prog 22 #[.pointer none, .int .i64 a, .int .i64 c] w fun e w' => e = .returned (.int .i64 0) ∧ w = w' := by
  go_enter Tryd.func22, Tryd.ntmps22
  go_wp2_with (first
    | (go_at_call 46; refine (latHas_nil _ _).mono ?_; rintro e w' ⟨rfl, rfl⟩)
    | (go_at_call 21; refine (latHigh_nil _).mono ?_; rintro e w' ⟨rfl, rfl⟩))
  go_ret
  exact ⟨rfl, rfl⟩
theorem latMeet_nil (a c : Int) (w : World) : Calls Tryd.prog 25 #[.pointer none, .int .i64 a, .int .i64 c] w fun e w' => e = .returned (.int .i64 0) ∧ w = w' := by
  go_enter Tryd.func25, Tryd.ntmps25
  go_wp2_with (first
    | (go_at_call 46; refine (latHas_nil _ _).mono ?_; rintro e w' ⟨rfl, rfl⟩)
    | (go_at_call 20; refine (latLow_nil _).mono ?_; rintro e w' ⟨rfl, rfl⟩))
  go_ret
  exact ⟨rfl, rfl⟩

/-! JoinAll. -/
def lv (l : List Int) : List Value := l.map (Value.int .i64)
theorem Rd.lab {w : World} {A : Option Addr} {l : List Int} (h : Rd w A (lv l)) (i : Nat) (hi : i < l.length) : ∃ b off, A = some ⟨b, off, none⟩ ∧ b < w.heap.size ∧ w.cell? ⟨b, off + i, none⟩ = some (.int .i64 l[i]) := by
  obtain ⟨b, off, e, hl, hc⟩ := h i (by simpa [lv] using hi)
  refine ⟨b, off, e, hl, hc.trans ?_⟩
  simp [lv]
def jAll (n : Nat) (A : Nat → Nat) (l : List Int) : Nat := l.foldl (fun (x : Nat) a => joinI n A x a) (loL n A)
theorem jAll_take (n : Nat) (A : Nat → Nat) (l : List Int) (k : Nat) (hk : k < l.length) : jAll n A (l.take (k + 1)) = joinI n A (jAll n A (l.take k)) l[k] := by
  unfold jAll
  rw [List.take_succ_eq_append_getElem hk, List.foldl_append]
  rfl
theorem latJoinAll_any {w : World} {b n : Nat} {N : List (List UInt8)} {A : Nat → Nat} (h : PL w b n N A) (g : 0 < n → Good n A ∧ Anti A) (hn : n ≤ 10) (As : Option Addr) (cs : Nat) (l : List Int) (hl : ∀ w', w.grownBy w' (some b) → Rd w' As (lv l)) (hll : l.length ≤ 1000000) :
    Calls Tryd.prog 26 #[.pointer (some ⟨b, 0, none⟩), .slice As l.length cs] w fun e w' => e = .returned (.int .i64 (jAll n A l : Nat)) ∧ w.grownBy w' (some b) ∧ PL w' b n N A := by
  have hlo : w.cell? ⟨b, 21, none⟩ = some (.int .i64 (loL n A : Nat)) := by obtain ⟨d, j, m, h⟩ := h.some; exact h.low
  have HP := Lib.hid h
  have HR := Lib.hid hl
  clear h hl
  go_enter Tryd.func26, Tryd.ntmps26
  go_wp2_with (go_at_call 20; refine (latLow_any b _ _ hlo).mono ?_; rintro e w' ⟨rfl, rfl⟩)
  go_loopw [5, 12] (fun v i wr => ∃ k : Nat, k ≤ l.length ∧ i = .int .i64 k ∧ v = .int .i64 (jAll n A (l.take k) : Nat) ∧ w.grownBy wr (some b) ∧ PL wr b n N A) (fun _ i _ => l.length - (intOf i).toNat)
  case atStart => exact ⟨0, Nat.zero_le _, rfl, rfl, grownBy_rfl _ _, HP.out⟩
  case round =>
    obtain ⟨k, hk, rfl, rfl, G, P⟩ := hrel
    by_cases hlt : k < l.length
    · obtain ⟨bb, off, rfl, hbb, hc⟩ := (HR.out wr G).lab k hlt
      have hst := Lib.hid (jAll_take n A l k hlt)
      have HQ := Lib.hid P
      have k1 : (0 : Int) ≤ k := by omega
      have k2 : (k : Int) < l.length := by omega
      clear P
      go_wp2_with (go_at_call 22; refine (latJoin_any HQ.out g hn _ _).mono ?_; rintro e w2 ⟨rfl, G2, P2⟩)
      go_roundw
      case rel => exact ⟨k + 1, by omega, by go_num, by rw [hst.out], grownBy_trans G G2, P2⟩
      case measure => simp [intOf]; omega
    · have e : l.take k = l := List.take_of_length_le (by omega)
      rw [e]
      go_wp2_with fail
      go_ret
      exact ⟨rfl, G, P⟩
theorem latJoinAll_nil (As : Option Addr) (cs : Nat) (l : List Int) (w : World) (hl : Rd w As (lv l)) (hll : l.length ≤ 1000000) :
    Calls Tryd.prog 26 #[.pointer none, .slice As l.length cs] w fun e w' => e = .returned (.int .i64 0) ∧ w = w' := by
  have HR := Lib.hid hl
  clear hl
  go_enter Tryd.func26, Tryd.ntmps26
  go_wp2_with (go_at_call 20; refine (latLow_nil _).mono ?_; rintro e w' ⟨rfl, rfl⟩)
  go_loop [5, 12] (fun v i => ∃ k : Nat, k ≤ l.length ∧ i = .int .i64 k ∧ v = .int .i64 0) (fun _ i => l.length - (intOf i).toNat)
  case atStart => exact ⟨0, Nat.zero_le _, rfl, rfl⟩
  case round =>
    obtain ⟨k, hk, rfl, rfl⟩ := hrel
    by_cases hlt : k < l.length
    · obtain ⟨bb, off, rfl, hbb, hc⟩ := HR.out.lab k hlt
      have k1 : (0 : Int) ≤ k := by omega
      have k2 : (k : Int) < l.length := by omega
      go_wp2_with (go_at_call 22; refine (latJoin_nil _ _ _).mono ?_; rintro e w2 ⟨rfl, rfl⟩)
      go_round
      case rel => exact ⟨k + 1, by omega, by go_num, rfl⟩
      case measure => simp [intOf]; omega
    · go_wp2_with fail
      go_ret
      exact ⟨rfl, rfl⟩
end Go.Proofs.YtaikhdmgcffflaaDoor
