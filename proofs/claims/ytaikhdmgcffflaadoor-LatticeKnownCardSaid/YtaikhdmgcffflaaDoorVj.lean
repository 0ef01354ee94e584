/- The chapter's example (works), and rows of names. -/
import Derived.Test.YtaikhdmgcffflaaDoorVi
namespace Go.Proofs.YtaikhdmgcffflaaDoor
open Go Go.RowKit

/-- A lattice that was made since w. -/
structure LtS (w : World) (b n : Nat) (N : List (List UInt8)) (A : Nat → Nat) (W : World) : Prop where
  tab : Tab W
  lat : PL W b n N A
  bel : Below w.heap.size w W
  ge : w.heap.size ≤ b
section
variable {w W W' : World} {b n : Nat} {N : List (List UInt8)} {A : Nat → Nat}
theorem LtS.below (h : LtS w b n N A W) (hb : Below W.heap.size W W') : LtS w b n N A W' :=
  ⟨h.tab.below hb h.tab.lt, h.lat.kept (grownBy_below hb none) (by simp), h.bel.trans (hb.mono h.bel.size), h.ge⟩
theorem LtS.drewN (h : LtS w b n N A W) (q : Nat) : LtS w b n N A (W.drewN q) := h.below (below_drewN (Below.refl _ _) q)
theorem LtS.turn (h : LtS w b n N A W) (hw : 0 < w.heap.size) (hg : W.grownBy W' (some b)) (hl : PL W' b n N A) : LtS w b n N A W' :=
  ⟨tab_grown h.tab hg (by have := h.ge; omega), hl, h.bel.grown hg h.bel.size (fun k e => by cases e; exact h.ge), h.ge⟩
end

theorem fails_yes (A0 : Option Addr) (c0 : Nat) (N : List (List UInt8)) (A1 : Option Addr) (c1 : Nat) (L : List (Int × Int)) (want : Int) (w : World) (hT : Tab w) (hR : Rd w A0 (sv N)) (hc : N.length ≤ c0) (hnl : N.length ≤ 1000000) (hL : ∀ y ∈ N, y.length ≤ maxLen) (hP : Rd w A1 (pvI L)) (hll : L.length ≤ 1000)
    (hw : want ≠ 0) (hm : mkE N L = want) :
    Calls Tryd.prog 16 #[.slice A0 N.length c0, .slice A1 L.length c1, .int .i64 want] w fun e w' => e = .returned (.bool true) ∧ Below w.heap.size w w' := by
  have con := Lib.hid (make_any A0 c0 N A1 c1 L w hT hR hc hnl hL hP hll)
  have HM := Lib.hid hm
  clear hR hL hP hm
  go_enter Tryd.func16, Tryd.ntmps16
  go_wp2_with fail
  refine Calls.mono con.out ?_
  rintro e w1 ⟨hb1, ⟨_, rfl⟩ | ⟨hr, _⟩⟩
  · rw [HM.out]
    go_wp2_with fail
    go_ret
    exact ⟨rfl, hb1⟩
  · rw [HM.out] at hr
    exact absurd hr hw

def wN : List (List UInt8) := [[108, 111, 119], [97], [98], [104, 105, 103, 104]]
def wL : List (Int × Int) := [(0, 1), (0, 2), (1, 3), (2, 3)]
def wA : Nat → Nat := ofL (natL wL)
theorem w_mk : mkE wN wL = 0 := by decide +kernel
theorem w_len (l : List (List UInt8)) (h : l.all (fun y => decide (y.length ≤ 12)) = true) : ∀ y ∈ l, y.length ≤ maxLen := fun y hy => by
  have := List.all_eq_true.1 h y hy
  simp at this
  unfold maxLen
  omega

set_option maxHeartbeats 4000000 in
set_option maxRecDepth 100000 in
theorem works_any (w : World) (hT : Tab w) : Calls Tryd.prog 9 #[] w fun e w' => e = .returned (.bool true) ∧ Below w.heap.size w w' := by
  have h0 := hT.lt
  have B1 := below_new w (.cells (sv wN).toArray 9)
  have B2 := Below.and B1 (below_new _ (.cells (pvI wL).toArray 41))
  have T2 := hT.below B2 h0
  have R1 : Rd ((w.alloc (.cells (sv wN).toArray 9)).alloc (.cells (pvI wL).toArray 41)) (some ⟨w.heap.size, 0, none⟩) (sv wN) := (Rd.made w (sv wN) 9).below (below_new _ _)
  have R2 : Rd ((w.alloc (.cells (sv wN).toArray 9)).alloc (.cells (pvI wL).toArray 41)) (some ⟨w.heap.size + 1, 0, none⟩) (pvI wL) := by
    have := Rd.made (w.alloc (.cells (sv wN).toArray 9)) (pvI wL) 41
    rwa [World.size_alloc] at this
  have con := make_any _ 4 wN _ 4 wL _ T2 R1 (by decide) (by decide) (w_len _ (by decide)) R2 (by decide)
  change Calls _ _ #[.slice _ 4 4, .slice _ 4 4] _ _ at con
  have CON := Lib.hid con
  have HB2 := Lib.hid B2
  have HT2 := Lib.hid T2
  clear con R1 R2 T2 B1 B2 hT
  go_enter Tryd.func9, Tryd.ntmps9
  go_wp2_with fail
  refine Calls.mono CON.out ?_
  rintro e w1 ⟨hb1, ⟨hr, _⟩ | ⟨_, ok, b, rfl, hge, P⟩⟩
  · exact absurd w_mk hr
  have S : LtS w b 4 wN wA w1 := ⟨HT2.out.below hb1 HT2.out.lt, P, Below.and HB2.out hb1, by have := HB2.out.size; omega⟩
  have g : 0 < 4 → Good 4 wA ∧ Anti wA := fun _ => ⟨ok.good, ok.anti⟩
  have G := Lib.hid g
  clear P ok g hb1 HT2 HB2 CON hge
  go_wp2_with fail
  obtain ⟨d, j, m, L⟩ := S.lat.some
  refine (latLeq_any L (fun h => (G.out h).1) (by decide) 1 2).mono ?_
  rw [show leqI 4 wA 1 2 = false by decide +kernel]
  rintro e w2 ⟨rfl, q, rfl⟩
  replace S := S.drewN q
  clear L
  generalize w1.drewN q = w2 at *
  go_wp2_with fail
  obtain ⟨d, j, m, L⟩ := S.lat.some
  refine (latLeq_any L (fun h => (G.out h).1) (by decide) 0 3).mono ?_
  rw [show leqI 4 wA 0 3 = true by decide +kernel]
  rintro e w3 ⟨rfl, q, rfl⟩
  replace S := S.drewN q
  clear L
  generalize w2.drewN q = w3 at *
  go_wp2_with fail
  refine (latJoin_any S.lat G.out (by decide) 1 2).mono ?_
  rw [show joinI 4 wA 1 2 = 3 by decide +kernel]
  rintro e w4 ⟨rfl, hg, P⟩
  replace S := S.turn h0 hg P
  clear hg P
  go_wp2_with fail
  refine (latMeet_any S.lat G.out (by decide) 1 2).mono ?_
  rw [show meetI 4 wA 1 2 = 0 by decide +kernel]
  rintro e w5 ⟨rfl, hg, P⟩
  replace S := S.turn h0 hg P
  clear hg P
  go_wp2_with fail
  refine (latJoin_any S.lat G.out (by decide) 1 9).mono ?_
  rw [show joinI 4 wA 1 9 = 3 by decide +kernel]
  rintro e w6 ⟨rfl, hg, P⟩
  replace S := S.turn h0 hg P
  clear hg P
  obtain ⟨d, j, m, L⟩ := S.lat.some
  have HL := Lib.hid L
  have l1 := L.low
  have l2 := L.high
  rw [show loL 4 wA = 0 by decide +kernel] at l1
  rw [show hiL 4 wA = 3 by decide +kernel] at l2
  clear L
  go_wp2_with fail
  refine (latLow_any b 0 w6 l1).mono ?_
  rintro e w' ⟨rfl, rfl⟩
  go_wp2_with fail
  refine (latHigh_any b 3 w6 l2).mono ?_
  rintro e w' ⟨rfl, rfl⟩
  go_wp2_with fail
  refine (latName_any HL.out (by decide) 2).mono ?_
  rw [show nameI 4 wN 2 = [98] by decide +kernel]
  rintro e w' ⟨rfl, rfl⟩
  go_wp2_with fail
  refine (latFind_any HL.out (by decide) [98]).mono ?_
  rw [show findV 4 wN [98] = (2, true) by decide +kernel]
  rintro e w' ⟨rfl, rfl⟩
  go_wp2_with fail
  refine (latFind_any HL.out (by decide) [99]).mono ?_
  rw [show findV 4 wN [99] = (0, false) by decide +kernel]
  rintro e w' ⟨rfl, rfl⟩
  go_wp2_with fail
  refine (latDecode_any HL.out (by decide) 5).mono ?_
  rw [show decV 4 wA 5 = (2, 0) by decide +kernel]
  rintro e w' ⟨rfl, rfl⟩
  go_wp2_with fail
  refine (latDecode_any HL.out (by decide) 6).mono ?_
  rw [show decV 4 wA 6 = (0, 4) by decide +kernel]
  rintro e w' ⟨rfl, rfl⟩
  go_wp2_with fail
  refine (latCode_any HL.out (by decide) 1).mono ?_
  rw [show codeI 4 wA 1 = 3 by decide +kernel]
  rintro e w' ⟨rfl, rfl⟩
  go_wp2_with fail
  refine (latCode_any HL.out (by decide) 3).mono ?_
  rw [show codeI 4 wA 3 = 15 by decide +kernel]
  rintro e w' ⟨rfl, rfl⟩
  clear HL l1 l2
  go_wp2_with fail
  have S7 := S.below (below_new w6 (.cells (sv [[97], [98]]).toArray 9))
  have c1 := fails_yes _ 2 [[97], [98]] none 0 [] 30 _ S7.tab (Rd.made w6 (sv [[97], [98]]) 9) (by decide) (by decide) (w_len _ (by decide)) (Rd.nil _ _) (by decide) (by decide) (by decide +kernel)
  change Calls _ _ #[.slice _ 2 2, .slice none 0 0, _] _ _ at c1
  refine c1.mono ?_
  clear c1
  rintro e w7 ⟨rfl, hb7⟩
  replace S := S7.below hb7
  clear S7 hb7
  go_wp2_with fail
  have S7 := S.below (below_new w7 (.cells (sv [[97], [97]]).toArray 9))
  have c1 := fails_yes _ 2 [[97], [97]] none 0 [] 31 _ S7.tab (Rd.made w7 (sv [[97], [97]]) 9) (by decide) (by decide) (w_len _ (by decide)) (Rd.nil _ _) (by decide) (by decide) (by decide +kernel)
  change Calls _ _ #[.slice _ 2 2, .slice none 0 0, _] _ _ at c1
  refine c1.mono ?_
  clear c1
  rintro e w8 ⟨rfl, hb8⟩
  replace S := S7.below hb8
  clear S7 hb8
  go_wp2_with fail
  have S7 := (S.below (below_new w8 (.cells (sv [[97], [98]]).toArray 9))).below (below_new _ (.cells (pvI [(0, 1), (1, 0)]).toArray 41))
  have r2 := Rd.made (w8.alloc (.cells (sv [[97], [98]]).toArray 9)) (pvI [(0, 1), (1, 0)]) 41
  rw [World.size_alloc] at r2
  have c1 := fails_yes _ 2 [[97], [98]] _ 2 [(0, 1), (1, 0)] 20 _ S7.tab ((Rd.made w8 (sv [[97], [98]]) 9).below (below_new _ _)) (by decide) (by decide) (w_len _ (by decide)) r2 (by decide) (by decide) (by decide +kernel)
  change Calls _ _ #[.slice _ 2 2, .slice _ 2 2, _] _ _ at c1
  refine c1.mono ?_
  clear c1
  rintro e w9 ⟨rfl, hb9⟩
  replace S := S7.below hb9
  clear S7 hb9 r2
  go_wp2_with fail
  go_ret
  exact ⟨rfl, S.bel⟩

/-! Rows of names, and of pairs. -/
theorem wpList_pushS {ops : Array Oper} {rest : List Oper} {o : Oper} {a : Act} {Q : Exit → Act → World → Prop} (hgd : o.guard = none) (s x : Operand)
    (ho : o.op = .call { callee := .builtin .append, args := #[s, x], argTypes := #[22, 22] }) (w : World) (base : Nat) (v : Value) (ws : List (List UInt8)) (y : ByteArray) (z : List UInt8) (hz : y = ⟨z.toArray⟩)
    (hs : a.eval s = v) (hown : w.ownsRow base 9 1 v ws.length (sv ws)) (hx : a.eval x = .slice (some ⟨w.heap.size, 0, none⟩) 1 1) (hbase : base ≤ w.heap.size) (hlen : ws.length ≤ 1000000000)
    (h : ∀ v' w', w'.ownsRow base 9 1 v' (ws ++ [z]).length (sv (ws ++ [z])) → Below base w w' → wpList Tryd.prog ops Q rest (a.put o.dst v') w') :
    wpList Tryd.prog ops Q (o :: rest) a (w.alloc (.cells #[.string y] 9)) := by
  obtain ⟨i0, hi, hz0, hz1, hz2⟩ := info_parts info9
  subst hz
  refine wpList_append_own _ hgd s x 22 ho base 9 i0 (.string ⟨#[]⟩) 1 16 Tryd.underlying22 hi hz0 hz1 hz2 rfl (by decide) v ws.length (sv ws) hs (World.ownsRow.alloc hown _)
    ⟨w.heap.size, 0, none⟩ 1 1 [.string ⟨z.toArray⟩] hx rfl ?_ ?_ (by unfold maxLen; omega) (by omega) (by simp; omega) ?_
  · intro j u hj
    match j, hj with
    | 0, hj => simp at hj; subst hj; simp [Addr.add]
    | j + 1, hj => simp at hj
  · intro u hu; simp at hu; subst hu; rfl
  · intro v' w' ho' hg _
    refine h v' w' ?_ ?_
    · unfold sv at *; rw [List.map_append, List.length_append, List.map_cons]; exact ho'
    · exact ((Below.refl base w).alloc hbase _).grown hg (by simp; omega) (fun k hk => (World.ownsRow.lt hown k hk).1)
theorem wpList_pushP {ops : Array Oper} {rest : List Oper} {o : Oper} {a : Act} {Q : Exit → Act → World → Prop} (hgd : o.guard = none) (s x : Operand)
    (ho : o.op = .call { callee := .builtin .append, args := #[s, x], argTypes := #[23, 23] }) (w : World) (base : Nat) (v : Value) (L : List (Int × Int)) (p q : Int)
    (hs : a.eval s = v) (hown : w.ownsRow base 41 2 v L.length (pvI L)) (hx : a.eval x = .slice (some ⟨w.heap.size, 0, none⟩) 1 1) (hbase : base ≤ w.heap.size) (hlen : L.length ≤ 1000000000)
    (h : ∀ v' w', w'.ownsRow base 41 2 v' (L ++ [(p, q)]).length (pvI (L ++ [(p, q)])) → Below base w w' → (w.alloc (.cells #[.int .i64 p, .int .i64 q] 41)).grownBy w' v.ownBlock → (v'.ownBlock = v.ownBlock ∨ v'.ownBlock = some (w.heap.size + 1)) → wpList Tryd.prog ops Q rest (a.put o.dst v') w') :
    wpList Tryd.prog ops Q (o :: rest) a (w.alloc (.cells #[.int .i64 p, .int .i64 q] 41)) := by
  obtain ⟨i0, hi, hz0, hz1, hz2⟩ := info_parts info31
  refine wpList_append_own_at _ hgd s x 23 ho base 41 i0 (.agg #[.int .i64 0, .int .i64 0]) 2 16 Tryd.underlying23 hi hz0 hz1 hz2 rfl (by decide) v L.length (pvI L) hs (World.ownsRow.alloc hown _)
    ⟨w.heap.size, 0, none⟩ 1 1 [.int .i64 p, .int .i64 q] hx rfl ?_ ?_ (by unfold maxLen; omega) (by omega) (by simp; omega) ?_
  · intro j u hj
    match j, hj with
    | 0, hj => simp at hj; subst hj; simp [Addr.add]
    | 1, hj => simp at hj; subst hj; simp [Addr.add]
    | j + 2, hj => simp at hj
  · intro u hu
    simp at hu
    rcases hu with rfl | rfl <;> rfl
  · intro v' w' ho' hg _ hat
    refine h v' w' ?_ ?_ hg (by rw [World.size_alloc] at hat; exact hat)
    · have e : pvI (L ++ [(p, q)]) = pvI L ++ [.int .i64 p, .int .i64 q] := by simp [pvI]
      rw [e, List.length_append]
      exact ho'
    · exact ((Below.refl base w).alloc hbase _).grown hg (by simp; omega) (fun k hk => (World.ownsRow.lt hown k hk).1)

/-- The names l0, l1 .. -/
def nmL (n : Nat) : List (List UInt8) := (List.range n).map fun i => [108, 48 + UInt8.ofNat i]
theorem nmL_succ (n : Nat) : nmL (n + 1) = nmL n ++ [[108, 48 + UInt8.ofNat n]] := by simp [nmL, List.range_succ]
theorem nmL_len (n : Nat) : (nmL n).length = n := by simp [nmL]
theorem nm_piece (k : Nat) (hk : k < 10) : ((⟨#[108]⟩ : ByteArray) ++ (⟨#[48, 49, 50, 51, 52, 53, 54, 55, 56, 57]⟩ : ByteArray).extract k (k + 1)) = ⟨[108, 48 + UInt8.ofNat k].toArray⟩ := by
  have : ∀ i : Fin 10, ((⟨#[108]⟩ : ByteArray) ++ (⟨#[48, 49, 50, 51, 52, 53, 54, 55, 56, 57]⟩ : ByteArray).extract i.1 (i.1 + 1)) = ⟨[108, 48 + UInt8.ofNat i.1].toArray⟩ := by decide +kernel
  exact this ⟨k, hk⟩
set_option maxHeartbeats 1000000 in
set_option maxRecDepth 20000 in
theorem names_any (n : Nat) (hn : n ≤ 10) (w : World) : Calls Tryd.prog 17 #[.int .i64 n] w fun e w' => ∃ v, e = .returned v ∧ w'.ownsRow w.heap.size 9 1 v (nmL n).length (sv (nmL n)) ∧ Below w.heap.size w w' := by
  go_enter Tryd.func17, Tryd.ntmps17
  go_wp2
  go_loopw [3, 4] (fun v i wr => ∃ k : Nat, k ≤ n ∧ i = .int .i64 k ∧ wr.ownsRow w.heap.size 9 1 v (nmL k).length (sv (nmL k)) ∧ Below w.heap.size w wr) (fun _ i _ => n - (intOf i).toNat)
  case atStart => exact ⟨0, Nat.zero_le _, rfl, World.ownsRow_nil _ _ _ _, Below.refl _ _⟩
  case round =>
    obtain ⟨k, hk, rfl, hown, hb⟩ := hrel
    by_cases hlt : k < n
    · have k10 : k < 10 := by omega
      have m1 : (k : Int).tmod 10 = k := by rw [Int.tmod_eq_emod_of_nonneg (by omega)]; omega
      have hkl := nmL_len k
      have hpc := Lib.hid (nm_piece k k10)
      have hsu := Lib.hid (nmL_succ k)
      go_wp2_with (at_builtin; refine wpList_pushS rfl (.tmp 10) (.tmp 18) rfl wr w.heap.size _ (nmL k) _ [108, 48 + UInt8.ofNat k] hpc.out rfl hown rfl hb.size (by omega) ?_; intro v3 w3 hown3 hb3)
      rw [← hsu.out] at hown3
      go_roundw
      case rel => exact ⟨k + 1, by omega, by go_num, hown3, hb.trans hb3⟩
      case measure => simp [intOf]; omega
    · obtain rfl : k = n := by omega
      go_wp2
      go_ret
      exact ⟨_, rfl, hown, hb⟩
end Go.Proofs.YtaikhdmgcffflaaDoor
