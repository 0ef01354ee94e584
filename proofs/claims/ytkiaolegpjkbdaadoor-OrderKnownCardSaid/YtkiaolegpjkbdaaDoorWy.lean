/- The law OrderKnown. -/
import Derived.Test.YtkiaolegpjkbdaaDoorWx
import Derived.Test.YtkiaolegpjkbdaaDoorWz
namespace Go.Proofs.YtkiaolegpjkbdaaDoor
open Go Go.RowKit Go.Shelf

/-- The numbers at both ends. -/
def endsL : List Int := [-9223372036854775808, -1, 0, 1, 2, 15, 16, 17, 9223372036854775807]
def endsV : List Value := endsL.map fun z => Value.int .i64 z
theorem ends_at {W : World} {E : Nat} (h : Rd W (some ⟨E, 0, none⟩) endsV) {i : Nat} (hi : i < 9) : ∃ x : Int, W.cell? ⟨E, i, none⟩ = some (.int .i64 x) ∧ E < W.heap.size := by
  obtain ⟨b, off, e, hl, hc⟩ := h i (by simp [endsV, endsL]; omega)
  injection e with e
  injection e with e1 e2
  subst e1 e2
  rw [Nat.zero_add] at hc
  exact ⟨endsL[i]'(by simp [endsL]; omega), by rw [hc]; simp [endsV], hl⟩

/-- An append that is guarded, by its run. -/
theorem wpList_append_run {P : Program} {ops : Array Oper} {Q : Exit → Act → World → Prop} {rest : List Oper} {o : Oper} {a : Act} {w : World} (hw : Region.wanted o (yielded ops a.tmps) = true) (s x : Operand) (t : TypeId)
    (ho : o.op = .call { callee := .builtin .append, args := #[s, x], argTypes := #[t, t] }) {v u v' : Value} {w' : World} (hs : a.eval s = v) (hx : a.eval x = u) (hr : (Builtin.append_ #[t, t] o.type #[v, u]).run P w = .ok v' w')
    (h : wpList P ops Q rest (a.put o.dst v') w') : wpList P ops Q (o :: rest) a w :=
  wpList_step fun K hK => by
    rw [if_pos hw]
    unfold Oper.wp execOp
    simp only [ho, resolve, invoke, builtin, Sem.run_bind, Sem.run_pure, Result.andThen_ok, List.map_toArray, List.map_cons, List.map_nil, hs, hx, hr]
    exact hK _ _ h
/-- Two rows in blocks of their own. -/
def Apart (u v : Value) : Prop := ∀ g, u.ownBlock = some g → v.ownBlock ≠ some g
theorem apart_nil : Hid (Apart (.slice none 0 0) (.slice none 0 0)) := fun g hg => (by cases hg)
theorem pvI_one (L : List (Int × Int)) : ∀ u ∈ pvI L, u.oneCell' = true := by
  intro u hu
  simp only [pvI, List.mem_flatMap, List.mem_cons, List.not_mem_nil, or_false] at hu
  obtain ⟨p, _, rfl | rfl⟩ := hu <;> rfl
theorem pvI_app (L M : List (Int × Int)) : pvI (L ++ M) = pvI L ++ pvI M := by simp [pvI]
theorem own_lt {W : World} {base size n g : Nat} {e : TypeId} {v : Value} {xs : List Value} (h : W.ownsRow base e size v n xs) (hg : v.ownBlock = some g) : g < W.heap.size := by
  rcases h.2 with ⟨rfl, _⟩ | ⟨g', cap, cur, rfl, _, hh, _⟩
  · cases hg
  · have e2 : some g' = some g := hg
    injection e2 with e2
    subst e2
    exact (Array.getElem?_eq_some_iff.1 hh).1
theorem kept_other {W w1 : World} {base size n : Nat} {e : TypeId} {u v : Value} {xs : List Value} {o : Obj} (ha : Apart u v) (hv : W.ownsRow base e size v n xs) (hgrow : (W.alloc o).grownBy w1 u.ownBlock) : w1.ownsRow base e size v n xs := by
  refine (hv.alloc o).kept hgrow ?_
  cases hb : v.ownBlock with
  | none => exact .inl rfl
  | some g => exact .inr fun e => ha g e.symm hb
theorem apart_left {W : World} {base size n : Nat} {e : TypeId} {u v u' : Value} {xs : List Value} {o : Obj} (ha : Apart u v) (hv : W.ownsRow base e size v n xs) (hat : u'.ownBlock = u.ownBlock ∨ u'.ownBlock = some (W.alloc o).heap.size) : Apart u' v := by
  intro g hg hv'
  rcases hat with h | h
  · exact ha g (h ▸ hg) hv'
  · rw [h] at hg
    injection hg with hg
    have := own_lt hv hv'
    rw [World.size_alloc] at hg
    omega
theorem apart_right {W : World} {base size n : Nat} {e : TypeId} {u v v' : Value} {xs : List Value} {o : Obj} (ha : Apart u v) (hu : W.ownsRow base e size u n xs) (hat : v'.ownBlock = v.ownBlock ∨ v'.ownBlock = some (W.alloc o).heap.size) : Apart u v' := by
  intro g hg hv'
  rcases hat with h | h
  · exact ha g hg (h ▸ hv')
  · rw [h] at hv'
    injection hv' with hv'
    have := own_lt hu hg
    rw [World.size_alloc] at hv'
    omega
theorem pvI_snoc (L : List (Int × Int)) (a b : Int) : pvI (L ++ [(a, b)]) = pvI L ++ [.int .i64 a, .int .i64 b] := by simp [pvI]
theorem tab_new {W : World} (h : Tab W) (o : Obj) : Tab (W.alloc o) := h.below (below_new W o) h.lt
theorem plays_new (m : Int) (l : List (Int × Int)) (c : Nat) (W : World) (hT : Tab W) : Calls Tryd.prog 3 #[.int .i64 m, .slice (some ⟨W.heap.size, 0, none⟩) l.length c] (W.alloc (.cells (pvI l).toArray 31)).drew fun e w' => e = .returned (.bool true) ∧ Below W.heap.size W w' := by
  have h0 := tab_new hT (.cells (pvI l).toArray 31)
  have hT' : Tab (W.alloc (.cells (pvI l).toArray 31)).drew := h0.below (B := (W.alloc (.cells (pvI l).toArray 31)).heap.size) (Below.refl _ _).drew h0.lt
  have hR : Rd (W.alloc (.cells (pvI l).toArray 31)).drew (some ⟨W.heap.size, 0, none⟩) (pvI l) := (Rd.made W (pvI l) 31).below (Below.refl _ _).drew
  exact (orderPlays_any m _ c l _ hT' hR).mono fun _ _ ⟨he, hb⟩ => ⟨he, Below.and (below_new W _) ⟨hb.os, hb.tape, hb.output, hb.size, hb.block⟩⟩
theorem plays_new' (m : Int) (l : List (Int × Int)) (c : Nat) (W : World) (hT : Tab W) : Calls Tryd.prog 3 #[.int .i64 m, .slice (some ⟨W.heap.size, 0, none⟩) l.length c] (W.alloc (.cells (pvI l).toArray 31)) fun e w' => e = .returned (.bool true) ∧ Below W.heap.size W w' :=
  (orderPlays_any m _ c l _ (tab_new hT _) (Rd.made W (pvI l) 31)).mono fun _ _ ⟨he, hb⟩ => ⟨he, Below.and (below_new W _) hb⟩
theorem plays4 (x y : Int) (W : World) (hT : Tab W) : Calls Tryd.prog 3 #[.int .i64 x, .slice (some ⟨W.heap.size, 0, none⟩) 4 4] (W.alloc (.cells #[.int .i64 y, .int .i64 0, .int .i64 0, .int .i64 y, .int .i64 y, .int .i64 y, .int .i64 1, .int .i64 y] 31)).drew fun e w' => e = .returned (.bool true) ∧ Below W.heap.size W w' :=
  plays_new x [(y, 0), (0, y), (y, y), (1, y)] 4 W hT
theorem plays2 (x y : Int) (W : World) (hT : Tab W) : Calls Tryd.prog 3 #[.int .i64 16, .slice (some ⟨W.heap.size, 0, none⟩) 2 2] (W.alloc (.cells #[.int .i64 x, .int .i64 y, .int .i64 y, .int .i64 x] 31)) fun e w' => e = .returned (.bool true) ∧ Below W.heap.size W w' :=
  plays_new' 16 [(x, y), (y, x)] 2 W hT

set_option maxHeartbeats 8000000 in
set_option maxRecDepth 100000 in
theorem orderKnown_any (w : World) (hT : Tab w) : Calls Tryd.prog 9 #[] w fun e w' => e = .returned (.bool true) ∧ Below w.heap.size w w' := by
  have HT := Lib.hid hT
  clear hT
  go_enter Tryd.func9, Tryd.ntmps9
  have hb0 := below_new w (.cells #[Value.int .i64 (-9223372036854775808), .int .i64 (-1), .int .i64 0, .int .i64 1, .int .i64 2, .int .i64 15, .int .i64 16, .int .i64 17, .int .i64 9223372036854775807] 3)
  have hr0 : Rd (w.alloc (.cells #[Value.int .i64 (-9223372036854775808), .int .i64 (-1), .int .i64 0, .int .i64 1, .int .i64 2, .int .i64 15, .int .i64 16, .int .i64 17, .int .i64 9223372036854775807] 3)) (some ⟨w.heap.size, 0, none⟩) endsV := Rd.made w endsV 3
  have HB0 := Lib.hid hb0
  have HR0 := Lib.hid hr0
  clear hb0 hr0
  go_wp2_with fail
  have hb0 := HB0.out
  have hr0 := HR0.out
  clear HB0 HR0
  generalize w.alloc (.cells #[Value.int .i64 (-9223372036854775808), .int .i64 (-1), .int .i64 0, .int .i64 1, .int .i64 2, .int .i64 15, .int .i64 16, .int .i64 17, .int .i64 9223372036854775807] 3) = w0 at *
  have HR0 := Lib.hid hr0
  have HB0 := Lib.hid hb0
  have hT0 := HT.out.below hb0 HT.out.lt
  have HT0 := Lib.hid hT0
  have hle0 := hb0.size
  clear hr0 hb0 hT0
  go_loopw [2] (fun i wr => ∃ x : Nat, x ≤ 9 ∧ i = .int .i64 x ∧ Below w0.heap.size w0 wr) (fun i _ => 9 - (intOf i).toNat)
  case atStart => exact ⟨0, Nat.zero_le _, rfl, Below.refl _ _⟩
  case round =>
    obtain ⟨i, hi, rfl, hBi⟩ := hrel
    obtain ⟨wp, rfl⟩ : ∃ wp : World, wp = wr := ⟨_, rfl⟩
    by_cases hin : i < 9
    · have i1 : (0 : Int) ≤ i := by omega
      have i2 : (i : Int) < 9 := by omega
      go_wp2_with fail
      go_loopw [3] (fun j wr => ∃ y : Nat, y ≤ 9 ∧ j = .int .i64 y ∧ Below w0.heap.size w0 wr) (fun j _ => 9 - (intOf j).toNat)
      case atStart => exact ⟨0, Nat.zero_le _, rfl, hBi⟩
      case round =>
        obtain ⟨k, hk, rfl, hBk⟩ := hrel
        clear hBi
        obtain ⟨wq, rfl⟩ : ∃ wq : World, wq = wr := ⟨_, rfl⟩
        by_cases hkn : k < 9
        · obtain ⟨x, hx, hE⟩ := ends_at (HR0.out.below hBk) hin
          obtain ⟨y, hy, _⟩ := ends_at (HR0.out.below hBk) hkn
          have Tq := HT0.out.below hBk HT0.out.lt
          have k1 : (0 : Int) ≤ k := by omega
          have k2 : (k : Int) < 9 := by omega
          have tok : True := trivial
          go_wp2_with fail
          go_region_held3 (fun w' => w'.cell? ⟨w.heap.size, i, none⟩ = some (.int .i64 x) ∧ w'.cell? ⟨w.heap.size, k, none⟩ = some (.int .i64 y)) (go_keep)
            (first
              | ((go_at_call 3); (with_reducible refine (plays4 x y wq Tq).mono ?_); rintro e w5 ⟨rfl, hb5⟩; have d1 := (hb5.cell (p := ⟨w.heap.size, i, none⟩) hE).trans hx; have d2 := (hb5.cell (p := ⟨w.heap.size, k, none⟩) hE).trans hy; have T5 := Tq.below hb5 Tq.lt)
              | ((go_at_call 3); (with_reducible refine (plays2 x y w5 T5).mono ?_); rintro e w6 ⟨rfl, hb6⟩; have hb6' := Below.and hb5 hb6; have g1 := (hb6'.cell (p := ⟨w.heap.size, i, none⟩) hE).trans hx; have g2 := (hb6'.cell (p := ⟨w.heap.size, k, none⟩) hE).trans hy))
          have hB6 := hBk.trans (hb6'.mono hBk.size)
          clear hx hy hb5 d1 d2 T5 hb6 hb6' g1 g2 hBk Tq tok
          go_wp2_with fail
          go_roundw
          case rel => exact ⟨k + 1, by omega, by go_num, hB6⟩
          case measure => simp [intOf]; omega
        · go_wp2_with fail
          go_roundw
          case rel => exact ⟨i + 1, by omega, by go_num, hBk⟩
          case measure => simp [intOf]; omega
    · have e9 : decide ((i : Int) < 9) = false := by simp; omega
      have TA := HT0.out.below hBi HT0.out.lt
      have HTA := Lib.hid TA
      have HBA := Lib.hid (HB0.out.trans (hBi.mono hle0))
      clear TA hBi
      obtain ⟨i0, hi0, hz0, hz1, hz2⟩ := info_parts info31
      go_wp2_with fail
      go_loopw [4, 5, 6] (fun u v j wr => ∃ (k : Nat) (L4 L5 : List (Int × Int)), k ≤ 15 ∧ j = .int .i64 k ∧ Hid (L4.length = k) ∧ Hid (L5.length = k) ∧ wr.ownsRow wp.heap.size 31 2 u k (pvI L4) ∧ wr.ownsRow wp.heap.size 31 2 v k (pvI L5) ∧ Hid (Apart u v) ∧ Below wp.heap.size wp wr) (fun _ _ j _ => 15 - (intOf j).toNat)
      case atStart => exact ⟨0, [], [], Nat.zero_le _, rfl, rfl, rfl, World.ownsRow_nil _ _ _ _, World.ownsRow_nil _ _ _ _, apart_nil, Below.refl _ _⟩
      case round =>
        obtain ⟨k, L4, L5, hk, rfl, h4, h5, o4, o5, hap, hB⟩ := hrel
        obtain ⟨wq, rfl⟩ : ∃ wq : World, wq = wr := ⟨_, rfl⟩
        by_cases hk15 : k < 15
        · have hsz := hB.size
          have O5 := Lib.hid o5
          clear o5
          go_upto_region 15 with (at_builtin; refine wpList_append_own_at _ rfl (.tmp 80) (.tmp 85) 22 rfl wp.heap.size 31 i0 (.agg #[.int .i64 0, .int .i64 0]) 2 16 Tryd.underlying22 hi0 hz0 hz1 hz2 rfl (by decide) _ _ _ rfl (o4.alloc _) ⟨wq.heap.size, 0, none⟩ 1 1 [.int .i64 k, .int .i64 ((k : Int) + 1)] rfl rfl (World.news_of_block (heap_alloc_new wq _)) (by simp [Value.oneCell']) (by unfold maxLen; omega) (by omega) (by simp; omega) ?_; intro u' w1 hown' hgrow _ hat)
          have P5 := kept_other hap.out O5.out hgrow
          have A5 := apart_left hap.out O5.out hat
          have B1 := own_grown hB hsz o4 hgrow
          have hsz1 := B1.size
          have HOW := Lib.hid hown'
          clear O5 hown' hgrow hat o4 hB hap
          go_wp2_with (at_builtin; refine wpList_append_own_at _ rfl (.tmp 87) (.tmp 93) 22 rfl wp.heap.size 31 i0 (.agg #[.int .i64 0, .int .i64 0]) 2 16 Tryd.underlying22 hi0 hz0 hz1 hz2 rfl (by decide) _ _ _ rfl (P5.alloc _) ⟨w1.heap.size, 0, none⟩ 1 1 [.int .i64 (15 - (k : Int)), .int .i64 (14 - (k : Int))] rfl rfl (World.news_of_block (heap_alloc_new w1 _)) (by simp [Value.oneCell']) (by unfold maxLen; omega) (by omega) (by simp; omega) ?_; intro v' w2 hown2 hgrow2 _ hat2)
          go_roundw
          case rel =>
            refine ⟨k + 1, L4 ++ [((k : Int), (k : Int) + 1)], L5 ++ [(15 - (k : Int), 14 - (k : Int))], by omega, by go_num, ?_, ?_, ?_, ?_, ?_, own_grown B1 hsz1 P5 hgrow2⟩
            · show _ = _; rw [List.length_append, h4.out]; rfl
            · show _ = _; rw [List.length_append, h5.out]; rfl
            · rw [pvI_snoc]; exact kept_other (fun g hg hu => A5 g hu hg) HOW.out hgrow2
            · rw [pvI_snoc]; exact hown2
            · exact apart_right A5 HOW.out hat2
          case measure => simp [intOf]; omega
        · obtain rfl : k = 15 := by omega
          obtain ⟨g4, c4, rfl, hg4, _⟩ := o4.form (by omega)
          obtain ⟨g5, c5, rfl, _, _⟩ := o5.form (by omega)
          obtain ⟨A4, d4, e4, r4⟩ := Rd.own o4
          obtain ⟨A5, d5, e5, r5⟩ := Rd.own o5
          injection e4 with e41 _ e42
          injection e5 with e51 _ e52
          subst e41 e42 e51 e52
          have Tq := HTA.out.below hB HTA.out.lt
          have CA := orderPlays_any 16 _ c4 L4 wq Tq r4
          rw [h4.out] at CA
          have HCA := Lib.hid CA
          have O4 := Lib.hid o4
          have O5 := Lib.hid o5
          clear CA o4 o5 r4
          go_wp2_with fail
          refine HCA.out.mono ?_
          rintro e w5 ⟨rfl, hb5⟩
          have T5 := Tq.below hb5 Tq.lt
          have CB := orderPlays_any 16 _ c5 L5 w5 T5 (r5.below hb5)
          rw [h5.out] at CB
          have HCB := Lib.hid CB
          clear HCA CB r5
          go_wp2_with fail
          refine HCB.out.mono ?_
          rintro e w6 ⟨rfl, hb6⟩
          have hb56 := Below.and hb5 hb6
          have T6 := T5.below hb6 T5.lt
          have q4 := O4.out.kept (grownBy_below hb56 none) (Classical.em _)
          have q5 := O5.out.kept (grownBy_below hb56 none) (Classical.em _)
          have hB6 := hB.trans (hb56.mono hB.size)
          have hsz := hB6.size
          obtain ⟨v7, w7, hrun, q7, hgrow, _, _⟩ := run_append_own_at (P := Tryd.prog) w6 wp.heap.size 22 22 31 i0 (.agg #[.int .i64 0, .int .i64 0]) 2 16 Tryd.underlying22 hi0 hz0 hz1 hz2 rfl (by decide) _ 15 (pvI L4) q4 ⟨g5, 0, none⟩ 15 c5 (pvI L5) (by rw [pvI_len, h5.out]) (q5.cells (g := g5) rfl) (pvI_one L5) (by unfold maxLen; omega) (by omega) hsz
          have hB7 : Below wp.heap.size wp w7 := hB6.grown hgrow hsz (fun j e => by cases e; exact hg4)
          have T7 := HTA.out.below hB7 HTA.out.lt
          obtain ⟨A7, c7, rfl, r7⟩ := Rd.own q7
          rw [← pvI_app] at r7
          have CC := orderPlays_any 16 A7 c7 (L4 ++ L5) w7 T7 r7
          rw [List.length_append, h4.out, h5.out] at CC
          have HCC := Lib.hid CC
          have HRUN := Lib.hid hrun
          clear HCB CC q4 q5 q7 r7 hgrow hb5 hb6 hb56 T5 T6 Tq hB O4 O5 h4 h5 hrun
          go_wp2_with (at_builtin; refine wpList_append_run rfl (.tmp 104) (.tmp 105) 22 rfl rfl rfl HRUN.out ?_)
          refine HCC.out.mono ?_
          rintro e w8 ⟨rfl, hb8⟩
          have T8 := T7.below hb8 T7.lt
          have hB8 := hB7.trans (hb8.mono hB7.size)
          have hF := HBA.out.trans (hB8.mono HBA.out.size)
          clear HCC HRUN hB6 hB7 T7 hb8 hsz
          go_wp2_with fail
          go_loopw [7, 8] (fun u j wr => ∃ (k : Nat) (p : Option Addr), k ≤ 2 ∧ j = .int .i64 k ∧ u = .pointer p ∧ NoOrd wr p ∧ Below w8.heap.size w8 wr) (fun _ j _ => 2 - (intOf j).toNat)
          case atStart => exact ⟨0, none, Nat.zero_le _, rfl, rfl, .inl rfl, Below.refl _ _⟩
          case round =>
            obtain ⟨k, p, hk, rfl, rfl, hN, hBk⟩ := hrel
            obtain ⟨ws, rfl⟩ : ∃ ws : World, ws = wr := ⟨_, rfl⟩
            by_cases hk2 : k < 2
            · go_wp2_with fail
              refine (many_none p ws hN).mono ?_
              rintro e w' ⟨rfl, rfl⟩
              go_wp2_with fail
              refine (add_none p 0 1 ws hN).mono ?_
              rintro e w' ⟨rfl, rfl⟩
              go_wp2_with fail
              refine (atMost_none p 0 0 ws hN).mono ?_
              rintro e w' ⟨rfl, rfl⟩
              go_wp2_with fail
              refine (up_none p 0 ws hN).mono ?_
              rintro e w' ⟨rfl, rfl⟩
              go_wp2_with fail
              refine (down_none p 0 ws hN).mono ?_
              rintro e w' ⟨rfl, rfl⟩
              go_wp2_with fail
              refine (covers_none p ws hN).mono ?_
              rintro e w9 ⟨rfl, hb9⟩
              have hN9 := hN.below hb9
              go_wp2_with fail
              refine (line_none p w9 hN9).mono ?_
              rintro e w10 ⟨rfl, hb10⟩
              have hN10 := hN9.below hb10
              go_wp2_with fail
              refine (copy_none p w10 hN10).mono ?_
              rintro e w' ⟨rfl, rfl⟩
              have hB10 := Below.and hBk (Below.and hb9 hb10)
              clear hN hN9 hN10 hb9 hb10 hBk
              go_wp2_with fail
              go_roundw
              case rel =>
                refine ⟨k + 1, _, by omega, by go_num, rfl, .inr ⟨w10.heap.size, fun _ => 0, rfl, World.alloc_heap_new w10 _⟩, ?_⟩
                exact Below.and hB10 (below_new w10 _)
              case measure => simp [intOf]; omega
            · have TS := T8.below hBk T8.lt
              go_wp2_with fail
              refine (works_any ws TS).mono ?_
              rintro e w9 ⟨rfl, hb9⟩
              have hB9 := Below.and hBk hb9
              go_wp2_with fail
              go_ret
              exact ⟨rfl, hF.trans (hB9.mono hF.size)⟩
end Go.Proofs.YtkiaolegpjkbdaaDoor
