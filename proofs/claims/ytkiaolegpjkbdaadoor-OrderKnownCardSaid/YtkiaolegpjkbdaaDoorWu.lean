/- The law OrderSaid. -/
import Derived.Test.YtkiaolegpjkbdaaDoorWr
namespace Go.Proofs.YtkiaolegpjkbdaaDoor
open Go Go.RowKit Go.Shelf

/-- made of no pairs: nothing was taken. -/
theorem made_none (many : Int) (w : World) (hT : Tab w) : Calls Tryd.prog 17 #[.int .i64 many, .slice none 0 0] w fun e w' => ∃ b v, e = .returned (.tuple #[.pointer (some ⟨b, 0, none⟩), v]) ∧ OSt w b (manyOf many) (ofL []) w' :=
  (made_any many none 0 [] w hT (Rd.nil _ _)).mono fun _ _ ⟨b, v, T, he, hS, _, _, hl, _⟩ => by
    have : T = [] := List.eq_nil_of_length_eq_zero (by simpa using hl)
    subst this
    exact ⟨b, v, he, hS⟩
theorem OSt.other {w W W' : World} {b n c : Nat} {A : Nat → Nat} (h : OSt w b n A W) (hg : W.grownBy W' (some c)) (hne : b ≠ c) (hc0 : 0 < c) (hge : w.heap.size ≤ c) : OSt w b n A W' :=
  ⟨tab_grown h.tab hg hc0, h.ord.kept hg (by simpa using hne), h.bel.grown hg h.bel.size (fun k e => by cases e; exact hge), h.ge⟩
theorem drop_rev {T : List (Nat × Nat)} {m : Nat} (hm : m < T.length) : (T.drop m).reverse = (T.drop (m + 1)).reverse ++ [T[m]] := by
  rw [List.drop_eq_getElem_cons hm, List.reverse_cons]

set_option maxHeartbeats 4000000 in
set_option maxRecDepth 100000 in
theorem orderSaid_any (many : Int) (A1 : Option Addr) (c1 : Nat) (l : List (Int × Int)) (w : World) (hT : Tab w) (hl : Rd w A1 (pvI l)) :
    Calls Tryd.prog 5 #[.int .i64 many, .slice A1 l.length c1] w fun e w' => e = .returned (.bool true) ∧ Below w.heap.size w w' := by
  have h1 := manyOf_pos many
  have h2 := manyOf_le many
  go_enter Tryd.func5, Tryd.ntmps5
  go_wp2_with fail
  refine (made_any many A1 c1 l w hT hl).mono ?_
  rintro e w2 ⟨b, v, T, rfl, S, hTook, hT40, _, hown⟩
  obtain ⟨A6, c6, rfl, hrd⟩ := Rd.own hown
  clear hT hl hown
  go_wp2_with fail
  refine (made_none many w2 S.tab).mono ?_
  rintro e w3 ⟨b', v', rfl, S'⟩
  generalize manyOf many = n at *
  have g := hTook.good h1 h2
  have HTK := Lib.hid hTook
  have HRD := Lib.hid hrd
  have HS := Lib.hid S
  have hbw := S.bel.size
  have hw2 : 0 < w2.heap.size := S.tab.lt
  clear hTook hrd S
  go_wp2_with fail
  have So := HS.out.below S'.bel
  refine (many_any b n (ofL T) w3 So.ord).mono ?_
  rintro e w' ⟨rfl, rfl⟩
  clear So
  go_wp2_with fail
  go_loopw [10] (fun i wr => ∃ k : Nat, k ≤ T.length ∧ i = .int .i64 ((k : Int) - 1) ∧ Hid (Took n (T.drop k).reverse) ∧ OSt w2 b' n (ofL (T.drop k).reverse) wr) (fun i _ => (intOf i + 1).toNat)
  case atStart => exact ⟨T.length, Nat.le_refl _, rfl, by rw [List.drop_length]; exact Took.nil, by rw [List.drop_length]; exact S'⟩
  case round =>
    obtain ⟨k, hk, rfl, hTk, Sp⟩ := hrel
    clear S'
    obtain ⟨wo, rfl⟩ : ∃ wo : World, wo = wr := ⟨_, rfl⟩
    rcases k with _ | m
    · have HSp : Hid (OSt w2 b' n (ofL T) wo) := by
        show OSt _ _ _ _ _
        rw [ofL_congr (L := T) (M := (T.drop 0).reverse) (fun p => by simp)]
        exact Sp
      clear Sp hTk
      rw [show ((0 : Nat) : Int) - 1 = -1 from rfl]
      go_wp2_with fail
      have Sq := HSp.out
      clear HSp
      generalize ofL T = A at *
      go_loopw [11] (fun i wr => ∃ x : Nat, x ≤ n ∧ i = .int .i64 x ∧ OSt w2 b' n A wr) (fun i _ => n - (intOf i).toNat)
      case atStart => exact ⟨0, Nat.zero_le _, rfl, Sq⟩
      case round =>
        obtain ⟨x, hx, rfl, S1⟩ := hrel
        clear Sq
        obtain ⟨wp, rfl⟩ : ∃ wp : World, wp = wr := ⟨_, rfl⟩
        by_cases hxn : x < n
        · go_wp2_with fail
          go_loopw [12] (fun i wr => ∃ y : Nat, y ≤ n ∧ i = .int .i64 y ∧ OSt w2 b' n A wr) (fun i _ => n - (intOf i).toNat)
          case atStart => exact ⟨0, Nat.zero_le _, rfl, S1⟩
          case round =>
            obtain ⟨y, hy, rfl, S2⟩ := hrel
            clear S1
            obtain ⟨wq, rfl⟩ : ∃ wq : World, wq = wr := ⟨_, rfl⟩
            by_cases hyn : y < n
            · have So := HS.out.below S2.bel
              go_wp2_with fail
              refine (copy_any b n A wq h1 So.ord).mono ?_
              rintro e w5 ⟨rfl, rfl⟩
              have hbc := below_new wq (.cells (ocells n A) 51)
              have So1 := So.below hbc
              have Sp1 := S2.below hbc
              have Oc : IsOrd (wq.alloc (.cells (ocells n A) 51)) wq.heap.size n A := World.alloc_heap_new wq _
              have hc0 : 0 < wq.heap.size := So.tab.lt
              have hb1 : b < wq.heap.size := So.ord.lt
              have hb2 : b' < wq.heap.size := S2.ord.lt
              have hge : w2.heap.size ≤ wq.heap.size := S2.bel.size
              clear S2 So hbc
              generalize wq.heap.size = bc at *
              generalize wq.alloc (.cells (ocells n A) 51) = w6 at *
              go_wp2_with fail
              refine (atMost_yes b n A g x y w6 So1.tab So1.ord hxn hyn).mono ?_
              rintro e w7 ⟨rfl, hb7⟩
              have Sp2 := Sp1.below hb7
              have So2 := So1.below hb7
              have Oc2 := Oc.below hb7 Oc.lt
              clear Sp1 So1 Oc hb7
              go_wp2_with fail
              refine (atMost_yes b' n A g x y w7 Sp2.tab Sp2.ord hxn hyn).mono ?_
              rintro e w8 ⟨rfl, hb8⟩
              have Sp3 := Sp2.below hb8
              have So3 := So2.below hb8
              have Oc3 := Oc2.below hb8 Oc2.lt
              clear Sp2 So2 Oc2 hb8
              have hbx : (le A x y != le A x y) = false := by simp
              go_wp2_with fail
              cases hle : le A y x with
              | true =>
                refine (add_cycle bc n A g x y w8 So3.tab Oc3 hxn hyn hle).mono ?_
                rintro e w9 ⟨rfl, hb9⟩
                have Sp4 := Sp3.below hb9
                have So4 := So3.below hb9
                clear Sp3 So3 Oc3 hb9
                go_wp2_with fail
                refine (atMost_yes b n A g y x w9 So4.tab So4.ord hyn hxn).mono ?_
                rw [hle]
                rintro e w10 ⟨rfl, hb10⟩
                have Sp5 := Sp4.below hb10
                clear Sp4 So4 hb10 hle
                go_wp2_with fail
                go_roundw
                case rel => exact ⟨y + 1, by omega, by go_num, Sp5⟩
                case measure => simp [intOf]; omega
              | false =>
                refine (add_ok bc n A g x y w8 So3.tab Oc3 hxn hyn hle).mono ?_
                rintro e w9 ⟨rfl, hg9, _⟩
                have Sp4 := Sp3.other hg9 (by omega) hc0 (by omega)
                have So4 := So3.other hg9 (by omega) hc0 (by omega)
                clear Sp3 So3 Oc3 hg9
                go_wp2_with fail
                refine (atMost_yes b n A g y x w9 So4.tab So4.ord hyn hxn).mono ?_
                rw [hle]
                rintro e w10 ⟨rfl, hb10⟩
                have Sp5 := Sp4.below hb10
                clear Sp4 So4 hb10 hle
                go_wp2_with fail
                go_roundw
                case rel => exact ⟨y + 1, by omega, by go_num, Sp5⟩
                case measure => simp [intOf]; omega
            · go_wp2_with fail
              go_roundw
              case rel => exact ⟨x + 1, by omega, by go_num, S2⟩
              case measure => simp [intOf]; omega
        · go_wp2_with fail
          refine (works_any wp S1.tab).mono ?_
          rintro e w6 ⟨rfl, hb6⟩
          have S6 := S1.below hb6
          go_wp2_with fail
          go_ret
          exact ⟨rfl, HS.out.bel.trans (S6.bel.mono hbw)⟩
    · rw [show ((m + 1 : Nat) : Int) - 1 = (m : Int) by omega]
      have hml : m < T.length := by omega
      obtain ⟨p, q, bb, off, hpq, rfl, hbl, e10, e20⟩ := HRD.out.pairN m hml
      have e1 := (Sp.bel.cell (p := ⟨bb, off + m * 2, none⟩) hbl).trans e10
      have e2 := (Sp.bel.cell (p := ⟨bb, off + m * 2 + 1, none⟩) hbl).trans e20
      have E1 := Lib.hid e10
      have E2 := Lib.hid e20
      clear e10 e20
      have hblo : bb < wo.heap.size := Nat.lt_of_lt_of_le hbl Sp.bel.size
      have hmem : (p, q) ∈ T := by rw [← hpq]; exact List.getElem_mem hml
      have hlt := HTK.out.mem _ hmem
      have hp : p < n := hlt.1
      have hq : q < n := hlt.2
      have hle1 := le_of_mem h1 h2 HTK.out hmem
      have hle2 : le (ofL (T.drop (m + 1)).reverse) q p = false := took_sub h1 h2 HTK.out hTk.out (fun r hr => by simp at hr; exact List.mem_of_mem_drop hr) hmem
      have HNX : Hid ((T.drop m).reverse = (T.drop (m + 1)).reverse ++ [(p, q)]) := by show _ = _; rw [drop_rev hml, hpq]
      have HTN : Hid (Took n ((T.drop (m + 1)).reverse ++ [(p, q)])) := hTk.out.snoc_of hp hq hle2
      have g' := hTk.out.good h1 h2
      clear hpq hmem hlt hTk
      have HL2 := Lib.hid hle2
      have HL1 := Lib.hid hle1
      clear hle1 hle2
      generalize (T.drop (m + 1)).reverse = M at *
      have So := HS.out.below Sp.bel
      have i5 : (0 : Int) ≤ m := by omega
      have i6 : (m : Int) < T.length := by omega
      have hbo := So.ord.lt
      go_wp2_with fail
      go_region_held3 (fun w' => w'.cell? ⟨bb, off + m * 2, none⟩ = some (.int .i64 p) ∧ w'.cell? ⟨bb, off + m * 2 + 1, none⟩ = some (.int .i64 q)) (go_keep)
        (first
          | (go_at_call 19; refine (atMost_yes b n (ofL T) g p q _ (by exact So.tab) (by exact So.ord) hp hq).mono ?_; rw [HL1.out]; rintro e w5 ⟨rfl, hb5⟩; have d1 := (hb5.cell (p := ⟨bb, off + m * 2, none⟩) hblo).trans e1; have d2 := (hb5.cell (p := ⟨bb, off + m * 2 + 1, none⟩) hblo).trans e2; have Sp5 := Sp.below (show Below wo.heap.size wo w5 from ⟨hb5.os, hb5.tape, hb5.output, hb5.size, hb5.block⟩))
          | (go_at_call 12; refine (add_ok b' n (ofL M) g' p q _ (by exact Sp5.tab) (by exact Sp5.ord) hp hq HL2.out).mono ?_; rintro e w6 hpost; have Sp6 := Sp5.add HS.out.tab hpost; obtain ⟨rfl, hg6, _⟩ := hpost; have f1 := (Sp6.bel.cell (p := ⟨bb, off + m * 2, none⟩) hbl).trans E1.out; have f2 := (Sp6.bel.cell (p := ⟨bb, off + m * 2 + 1, none⟩) hbl).trans E2.out))
      have HSP6 := Lib.hid Sp6
      clear Sp Sp5 Sp6 So d1 d2 f1 f2 e1 e2 hg6 hb5
      go_wp2_with fail
      go_roundw
      case rel =>
        refine ⟨m, by omega, rfl, ?_, ?_⟩
        · rw [HNX.out]; exact HTN.out
        · rw [HNX.out, ofL_snoc]; exact HSP6.out
      case measure => simp [intOf]
end Go.Proofs.YtkiaolegpjkbdaaDoor
