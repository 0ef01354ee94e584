/- The program's Copy of a message. -/
import Derived.Test.YthniggdimfldhaaGreatDoorNzu
namespace Go.Proofs.YthniggdimfldhaaGreatDoor
open Go Go.RowKit

set_option maxRecDepth 100000 in
theorem slicesClone_any (v : Value) (l : List Hd) (w : World) (hv : Hs w v l) (hs : l.length ≤ 1000) : Calls Tryz.prog 42 #[v] w fun e w' =>
    ∃ A c, e = .returned (.slice A l.length c) ∧ RowH w' w.heap.size A c l ∧ Below w.heap.size w w' := by
  obtain ⟨A, c, rfl, hc, hnil, hr⟩ := hv
  obtain ⟨i0, hi, hz0, hz1, hz2⟩ := info_parts infoH
  have q22 : ∀ (w : World) (a : Option Addr) (n c n' c' : Nat), (binOp .eql 22 (.slice a n c) (.slice none n' c')).run Tryz.prog w = .ok (.bool a.isNone) w := fun w a n c n' c' => Lib.run_eql_slice_nil w _ _ a n c n' c' Tryz.underlying22
  cases A with
  | none =>
    obtain rfl : c = 0 := hnil rfl
    obtain rfl : l = [] := List.eq_nil_of_length_eq_zero (by omega)
    go_enter Tryz.func42, Tryz.ntmps42
    go_wp2_with fail
    go_ret
    exact ⟨none, 0, rfl, ⟨Nat.le_refl _, .inl ⟨rfl, rfl⟩⟩, Below.refl _ _⟩
  | some ad =>
    have hnews : ∀ j u, (hv l)[j]? = some u → w.cell? (ad.add j) = some u := fun j u hj => by
      obtain ⟨hlt, e⟩ := List.getElem?_eq_some_iff.1 hj
      obtain ⟨b, off, e1, _, hcell⟩ := hr j hlt
      injection e1 with e1
      subst e1
      rw [add_pl, hcell, e]
    have HR := Lib.hid hnews
    clear hnews hr
    go_enter Tryz.func42, Tryz.ntmps42
    go_wp2_with (at_builtin; refine wpList_append_own _ rfl _ _ 22 rfl w.heap.size 41 i0 (.agg #[.string ⟨#[]⟩, .string ⟨#[]⟩]) 2 32 Tryz.underlying22 hi hz0 hz1 hz2 rfl (by decide) _ _ _ rfl (World.ownsRow_made w #[] 0 (Nat.le_refl _) (Nat.zero_le _) rfl) ad l.length c (hv l) rfl ?qc1 ?qc2 ?qc3 ?qc4 ?qc5 ?qc6 ?_)
    case qc1 => exact hv_len l
    case qc2 => exact fun j u hj => Lib.cell?_alloc_some _ (HR.out j u hj)
    case qc3 => exact hv_one l
    case qc4 => unfold maxLen; omega
    case qc5 => omega
    case qc6 => simp
    intro v' w1 hown hgrow _
    go_wp2_with fail
    go_ret
    have ho : OwnH w1 w.heap.size v' l := by unfold OwnH; simpa using hown
    obtain ⟨A', c', rfl, hr'⟩ := ho.rowH
    exact ⟨A', c', rfl, hr', ((Below.refl _ w).alloc (Nat.le_refl _) _).grown hgrow (by simp) (by intro k hk; simp [Value.ownBlock] at hk; omega)⟩
/-- A header's block, and two cells of a row that are written later. -/
structure Tw (w : World) (d g k : Nat) (P Q : Value) : Prop where
  lt : d < w.heap.size
  lt2 : g < w.heap.size
  c0 : w.cell? ⟨d, 0, none⟩ = some P
  c1 : w.cell? ⟨d, 1, none⟩ = some Q
  r0 : w.cell? ⟨g, k * 2, none⟩ = some P
  r1 : w.cell? ⟨g, k * 2 + 1, none⟩ = some Q
  f0 : w.frozen? ⟨g, k * 2, none⟩ = false
  f1 : w.frozen? ⟨g, k * 2 + 1, none⟩ = false
theorem Tw.below {w w' : World} {d g k : Nat} {P Q : Value} (h : Tw w d g k P Q) (hb : Below w.heap.size w w') : Tw w' d g k P Q :=
  ⟨Nat.lt_of_lt_of_le h.lt hb.size, Nat.lt_of_lt_of_le h.lt2 hb.size, (hb.cell (p := ⟨d, 0, none⟩) h.lt).trans h.c0, (hb.cell (p := ⟨d, 1, none⟩) h.lt).trans h.c1,
    (hb.cell (p := ⟨g, k * 2, none⟩) h.lt2).trans h.r0, (hb.cell (p := ⟨g, k * 2 + 1, none⟩) h.lt2).trans h.r1, (hb.frozen (p := ⟨g, k * 2, none⟩) h.lt2).trans h.f0, (hb.frozen (p := ⟨g, k * 2 + 1, none⟩) h.lt2).trans h.f1⟩
theorem Tw.drew {w : World} {d g k : Nat} {P Q : Value} (h : Tw w d g k P Q) : Tw w.drew d g k P Q := ⟨h.lt, h.lt2, h.c0, h.c1, h.r0, h.r1, h.f0, h.f1⟩
theorem RowH.someA {w : World} {base : Nat} {A : Option Addr} {c : Nat} {l : List Hd} (h : RowH w base A c l) {k : Nat} (hk : k < l.length) : ∃ g, A = some ⟨g, 0, none⟩ := by
  rcases h.at_ with ⟨_, e⟩ | ⟨g, e, _⟩
  · have := h.le; omega
  · exact ⟨g, e⟩
theorem RowH.atk {w : World} {base g : Nat} {c : Nat} {l : List Hd} (h : RowH w base (some ⟨g, 0, none⟩) c l) (k : Nat) (hk : k < l.length) :
    w.cell? ⟨g, k * 2, none⟩ = some (strV l[k].1) ∧ w.cell? ⟨g, k * 2 + 1, none⟩ = some (strV l[k].2) ∧ w.frozen? ⟨g, k * 2, none⟩ = false ∧ w.frozen? ⟨g, k * 2 + 1, none⟩ = false := by
  rcases h.at_ with ⟨e, _⟩ | ⟨g', e, _, _, h3, h4⟩
  · cases e
  · obtain rfl : g' = g := by simpa using e.symm
    exact ⟨(h4 k hk).1, (h4 k hk).2, h3 _ (by omega), h3 _ (by omega)⟩
theorem farK {k g : Nat} (hne : k ≠ g) (w : World) (i : Nat) (x y : Value) (j : Nat) : ((w.setCell ⟨k, i * 2, none⟩ x).setCell ⟨k, i * 2 + 1, none⟩ y).cell? ⟨g, j, none⟩ = w.cell? ⟨g, j, none⟩ := by
  rw [World.cell?_setCell_other _ _ _ _ (fun e => hne (by injection e)), World.cell?_setCell_other _ _ _ _ (fun e => hne (by injection e))]
theorem far5 {k g : Nat} (hne : k ≠ g) (w : World) (v0 v1 v2 v3 v4 : Value) {x0 x1 x2 x4 : Value} (h : w.cell? ⟨g, 0, none⟩ = some x0 ∧ w.cell? ⟨g, 1, none⟩ = some x1 ∧ w.cell? ⟨g, 2, none⟩ = some x2 ∧ w.cell? ⟨g, 4, none⟩ = some x4) :
    (((((w.setCell ⟨k, 0, none⟩ v0).setCell ⟨k, 1, none⟩ v1).setCell ⟨k, 2, none⟩ v2).setCell ⟨k, 3, none⟩ v3).setCell ⟨k, 4, none⟩ v4).cell? ⟨g, 0, none⟩ = some x0 ∧ (((((w.setCell ⟨k, 0, none⟩ v0).setCell ⟨k, 1, none⟩ v1).setCell ⟨k, 2, none⟩ v2).setCell ⟨k, 3, none⟩ v3).setCell ⟨k, 4, none⟩ v4).cell? ⟨g, 1, none⟩ = some x1 ∧
      (((((w.setCell ⟨k, 0, none⟩ v0).setCell ⟨k, 1, none⟩ v1).setCell ⟨k, 2, none⟩ v2).setCell ⟨k, 3, none⟩ v3).setCell ⟨k, 4, none⟩ v4).cell? ⟨g, 2, none⟩ = some x2 ∧ (((((w.setCell ⟨k, 0, none⟩ v0).setCell ⟨k, 1, none⟩ v1).setCell ⟨k, 2, none⟩ v2).setCell ⟨k, 3, none⟩ v3).setCell ⟨k, 4, none⟩ v4).cell? ⟨g, 4, none⟩ = some x4 := by
  have hn : g ≠ k := fun e => hne e.symm
  have e : (((((w.setCell ⟨k, 0, none⟩ v0).setCell ⟨k, 1, none⟩ v1).setCell ⟨k, 2, none⟩ v2).setCell ⟨k, 3, none⟩ v3).setCell ⟨k, 4, none⟩ v4).heap[g]? = w.heap[g]? :=
    ((((Below.heap_setCell _ _ _ _ hn).trans (Below.heap_setCell _ _ _ _ hn)).trans (Below.heap_setCell _ _ _ _ hn)).trans (Below.heap_setCell _ _ _ _ hn)).trans (Below.heap_setCell _ _ _ _ hn)
  exact ⟨(cell_heap e 0).trans h.1, (cell_heap e 1).trans h.2.1, (cell_heap e 2).trans h.2.2.1, (cell_heap e 4).trans h.2.2.2⟩
theorem tw_new {w : World} {base g : Nat} {c : Nat} {l : List Hd} (h : RowH w base (some ⟨g, 0, none⟩) c l) (k : Nat) (hk : k < l.length) : Tw (w.alloc (.cells #[strV l[k].1, strV l[k].2] 41)) w.heap.size g k (strV l[k].1) (strV l[k].2) := by
  obtain ⟨h1, h2, h3, h4⟩ := h.atk k hk
  have hlt := (h.lt rfl).2
  have hb := below_new w (.cells #[strV l[k].1, strV l[k].2] 41)
  obtain ⟨a1, a2⟩ := alloc_head w (strV l[k].1) (strV l[k].2)
  exact ⟨by simp, Nat.lt_of_lt_of_le hlt hb.size, a1, a2, (hb.cell (p := ⟨g, k * 2, none⟩) hlt).trans h1, (hb.cell (p := ⟨g, k * 2 + 1, none⟩) hlt).trans h2, (hb.frozen (p := ⟨g, k * 2, none⟩) hlt).trans h3, (hb.frozen (p := ⟨g, k * 2 + 1, none⟩) hlt).trans h4⟩
set_option maxRecDepth 100000 in
set_option maxHeartbeats 1000000 in
theorem copy_anyM (m : Msg) (hV : Value) (Ab : Option Addr) (cb : Nat) (w : World) (h : MsgV w m hV Ab cb) (hml : m.meth.length ≤ 1000000) (hbl : m.body.length ≤ 140737488355328) :
    Calls Tryz.prog 16 #[.agg #[.string ⟨m.meth.toArray⟩, .string ⟨m.path.toArray⟩, .int .i64 m.status, hV, .slice Ab m.body.length cb]] w (CopyP m w) := by
  have hb1 := below_new w (.cells #[.string ⟨m.meth.toArray⟩, .string ⟨m.path.toArray⟩, .int .i64 m.status, hV, .slice Ab m.body.length cb] 25)
  have hb2 := below_new (w.alloc (.cells #[.string ⟨m.meth.toArray⟩, .string ⟨m.path.toArray⟩, .int .i64 m.status, hV, .slice Ab m.body.length cb] 25)) (.cells zero5 25)
  have CS := Lib.hid ((box_cs w m.meth m.path m.status hV (.slice Ab m.body.length cb)).below hb2)
  have CZ := Cs.new (w.alloc (.cells #[.string ⟨m.meth.toArray⟩, .string ⟨m.path.toArray⟩, .int .i64 m.status, hV, .slice Ab m.body.length cb] 25)) [.string ⟨#[]⟩, .string ⟨#[]⟩, .int .i64 0, .slice none 0 0, .slice none 0 0] 25
  have hs : (w.alloc (.cells #[.string ⟨m.meth.toArray⟩, .string ⟨m.path.toArray⟩, .int .i64 m.status, hV, .slice Ab m.body.length cb] 25)).heap.size = w.heap.size + 1 := by simp
  rw [hs] at CZ
  have CZ := Lib.hid CZ
  have B2 := Lib.hid (Below.and hb1 hb2)
  have C1 := Lib.hid (slicesClone_any hV m.heads _ (h.hs.below (Below.and hb1 hb2)) h.sm.1)
  have HR := Lib.hid h.rb
  have HSM := Lib.hid h.sm
  have HP1 : Hid ((⟨m.meth.toArray⟩ : ByteArray).size ≤ 1000000) := by show _ ≤ _; rw [mk_size]; exact hml
  have HP2 : Hid ((⟨m.path.toArray⟩ : ByteArray).size ≤ 1000000) := by show _ ≤ _; rw [mk_size]; exact h.pl
  have hln : m.heads.length ≤ 1000 := h.sm.1
  clear hb1 hb2 hs h
  unfold CopyP
  go_enter Tryz.func16, Tryz.ntmps16
  go_upto_region 1 with fail
  generalize (w.alloc (.cells #[.string ⟨m.meth.toArray⟩, .string ⟨m.path.toArray⟩, .int .i64 m.status, hV, .slice Ab m.body.length cb] 25)).alloc (.cells zero5 25) = w2 at *
  have d3 := CS.out.c 3 (by simp)
  go_wp2_with fail
  go_at_call 42
  refine C1.out.mono ?_
  rintro e w3 ⟨Ah, ch, rfl, hrh, hb3⟩
  have HL2 : Hid (w.heap.size + 1 < w2.heap.size) := CZ.out.lt
  have H3 : Hid (RowH w3 w2.heap.size Ah ch m.heads ∧ Below w2.heap.size w2 w3) := ⟨hrh, hb3⟩
  clear d3 hrh hb3 C1
  go_wp2_with fail
  go_loopw [4, 5, 11] (fun _ _ i wr => ∃ k : Nat, k ≤ m.heads.length ∧ i = .int .i64 k ∧ Hid (RowH wr w2.heap.size Ah ch m.heads ∧ Below w2.heap.size w2 wr)) (fun _ _ i _ => m.heads.length - (intOf i).toNat)
  case atStart => exact ⟨0, Nat.zero_le _, rfl, H3⟩
  case round =>
    obtain ⟨k, hk, rfl, HI⟩ := hrel
    by_cases hlt : k < m.heads.length
    · obtain ⟨gh, rfl⟩ := HI.out.1.someA hlt
      obtain ⟨r0, r1, f0, f1⟩ := HI.out.1.atk k hlt
      have hle := HI.out.1.le
      have TT := Lib.hid (tw_new HI.out.1 k hlt)
      have hgh := (HI.out.1.lt rfl).1
      have i1 : (0 : Int) ≤ k := by omega
      have i2 : (k : Int) < m.heads.length := by omega
      have HST : Hid (∀ w', RowH w' w2.heap.size (some ⟨gh, 0, none⟩) ch m.heads → RowH ((w'.setCell ⟨gh, k * 2, none⟩ (strV m.heads[k].1)).setCell ⟨gh, k * 2 + 1, none⟩ (strV m.heads[k].2)) w2.heap.size (some ⟨gh, 0, none⟩) ch m.heads) := fun w' h => by
        have := h.set k hlt m.heads[k]
        rw [List.set_getElem_self] at this
        exact this
      have z := HSM.out.2 m.heads[k] (List.getElem_mem hlt)
      have HPa : Hid ((⟨m.heads[k].1.toArray⟩ : ByteArray).size ≤ 1000000) := by show _ ≤ _; rw [mk_size]; omega
      have HQa : Hid ((⟨m.heads[k].2.toArray⟩ : ByteArray).size ≤ 1000000) := by show _ ≤ _; rw [mk_size]; omega
      have hbn := below_new wr (.cells #[strV m.heads[k].1, strV m.heads[k].2] 41)
      have HGH : Hid (gh ≠ wr.heap.size) := by have := (HI.out.1.lt rfl).2; show _ ≠ _; omega
      unfold strV at *
      generalize (⟨m.heads[k].1.toArray⟩ : ByteArray) = P at *
      generalize (⟨m.heads[k].2.toArray⟩ : ByteArray) = Q at *
      clear z
      go_upto_region 5 with fail
      have T1 : Hid (Tw (wr.alloc (.cells #[.string P, .string Q] 41)).drew wr.heap.size gh k (.string P) (.string Q)) := TT.out.drew
      have HB5 : Hid (Below wr.heap.size wr (wr.alloc (.cells #[.string P, .string Q] 41)).drew) := below_drewN hbn 1
      clear hbn TT r0 r1 f0 f1
      generalize wr.alloc (.cells #[.string P, .string Q] 41) = w5 at *
      generalize hd : wr.heap.size = d at *
      have HD : Hid (d ≤ wr.heap.size) := by show _ ≤ _; omega
      have c0 := T1.out.c0
      have c1 := T1.out.c1
      go_region_held3 (fun w' => w'.cell? ⟨d, 0, none⟩ = some (.string P) ∧ w'.cell? ⟨d, 1, none⟩ = some (.string Q)) (first | go_keep | exact ⟨by assumption, by assumption⟩ | exact ⟨(farK HGH.out _ _ _ _ 0).trans (by assumption), (farK HGH.out _ _ _ _ 1).trans (by assumption)⟩)
        ((go_at_call 43; refine Calls.mono (sclone_any _ _ (by first | exact HPa.out | exact HQa.out)) ?_; rintro e w6 ⟨rfl, hb6⟩; have T3 := Lib.hid (Tw.below (Hid.out (by assumption)) hb6); have B3 := Lib.hid (below_next (B := d) (a := wr) (Hid.out (by assumption)) HD.out hb6); have d2 := T3.out.c0; have d3 := T3.out.c1; have r0 := T3.out.r0; have r1 := T3.out.r1; have f0 := T3.out.f0; have f1 := T3.out.f1; clear hb6))
      all_goals
        go_wp2_with fail
        go_roundw
        case rel =>
          refine ⟨k + 1, by omega, by go_num, HST.out _ (HI.out.1.below (by rw [hd]; exact B3.out)), ?_⟩
          exact ((HI.out.2.trans (B3.out.mono (by rw [← hd]; exact HI.out.2.size))).setCell (p := ⟨gh, k * 2, none⟩) hgh _).setCell (p := ⟨gh, k * 2 + 1, none⟩) hgh _
        case measure => simp [intOf]; omega
    · have i2 : ¬ (k : Int) < m.heads.length := by omega
      have CSr := Lib.hid (CS.out.below HI.out.2)
      have CZr := Lib.hid (CZ.out.below HI.out.2)
      have BR : Hid (Below w.heap.size w wr) := Below.and B2.out HI.out.2
      have HRW := Lib.hid HI.out.1
      have HSZ : Hid (w2.heap.size ≤ wr.heap.size) := HI.out.2.size
      have HBC : Hid (∀ wy, Below wr.heap.size wr wy → Calls Tryz.prog 44 #[.slice Ab m.body.length cb] wy (MadeP m.body wy)) := fun wy hy => bytesClone_any ((HR.out.keep fun q hq => (Below.and BR.out hy).block q hq).mono (Below.and BR.out hy).size) hbl
      have HSS : Hid (∀ wy, Below wr.heap.size wr wy → wy.cell? ⟨w.heap.size, 0, none⟩ = some (.string ⟨m.meth.toArray⟩) ∧ wy.cell? ⟨w.heap.size, 1, none⟩ = some (.string ⟨m.path.toArray⟩) ∧ wy.cell? ⟨w.heap.size, 2, none⟩ = some (.int .i64 m.status) ∧ wy.cell? ⟨w.heap.size, 4, none⟩ = some (.slice Ab m.body.length cb)) := fun wy hy =>
        ⟨(CSr.out.below hy).c 0 (by simp), (CSr.out.below hy).c 1 (by simp), (CSr.out.below hy).c 2 (by simp), (CSr.out.below hy).c 4 (by simp)⟩
      have HZS : Hid (∀ wy, Below wr.heap.size wr wy → Cs wy (w.heap.size + 1) [.string ⟨#[]⟩, .string ⟨#[]⟩, .int .i64 0, .slice none 0 0, .slice none 0 0]) := fun wy hy => CZr.out.below hy
      have W0 : Hid (Below wr.heap.size wr wr.drew) := below_drewN (Below.refl _ _) 1
      have HS0 := Lib.hid (HSS.out _ W0.out)
      clear HI CS CZ B2
      generalize hd : wr.heap.size = d at *
      have HD : Hid (d ≤ wr.heap.size) := by show _ ≤ _; omega
      go_wp2_with fail
      go_region_held3 (fun w' => w'.cell? ⟨w.heap.size, 0, none⟩ = some (.string ⟨m.meth.toArray⟩) ∧ w'.cell? ⟨w.heap.size, 1, none⟩ = some (.string ⟨m.path.toArray⟩) ∧ w'.cell? ⟨w.heap.size, 2, none⟩ = some (.int .i64 m.status) ∧ w'.cell? ⟨w.heap.size, 4, none⟩ = some (.slice Ab m.body.length cb))
        (with_reducible first | exact HS0.out | exact HS6.out | exact HS7.out | exact HS8.out _ _ _ _ _)
        ((first
          | (go_at_call 43; refine Calls.mono (sclone_any _ _ (by first | exact HP1.out | exact HP2.out)) ?_; rintro e w6 ⟨rfl, hb6⟩; have B6 := Lib.hid (below_next (B := d) (a := wr) (Hid.out (by assumption)) HD.out hb6); have HS6 := Lib.hid (HSS.out _ B6.out); clear hb6)
          | (go_at_call 44; refine Calls.mono (HBC.out _ (Hid.out (by assumption))) ?_; rintro e w7 ⟨A7, c7, rfl, hr7, hb7⟩; have B7 := Lib.hid (below_next (B := d) (a := wr) (Hid.out (by assumption)) HD.out hb7); have HS7 := Lib.hid (HSS.out _ B7.out); have R7 := Lib.hid (hr7.up (base' := d) (Nat.le_trans HD.out (by first | exact B6.out.size))); have CZ7 := Lib.hid (HZS.out _ B7.out); have d0 := CZ7.out.c 0 (by simp); have d1 := CZ7.out.c 1 (by simp); have d2 := CZ7.out.c 2 (by simp); have d3 := CZ7.out.c 3 (by simp); have d4 := CZ7.out.c 4 (by simp); have f0 := CZ7.out.free 0 (by simp); have f1 := CZ7.out.free 1 (by simp); have f2 := CZ7.out.free 2 (by simp); have f3 := CZ7.out.free 3 (by simp); have f4 := CZ7.out.free 4 (by simp); have HS8 : Hid (∀ v0 v1 v2 v3 v4 : Value, _) := (fun v0 v1 v2 v3 v4 => far5 (k := w.heap.size + 1) (g := w.heap.size) (by omega) w7 v0 v1 v2 v3 v4 HS7.out); clear hr7 hb7)))
      all_goals
        have BW : Below wr.heap.size wr w7 := by rw [hd]; exact B7.out
        have h7 : RowH w7 w2.heap.size Ah ch m.heads := HRW.out.below BW
        have BF := Lib.hid (Below.and BR.out BW)
        have H7 := Lib.hid h7
        clear BW h7
        go_wp2_with fail
        refine bodyPost_ret (results_msg1 rfl _ _ (w.heap.size + 1) _ _ _ _ _ rfl (msg_set CZ7.out _ _ _ _ _)) rfl ?_
        refine ⟨Ah, ch, A7, c7, rfl, ⟨(H7.out.msgset (fun q e => by have := (H7.out.lt e).1; have := HL2.out; omega) _ _ _ _ _).up (by have := HL2.out; omega), (R7.out.msgset (fun q e => by have := (R7.out.lt e).1; have := HL2.out; have := HSZ.out; omega) _ _ _ _ _).up (by have := HL2.out; have := HSZ.out; omega), fun q r e1 e2 => ?_⟩, msg_set_below BF.out (by omega) _ _ _ _ _⟩
        have h1 := (HRW.out.lt e1).2
        have h2 := (R7.out.lt e2).1
        omega
end Go.Proofs.YthniggdimfldhaaGreatDoor
