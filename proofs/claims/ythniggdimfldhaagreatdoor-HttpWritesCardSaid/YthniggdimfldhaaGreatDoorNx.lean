/- The program: Parse. Rows of bytes of the call's own, whatever mark their block bears behind its cells: what '[]byte(s)' makes, and what is appended to it. The laws of appending; lines, wrong. -/
import Derived.Test.YthniggdimfldhaaGreatDoorNu
import Derived.Deep.MidRow
namespace Go.Proofs.YthniggdimfldhaaGreatDoor
open Go Go.RowKit

/-- what Parse hands back -/
def ParseP (x : List UInt8) (w : World) (e : Ending) (w' : World) : Prop :=
  Below w.heap.size w w' ∧ match parseM x with
    | .error E => e = .returned (.tuple #[.agg #[.string ⟨#[]⟩, .string ⟨#[]⟩, .int .i64 0, .slice none 0 0, .slice none 0 0], .int .i64 E]) ∧ E ≠ 0
    | .ok m => ∃ (Ah : Option Addr) (chh : Nat) (Ab : Option Addr) (cb : Nat), e = .returned (.tuple #[.agg #[.string ⟨m.meth.toArray⟩, .string ⟨m.path.toArray⟩, .int .i64 m.status, .slice Ah m.heads.length chh, .slice Ab m.body.length cb], .int .i64 0]) ∧
        Sm m.heads ∧ OwnH w' w.heap.size (.slice Ah m.heads.length chh) m.heads ∧ OwnB w' w.heap.size (.slice Ab m.body.length cb) m.body
theorem kp_msg {g B : Nat} (w : World) (v0 v1 v2 v3 v4 : Value) : Kp g B w (((((w.setCell ⟨g, 0, none⟩ v0).setCell ⟨g, 1, none⟩ v1).setCell ⟨g, 2, none⟩ v2).setCell ⟨g, 3, none⟩ v3).setCell ⟨g, 4, none⟩ v4) :=
  ((((kp_set w 0 v0).trans (kp_set _ 1 v1)).trans (kp_set _ 2 v2)).trans (kp_set _ 3 v3)).trans (kp_set _ 4 v4)
abbrev zero5 : Array Value := #[.string ⟨#[]⟩, .string ⟨#[]⟩, .int .i64 0, .slice none 0 0, .slice none 0 0]
abbrev rdr8 (A : Option Addr) (n c : Nat) : Array Value := #[.slice A n c, .string ⟨#[]⟩, .string ⟨#[]⟩, .int .i64 0, .slice none 0 0, .slice none 0 0, .bool false, .int .i64 0]
set_option maxRecDepth 100000 in
set_option maxHeartbeats 4000000 in
theorem parse_any {w : World} {A : Option Addr} {c : Nat} {x : List UInt8} (h : Rb w.heap.size w A c x) (hG : Gl w) (hs : x.length ≤ 1000000) :
    Calls Tryz.prog 47 #[.slice A x.length c] w (ParseP x w) := by
  have hb0 := below_new w (.cells zero5 25)
  have hc0 : Cs (w.alloc (.cells zero5 25)) w.heap.size [.string ⟨#[]⟩, .string ⟨#[]⟩, .int .i64 0, .slice none 0 0, .slice none 0 0] := Cs.new w _ _
  by_cases hl : 8192 < x.length
  · have hE := Lib.hid (show parseM x = .error 5 by rw [parseM_is, if_pos hl])
    have hlz : ((8192 : Int) < (x.length : Int)) := by omega
    have HC := Lib.hid hc0
    have HB := Lib.hid hb0
    clear hl hc0 hb0
    go_enter Tryz.func47, Tryz.ntmps47
    go_wp2_with fail
    refine bodyPost_ret (results_msg rfl _ _ w.heap.size _ _ _ _ _ rfl HC.out) rfl ?_
    unfold ParseP
    rw [hE.out]
    exact ⟨HB.out, rfl, by decide⟩
  · have hE := Lib.hid (show parseM x = readM x by rw [parseM_is, if_neg hl])
    have hlz : ¬ ((8192 : Int) < (x.length : Int)) := by omega
    have hb1 := Below.and hb0 (below_new (w.alloc (.cells zero5 25)) (.cells (rdr8 A x.length c) 71))
    have hs1 : (w.alloc (.cells zero5 25)).heap.size = w.heap.size + 1 := by simp
    have hR : RSt ((w.alloc (.cells zero5 25)).alloc (.cells (rdr8 A x.length c) 71)) (w.heap.size + 1) w.heap.size A c x [] [] 0 nilV nilV false 0 := by
      have hcs := Cs.new (w.alloc (.cells zero5 25)) [.slice A x.length c, .string ⟨#[]⟩, .string ⟨#[]⟩, .int .i64 0, .slice none 0 0, .slice none 0 0, .bool false, .int .i64 0] 71
      rw [hs1] at hcs
      exact ⟨hcs, hG.size, Nat.le_succ _, h.keep fun j hj => hb1.block j hj, hG.fresh hb1⟩
    have hs2 : ((w.alloc (.cells zero5 25)).alloc (.cells (rdr8 A x.length c) 71)).heap.size = w.heap.size + 1 + 1 := by simp
    have HC2 := Lib.hid (hc0.keep (w' := (w.alloc (.cells zero5 25)).alloc (.cells (rdr8 A x.length c) 71)) (by rw [hs2, hs1]; omega) ((below_new _ _).block _ (by rw [hs1]; omega)))
    have CR := Lib.hid (read_any hR hs)
    have HB1 := Lib.hid hb1
    have HS2 := Lib.hid hs2
    clear hb0 hb1 hR hc0 hl hs1 hs2
    go_enter Tryz.func47, Tryz.ntmps47
    go_wp2_with fail
    generalize (w.alloc (.cells zero5 25)).alloc (.cells (rdr8 A x.length c) 71) = w2 at *
    go_at_call 69
    refine CR.out.mono ?_
    rintro e w3 ⟨hk, hp⟩
    have HC3 := Lib.hid (HC2.out.keep hk.size (hk.block _ HC2.out.lt (by omega)))
    have HB3 := Lib.hid (HB1.out.trans (hk.to (by omega) (by rw [HS2.out]; omega)))
    clear hk CR
    cases hr : readM x with
    | error E =>
      rw [hr] at hp hE
      obtain ⟨rfl, hne⟩ := hp
      have hne1 : ((E : Int) != 0) = true := by rw [bne_iff_ne]; exact hne
      have HNE := Lib.hid hne
      have d0 := HC3.out.c 0 (by simp)
      have d1 := HC3.out.c 1 (by simp)
      have d2 := HC3.out.c 2 (by simp)
      have d3 := HC3.out.c 3 (by simp)
      have d4 := HC3.out.c 4 (by simp)
      have f0 := HC3.out.free 0 (by simp)
      have f1 := HC3.out.free 1 (by simp)
      have f2 := HC3.out.free 2 (by simp)
      have f3 := HC3.out.free 3 (by simp)
      have f4 := HC3.out.free 4 (by simp)
      clear hne hr
      go_wp2_with fail
      refine bodyPost_ret (results_msg rfl _ _ w.heap.size _ _ _ _ _ rfl (msg_set HC3.out _ _ _ _ _)) rfl ?_
      unfold ParseP
      rw [hE.out]
      exact ⟨msg_set_below HB3.out (Nat.le_refl _) _ _ _ _ _, rfl, HNE.out⟩
    | ok m0 =>
      rw [hr] at hp hE
      obtain ⟨rfl, m, A1, c1, hV, Ab, cb, ch, k, hm, hsm, hR, hO, hB⟩ := hp
      obtain rfl : m0 = m := Except.ok.inj (hr.symm.trans hm)
      obtain ⟨Ah, chh, rfl⟩ := OwnH.shape hO
      have HSM := Lib.hid hsm
      have HO := Lib.hid hO
      have HBB := Lib.hid hB
      have e1 := hR.c1
      have e2 := hR.c2
      have e3 := hR.c3
      have e4 := hR.c4
      have e5 := hR.c5
      have d0 := HC3.out.c 0 (by simp)
      have d1 := HC3.out.c 1 (by simp)
      have d2 := HC3.out.c 2 (by simp)
      have d3 := HC3.out.c 3 (by simp)
      have d4 := HC3.out.c 4 (by simp)
      have f0 := HC3.out.free 0 (by simp)
      have f1 := HC3.out.free 1 (by simp)
      have f2 := HC3.out.free 2 (by simp)
      have f3 := HC3.out.free 3 (by simp)
      have f4 := HC3.out.free 4 (by simp)
      unfold strV at e1 e2
      clear hm hr hsm hR hO hB
      go_wp2_with fail
      refine bodyPost_ret (results_msg rfl _ _ w.heap.size _ _ _ _ _ rfl (msg_set HC3.out _ _ _ _ _)) rfl ?_
      unfold ParseP
      rw [hE.out]
      exact ⟨msg_set_below HB3.out (Nat.le_refl _) _ _ _ _ _, Ah, chh, Ab, cb, rfl, HSM.out, (OwnH.kept HO.out (by omega) (kp_msg w3 _ _ _ _ _)).up (by omega) rfl, OwnB.up (OwnB.kept HBB.out (by omega) (kp_msg w3 _ _ _ _ _)) (by omega)⟩
end Go.Proofs.YthniggdimfldhaaGreatDoor
namespace Go.Proofs.YthniggdimfldhaaGreatDoor
open Go Go.RowKit

structure RowG (w : World) (base : Nat) (A : Option Addr) (c : Nat) (l : List UInt8) : Prop where
  le : l.length ≤ c
  most : c ≤ maxLen
  at_ : (A = none ∧ c = 0) ∨ ∃ g, A = some ⟨g, 0, none⟩ ∧ base ≤ g ∧ g < w.heap.size ∧ (∀ j, j < c → (w.cell? ⟨g, j, none⟩).isSome = true ∧ w.frozen? ⟨g, j, none⟩ = false) ∧ ∀ j (h : j < l.length), w.cell? ⟨g, j, none⟩ = some (.int .u8 (l[j].toNat : Int))
theorem RowG.nil (w : World) (base : Nat) : RowG w base none 0 [] := ⟨Nat.le_refl _, Nat.zero_le _, .inl ⟨rfl, rfl⟩⟩
theorem RowG.rb {w : World} {base : Nat} {A : Option Addr} {c : Nat} {l : List UInt8} (h : RowG w base A c l) : Rb w.heap.size w A c l := by
  rcases h.at_ with ⟨rfl, rfl⟩ | ⟨g, rfl, hb, hlt, _, hc⟩
  · have : l = [] := List.eq_nil_of_length_eq_zero (by have := h.le; omega)
    subst this
    exact ⟨Nat.le_refl _, fun _ => rfl, fun i hi => by simp at hi⟩
  · exact ⟨h.le, (fun e => (by cases e)), fun i hi => ⟨g, 0, rfl, hlt, by rw [Nat.zero_add]; exact hc i hi⟩⟩
theorem RowG.keep {w w' : World} {base : Nat} {A : Option Addr} {c : Nat} {l : List UInt8} (h : RowG w base A c l) (hs : w.heap.size ≤ w'.heap.size) (hb : ∀ g, A = some ⟨g, 0, none⟩ → w'.heap[g]? = w.heap[g]?) : RowG w' base A c l := by
  refine ⟨h.le, h.most, ?_⟩
  rcases h.at_ with h1 | ⟨g, rfl, h1, h2, h3, h4⟩
  · exact .inl h1
  · have e := hb g rfl
    refine .inr ⟨g, rfl, h1, Nat.lt_of_lt_of_le h2 hs, fun j hj => ?_, fun j hj => ?_⟩
    · have := h3 j hj
      unfold World.cell? World.frozen? at *
      rw [e]
      exact this
    · have := h4 j hj
      unfold World.cell? at *
      rw [e]
      exact this
theorem RowG.lt {w : World} {base : Nat} {A : Option Addr} {c : Nat} {l : List UInt8} (h : RowG w base A c l) {g : Nat} (e : A = some ⟨g, 0, none⟩) : base ≤ g ∧ g < w.heap.size := by
  rcases h.at_ with ⟨rfl, _⟩ | ⟨g', rfl, h1, h2, _⟩
  · cases e
  · cases e; exact ⟨h1, h2⟩
theorem RowG.below {w w' : World} {base : Nat} {A : Option Addr} {c : Nat} {l : List UInt8} (h : RowG w base A c l) (hb : Below w.heap.size w w') : RowG w' base A c l :=
  h.keep hb.size fun g e => hb.block g (h.lt e).2
theorem RowG.up {w : World} {base base' : Nat} {A : Option Addr} {c : Nat} {l : List UInt8} (h : RowG w base A c l) (hb : base' ≤ base) : RowG w base' A c l := by
  refine ⟨h.le, h.most, ?_⟩
  rcases h.at_ with h1 | ⟨g, e, h1, h2⟩
  · exact .inl h1
  · exact .inr ⟨g, e, Nat.le_trans hb h1, h2⟩
theorem OwnB.rowG {w : World} {base : Nat} {v : Value} {l : List UInt8} (h : OwnB w base v l) : ∃ A c, v = .slice A l.length c ∧ RowG w base A c l := by
  rcases h.2 with ⟨rfl, h0⟩ | ⟨g, cap, cur, rfl, hb, hg, hnc, hcm, hsz, ht⟩
  · have : l = [] := List.eq_nil_of_length_eq_zero h0
    subst this
    exact ⟨none, 0, rfl, RowG.nil _ _⟩
  · refine ⟨_, cap, rfl, hnc, hcm, .inr ⟨g, rfl, hb, (Array.getElem?_eq_some_iff.1 hg).1, fun j hj => ?_, fun j hj => ?_⟩⟩
    · unfold World.cell? World.frozen?
      rw [hg]
      have hj' : j < cur.size := by rw [hsz]; omega
      simp [hj']
    · have := h.cells (g := g) rfl j (.int .u8 (l[j].toNat : Int)) (by simp [Lib.byteCells, hj])
      rw [add_pl, Nat.zero_add] at this
      exact this
/-- what '[]byte(s)' makes -/
theorem conv_rowG (w : World) (l : List UInt8) (hl : l.length ≤ 140737488355328) : RowG (Lib.bytesWorld w 5 ⟨l.toArray⟩) w.heap.size (some ⟨w.heap.size, 0, none⟩) (grownCap w l.length 0 5) l := by
  have hsz := mk_size l
  have hge := grownCap_ge w l.length 0 5
  refine ⟨hge, grownCap_le_maxLen w l.length 0 5 (by unfold maxLen; omega), .inr ⟨w.heap.size, rfl, Nat.le_refl _, by rw [Lib.bytesWorld_size]; omega, fun j hj => ?_, fun j hj => ?_⟩⟩
  · have hcs : (Lib.bytesCells w 5 ⟨l.toArray⟩).size = grownCap w l.length 0 5 := by
      unfold Lib.bytesCells
      rw [Array.size_append, Array.size_map]
      simp
      rw [hsz]
      omega
    unfold World.cell? World.frozen?
    rw [Lib.bytesWorld_at_new]
    have hj' : j < (Lib.bytesCells w 5 ⟨l.toArray⟩).size := by rw [hcs]; exact hj
    simp [hj']
    omega
  · rw [Lib.bytesWorld_cell w _ _ j (by rw [hsz]; exact hj), mk_toList, List.getD_eq_getElem?_getD, List.getElem?_eq_getElem hj]
    rfl
theorem setCells_same (b : Nat) : ∀ (vs : List Value) (o : Nat) (w : World), (w.setCells b o vs).os = w.os ∧ (w.setCells b o vs).tape = w.tape ∧ (w.setCells b o vs).output = w.output ∧ (w.setCells b o vs).heap.size = w.heap.size ∧ ∀ k, k ≠ b → (w.setCells b o vs).heap[k]? = w.heap[k]?
  | [], _, _ => ⟨rfl, rfl, rfl, rfl, fun _ _ => rfl⟩
  | v :: vs, o, w => by
    obtain ⟨h1, h2, h3, h4, h5⟩ := setCells_same b vs (o + 1) (w.setCell ⟨b, o, none⟩ v)
    exact ⟨h1, h2, h3, h4.trans (by simp), fun k hk => (h5 k hk).trans (Below.heap_setCell _ _ _ _ hk)⟩
/-- 'append(v, ..)', of whatever source -/
theorem run_pushG (w : World) (base : Nat) (ty tx : TypeId) (A : Option Addr) (c : Nat) (l z : List UInt8) (x : Value) (h : RowG w base A c l) (hx : Src Tryz.prog 1 tx x z.length (Lib.byteCells z) w) (hbase : base ≤ w.heap.size) (hlen : l.length + z.length ≤ 140737488355328) :
    ∃ (A' : Option Addr) (c' : Nat) (w' : World), (Builtin.append_ #[23, tx] ty #[.slice A l.length c, x]).run Tryz.prog w = .ok (.slice A' (l.length + z.length) c') w' ∧ RowG w' base A' c' (l ++ z) ∧ Below base w w' ∧ (∀ k, k < w.heap.size → A ≠ some ⟨k, 0, none⟩ → w'.heap[k]? = w.heap[k]?) ∧ (A' = A ∨ ∃ k, w.heap.size ≤ k ∧ A' = some ⟨k, 0, none⟩) := by
  obtain ⟨i0, hi, hz0, hz1, hz2⟩ := info_parts info5
  have hx' : Src Tryz.prog i0.size tx x z.length (Lib.byteCells z) w := by rw [hz1]; exact hx
  have grown : (olds : List Value) → olds = Lib.byteCells l → (old : Nat) → old < l.length + z.length →
      RowG (w.drew.alloc (.cells ((olds ++ Lib.byteCells z).toArray ++ Builtin.zeroCells (Value.int .u8 0).cells (grownCap w (l.length + z.length) old 5 - (l.length + z.length))) 5)) base (some ⟨w.heap.size, 0, none⟩) (grownCap w (l.length + z.length) old 5) (l ++ z) ∧
      Below base w (w.drew.alloc (.cells ((olds ++ Lib.byteCells z).toArray ++ Builtin.zeroCells (Value.int .u8 0).cells (grownCap w (l.length + z.length) old 5 - (l.length + z.length))) 5)) := by
    intro olds ho old hold
    subst ho
    have hge := grownCap_ge w (l.length + z.length) old 5
    have hcm : grownCap w (l.length + z.length) old 5 ≤ maxLen := grownCap_le_maxLen w (l.length + z.length) old 5 (by unfold maxLen; omega)
    refine ⟨⟨by rw [List.length_append]; exact hge, hcm, .inr ⟨w.heap.size, rfl, hbase, ?_, fun j hj => ?_, fun j hj => ?_⟩⟩, ?_⟩
    · show _ < (w.heap.push _).size; simp
    · have e : (w.drew.alloc (.cells ((Lib.byteCells l ++ Lib.byteCells z).toArray ++ Builtin.zeroCells (Value.int .u8 0).cells (grownCap w (l.length + z.length) old 5 - (l.length + z.length))) 5)).heap[w.heap.size]? = some (.cells ((Lib.byteCells l ++ Lib.byteCells z).toArray ++ Builtin.zeroCells (Value.int .u8 0).cells (grownCap w (l.length + z.length) old 5 - (l.length + z.length))) 5) := heap_alloc_new w.drew _
      have hsz : ((Lib.byteCells l ++ Lib.byteCells z).toArray ++ Builtin.zeroCells (Value.int .u8 0).cells (grownCap w (l.length + z.length) old 5 - (l.length + z.length))).size = grownCap w (l.length + z.length) old 5 := by
        rw [Array.size_append, size_zeroCells]
        simp only [List.size_toArray, List.length_append, Lib.byteCells_length]
        show _ + _ * 1 = _
        omega
      unfold World.cell? World.frozen?
      rw [e]
      generalize (Lib.byteCells l ++ Lib.byteCells z).toArray ++ Builtin.zeroCells (Value.int .u8 0).cells (grownCap w (l.length + z.length) old 5 - (l.length + z.length)) = arr at *
      have hj' : j < arr.size := by rw [hsz]; exact hj
      simp [hj']
    · have e : (w.drew.alloc (.cells ((Lib.byteCells l ++ Lib.byteCells z).toArray ++ Builtin.zeroCells (Value.int .u8 0).cells (grownCap w (l.length + z.length) old 5 - (l.length + z.length))) 5)).heap[w.heap.size]? = some (.cells ((Lib.byteCells l ++ Lib.byteCells z).toArray ++ Builtin.zeroCells (Value.int .u8 0).cells (grownCap w (l.length + z.length) old 5 - (l.length + z.length))) 5) := heap_alloc_new w.drew _
      unfold World.cell?
      rw [e]
      have e2 : (Lib.byteCells l ++ Lib.byteCells z) = Lib.byteCells (l ++ z) := by simp [Lib.byteCells]
      rw [e2]
      show (((Lib.byteCells (l ++ z)).toArray ++ _)[j]?) = _
      rw [Array.getElem?_append_left (by simp [Lib.byteCells]; simpa using hj)]
      simp only [List.getElem?_toArray]
      unfold Lib.byteCells
      rw [List.getElem?_map, List.getElem?_eq_getElem hj]
      rfl
    · exact (below_drewN (Below.refl base w) 1).alloc hbase _
  rcases h.at_ with ⟨rfl, rfl⟩ | ⟨g, rfl, hb, hlt, hcs, hcl⟩
  · have hl0 : l = [] := List.eq_nil_of_length_eq_zero (by have := h.le; omega)
    subst hl0
    by_cases h0 : z.length = 0
    · have hz' : z = [] := List.eq_nil_of_length_eq_zero h0
      subst hz'
      exact ⟨none, 0, w, run_append_nothing (P := Tryz.prog) w 23 tx ty 5 i0 Tryz.underlying23 hi none 0 0 (Nat.le_refl _) x hx', RowG.nil _ _, Below.refl _ _, fun _ _ _ => rfl, .inl rfl⟩
    · have hr := run_append_grow_src (P := Tryz.prog) w 23 tx ty 5 i0 (.int .u8 0) Tryz.underlying23 hi hz0 none 0 0 [] (by simp [Builtin.firstCells]) x z.length (Lib.byteCells z) hx' (by omega) (by omega) (by rw [hz2]; exact growslice_fits (by omega) (by omega))
      obtain ⟨g1, g2⟩ := grown [] rfl 0 (by simp; omega)
      refine ⟨_, _, _, hr, ?_, ?_, fun k hk _ => heap_alloc_old w.drew _ hk, .inr ⟨w.heap.size, Nat.le_refl _, rfl⟩⟩
      · exact g1
      · exact g2
  · by_cases hroom : l.length + z.length ≤ c
    · have hbl := Lib.byteCells_length z
      have hr := run_append_room_src (P := Tryz.prog) w 23 tx ty 5 i0 Tryz.underlying23 hi g 0 l.length c x z.length (Lib.byteCells z) hx' hroom
        (fun j hj => by rw [hz1, Nat.zero_add, Nat.mul_one]; exact (hcs _ (by omega)).1) (fun j hj => by rw [hz1, Nat.zero_add, Nat.mul_one]; exact (hcs _ (by omega)).2)
      rw [hz1, Nat.zero_add, Nat.mul_one] at hr
      obtain ⟨s1, s2, s3, s4, s5⟩ := setCells_same g (Lib.byteCells z) l.length w
      refine ⟨_, _, _, hr, ⟨by rw [List.length_append]; exact hroom, h.most, .inr ⟨g, rfl, hb, by rw [s4]; exact hlt, fun j hj => ⟨?_, ?_⟩, fun j hj => ?_⟩⟩, ⟨s1, s2, s3, by rw [s4]; exact Nat.le_refl _, fun k hk => s5 k (by omega)⟩, fun k _ hk => s5 k (fun e => hk (by rw [e])), .inl rfl⟩
      · exact World.isSome_setCells g _ _ w _ (hcs j hj).1
      · rw [World.frozen?_setCells]; exact (hcs j hj).2
      · by_cases hjl : j < l.length
        · rw [World.cell?_setCells_out g _ _ w _ (fun _ _ => .inl hjl), hcl j hjl, List.getElem_append_left hjl]
        · have hjz : j - l.length < (Lib.byteCells z).length := by rw [hbl]; rw [List.length_append] at hj; omega
          have := World.cell?_setCells_in g (Lib.byteCells z) l.length w (fun i hi => (hcs _ (by omega)).1) (j - l.length) hjz
          rw [show l.length + (j - l.length) = j by omega] at this
          rw [this, List.getElem_append_right (by omega)]
          simp [Lib.byteCells]
    · have hr := run_append_grow_src (P := Tryz.prog) w 23 tx ty 5 i0 (.int .u8 0) Tryz.underlying23 hi hz0 (some ⟨g, 0, none⟩) l.length c (Lib.byteCells l)
        (by
          rw [hz1]
          exact run_firstCells_some w.drew 1 l.length ⟨g, 0, none⟩ l.length c (Lib.byteCells l) (by rw [Lib.byteCells_length, Nat.mul_one]) (fun j u hj => by
            have hjl : j < l.length := by
              have := (List.getElem?_eq_some_iff.1 hj).1
              rwa [Lib.byteCells_length] at this
            show w.cell? _ = _
            rw [add_pl, Nat.zero_add, hcl j hjl, ← hj]
            unfold Lib.byteCells
            rw [List.getElem?_map, List.getElem?_eq_getElem hjl]
            rfl)) x z.length (Lib.byteCells z) hx' (by omega) (by omega) (by rw [hz2]; exact growslice_fits (by omega) (by omega))
      obtain ⟨g1, g2⟩ := grown _ rfl c (by omega)
      refine ⟨_, _, _, hr, g1, g2, fun k hk _ => heap_alloc_old w.drew _ hk, .inr ⟨w.heap.size, Nat.le_refl _, rfl⟩⟩
end Go.Proofs.YthniggdimfldhaaGreatDoor
namespace Go.Proofs.YthniggdimfldhaaGreatDoor
open Go Go.RowKit

theorem src_rb {D : Nat} {w : World} {A : Option Addr} {c : Nat} {z : List UInt8} (hz : Rb D w A c z) : Src Tryz.prog 1 23 (.slice A z.length c) z.length (Lib.byteCells z) w := by
  cases A with
  | none =>
    have hc : c = 0 := hz.nil rfl
    have hz0' : z = [] := List.eq_nil_of_length_eq_zero (by have := hz.cap; omega)
    subst hz0' hc
    exact Src.ofNil w Tryz.underlying23 0
  | some ad =>
    refine Src.ofSlice w Tryz.underlying23 ad z.length c (Lib.byteCells z) (by rw [Lib.byteCells_length, Nat.mul_one]) (fun j u hj => ?_) (fun u hu => by unfold Lib.byteCells at hu; obtain ⟨y, _, rfl⟩ := List.mem_map.1 hu; rfl)
    have hjl : j < z.length := by
      have := (List.getElem?_eq_some_iff.1 hj).1
      rwa [Lib.byteCells_length] at this
    obtain ⟨b, off, e, _, hcl⟩ := hz.rd j hjl
    have e := Option.some.inj e
    rw [e, add_pl, hcl, ← hj]
    unfold Lib.byteCells
    rw [List.getElem?_map, List.getElem?_eq_getElem hjl]
    rfl
theorem src_str (w : World) (z : List UInt8) : Src Tryz.prog 1 9 (.string ⟨z.toArray⟩) z.length (Lib.byteCells z) w := by
  have h := Src.ofString (P := Tryz.prog) w Tryz.underlying9 ⟨z.toArray⟩
  have e : byteCells ⟨z.toArray⟩ = Lib.byteCells z := by simp [byteCells, Lib.byteCells]
  rw [mk_size, e] at h
  exact h
theorem wpList_pushG {ops : Array Oper} {rest : List Oper} {o : Oper} {a : Act} {Q : Exit → Act → World → Prop} (hgd : o.guard = none) (s x : Operand) (tx : TypeId)
    (ho : o.op = .call { callee := .builtin .append, args := #[s, x], argTypes := #[23, tx] }) (w : World) (base : Nat) (A : Option Addr) (c n m : Nat) (l z : List UInt8) (xv : Value) (hn : l.length = n) (hm : z.length = m)
    (hs : a.eval s = .slice A n c) (hx : a.eval x = xv) (h : RowG w base A c l) (hsrc : Src Tryz.prog 1 tx xv z.length (Lib.byteCells z) w) (hbase : base ≤ w.heap.size) (hlen : n + m ≤ 140737488355328)
    (hk : ∀ (A' : Option Addr) (c' : Nat) w', RowG w' base A' c' (l ++ z) → Below base w w' → (∀ k, k < w.heap.size → A ≠ some ⟨k, 0, none⟩ → w'.heap[k]? = w.heap[k]?) → wpList Tryz.prog ops Q rest (a.put o.dst (.slice A' (n + m) c')) w') :
    wpList Tryz.prog ops Q (o :: rest) a w := by
  subst hn hm
  refine wpList_plain hgd fun K hK => ?_
  obtain ⟨A', c', w', hr, h2, h3, h4, _⟩ := run_pushG w base o.type tx A c l z xv h hsrc hbase hlen
  unfold Oper.wp execOp
  simp only [ho, resolve, invoke, builtin, Sem.run_bind, Sem.run_pure, Result.andThen_ok, List.map_toArray, List.map_cons, List.map_nil, hs, hx, hr]
  exact hK _ _ (hk A' c' w' h2 h3 h4)
theorem wpList_pushGG {ops : Array Oper} {rest : List Oper} {o : Oper} {a : Act} {Q : Exit → Act → World → Prop} (hw : Region.wanted o (yielded ops a.tmps) = true) (s x : Operand) (tx : TypeId)
    (ho : o.op = .call { callee := .builtin .append, args := #[s, x], argTypes := #[23, tx] }) (w : World) (base : Nat) (A : Option Addr) (c n m : Nat) (l z : List UInt8) (xv : Value) (hn : l.length = n) (hm : z.length = m)
    (hs : a.eval s = .slice A n c) (hx : a.eval x = xv) (h : RowG w base A c l) (hsrc : Src Tryz.prog 1 tx xv z.length (Lib.byteCells z) w) (hbase : base ≤ w.heap.size) (hlen : n + m ≤ 140737488355328)
    (hk : ∀ (A' : Option Addr) (c' : Nat) w', RowG w' base A' c' (l ++ z) → Below base w w' → (∀ k, k < w.heap.size → A ≠ some ⟨k, 0, none⟩ → w'.heap[k]? = w.heap[k]?) → wpList Tryz.prog ops Q rest (a.put o.dst (.slice A' (n + m) c')) w') :
    wpList Tryz.prog ops Q (o :: rest) a w := by
  subst hn hm
  refine wpList_step fun K hK => ?_
  rw [if_pos hw]
  obtain ⟨A', c', w', hr, h2, h3, h4, _⟩ := run_pushG w base o.type tx A c l z xv h hsrc hbase hlen
  unfold Oper.wp execOp
  simp only [ho, resolve, invoke, builtin, Sem.run_bind, Sem.run_pure, Result.andThen_ok, List.map_toArray, List.map_cons, List.map_nil, hs, hx, hr]
  exact hK _ _ (hk A' c' w' h2 h3 h4)
theorem cat_mk (x y : List UInt8) : (⟨x.toArray⟩ : ByteArray) ++ ⟨y.toArray⟩ = ⟨(x ++ y).toArray⟩ := by
  apply ByteArray.ext
  simp [ByteArray.data_append]
def linesL (T : List (List UInt8)) : List UInt8 := T.flatMap fun t => t ++ [13, 10]
/-- texts in the cells of a block -/
def TxAt (w : World) (b off : Nat) (T : List (List UInt8)) : Prop := ∀ i (h : i < T.length), w.cell? ⟨b, off + i, none⟩ = some (.string ⟨T[i].toArray⟩)
theorem linesL_step {T : List (List UInt8)} {k : Nat} (h : k < T.length) : linesL (T.take (k + 1)) = linesL (T.take k) ++ T[k] ++ [13, 10] := by
  unfold linesL
  rw [← List.take_append_getElem h, List.flatMap_append, List.flatMap_singleton, List.append_assoc]
theorem linesL_le {T : List (List UInt8)} (k : Nat) : (linesL (T.take k)).length ≤ (linesL T).length := by
  have : linesL T = linesL (T.take k) ++ linesL (T.drop k) := by unfold linesL; rw [← List.flatMap_append, List.take_append_drop]
  rw [this, List.length_append]; omega
/-- what a slice of bytes, just made, is -/
def MadeP (l : List UInt8) (w : World) (e : Ending) (w' : World) : Prop := ∃ (A : Option Addr) (c : Nat), e = .returned (.slice A l.length c) ∧ RowG w' w.heap.size A c l ∧ Below w.heap.size w w'
set_option maxRecDepth 100000 in
set_option maxHeartbeats 1000000 in
theorem lines_any (b off c : Nat) (T : List (List UInt8)) (w : World) (h : TxAt w b off T) (_hb : b < w.heap.size) (hl : (linesL T).length ≤ 1000000000) (hT : T.length ≤ 1000000) :
    Calls Tryz.prog 48 #[.slice (some ⟨b, off, none⟩) T.length c] w (MadeP (linesL T) w) := by
  have H := Lib.hid h
  clear h _hb
  go_enter Tryz.func48, Tryz.ntmps48
  go_wp2_with fail
  go_loop [3, 4] (fun s i => ∃ (k : Nat) (S : ByteArray), k ≤ T.length ∧ s = .string S ∧ i = .int .i64 k ∧ Hid (S = ⟨(linesL (T.take k)).toArray⟩)) (fun _ i => T.length - (intOf i).toNat)
  case atStart => exact ⟨0, _, Nat.zero_le _, rfl, rfl, rfl⟩
  case round =>
    obtain ⟨k, S, hk, rfl, rfl, HS⟩ := hrel
    by_cases hlt : k < T.length
    · have hc := H.out k hlt
      have i1 : (0 : Int) ≤ k := by omega
      have i2 : (k : Int) < T.length := by omega
      have HST := Lib.hid (linesL_step hlt)
      have hz : S.size + T[k].length + 2 ≤ 1000000000 := by
        have h1 := linesL_le (T := T) (k + 1)
        rw [HST.out] at h1
        simp only [List.length_append, List.length_cons, List.length_nil] at h1
        rw [HS.out, mk_size]
        omega
      generalize T[k] = t at *
      go_wp2_with fail
      go_round
      case rel =>
        refine ⟨k + 1, _, by omega, rfl, by go_num, ?_⟩
        show _ = _
        rw [HST.out, HS.out, cat_mk]
        exact cat_mk _ [13, 10]
      case measure => simp [intOf]; omega
    · obtain rfl : k = T.length := by omega
      have hS := HS.out
      rw [List.take_length] at hS
      subst hS
      have hcv := bytes_conv w ⟨(linesL T).toArray⟩
      have hrow := Lib.hid (conv_rowG w (linesL T) (by omega))
      have hbel := Lib.hid (bytesWorld_below w ⟨(linesL T).toArray⟩)
      rw [mk_size] at hcv
      clear HS
      generalize linesL T = l at *
      generalize Lib.bytesWorld w 5 ⟨l.toArray⟩ = w1 at *
      generalize grownCap w l.length 0 5 = cap at *
      go_wp2_with fail
      go_ret
      exact Exists.intro _ (Exists.intro _ ⟨rfl, hrow.out, hbel.out⟩)
set_option maxRecDepth 100000 in
theorem wrong_yes {w : World} {A : Option Addr} {c n : Nat} {x : List UInt8} {E : Int} (h : Rb w.heap.size w A c x) (hn : n = x.length) (hG : Gl w) (hs : x.length ≤ 1000000) (hE : parseM x = .error E) :
    Calls Tryz.prog 49 #[.slice A n c, .int .i64 E] w fun e w' => e = .returned (.bool true) ∧ Below w.heap.size w w' := by
  subst hn
  have C := Lib.hid (parse_any h hG hs)
  have HE := Lib.hid hE
  clear h hE
  go_enter Tryz.func49, Tryz.ntmps49
  go_wp2_with fail
  go_at_call 47
  refine C.out.mono ?_
  rintro e w1 ⟨hb, hp⟩
  rw [HE.out] at hp
  obtain ⟨rfl, _⟩ := hp
  have HB := Lib.hid (Below.and hb (below_new w1 (.cells zero5 25)))
  clear C hb
  go_wp2_with fail
  go_ret
  exact ⟨rfl, HB.out⟩
end Go.Proofs.YthniggdimfldhaaGreatDoor
