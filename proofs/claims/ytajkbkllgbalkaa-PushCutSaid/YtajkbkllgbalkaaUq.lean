/- The program's Diff. -/
import Derived.Test.YtajkbkllgbalkaaUo
namespace Go.Proofs.Ytajkbkllgbalkaa
open Go Go.RowKit

def diffP (a b : Bs) : Psh × Int :=
  if 65536 < a.length ∨ 65536 < b.length then (zeroP, 5)
  else if 1000 < ((Pl.lines b).drop (alk (Pl.lines a) (Pl.lines b))).length - alkE ((Pl.lines a).drop (alk (Pl.lines a) (Pl.lines b))) ((Pl.lines b).drop (alk (Pl.lines a) (Pl.lines b))) then (zeroP, 5)
  else (⟨2, 2, 1, 0, 0, (alk (Pl.lines a) (Pl.lines b) : Nat), (alkE ((Pl.lines a).drop (alk (Pl.lines a) (Pl.lines b))) ((Pl.lines b).drop (alk (Pl.lines a) (Pl.lines b))) : Nat), [],
    ((Pl.lines b).drop (alk (Pl.lines a) (Pl.lines b))).take (((Pl.lines b).drop (alk (Pl.lines a) (Pl.lines b))).length - alkE ((Pl.lines a).drop (alk (Pl.lines a) (Pl.lines b))) ((Pl.lines b).drop (alk (Pl.lines a) (Pl.lines b))))⟩, 0)
/-- of lists of lines -/
def diffL (la lb : List Bs) : Psh × Int :=
  if 1000 < (lb.drop (alk la lb)).length - alkE (la.drop (alk la lb)) (lb.drop (alk la lb)) then (zeroP, 5)
  else (⟨2, 2, 1, 0, 0, (alk la lb : Nat), (alkE (la.drop (alk la lb)) (lb.drop (alk la lb)) : Nat), [], (lb.drop (alk la lb)).take ((lb.drop (alk la lb)).length - alkE (la.drop (alk la lb)) (lb.drop (alk la lb)))⟩, 0)
theorem diffL_eq (la lb : List Bs) : diffL la lb = if 1000 < (lb.drop (alk la lb)).length - alkE (la.drop (alk la lb)) (lb.drop (alk la lb)) then (zeroP, 5)
  else (⟨2, 2, 1, 0, 0, (alk la lb : Nat), (alkE (la.drop (alk la lb)) (lb.drop (alk la lb)) : Nat), [], (lb.drop (alk la lb)).take ((lb.drop (alk la lb)).length - alkE (la.drop (alk la lb)) (lb.drop (alk la lb)))⟩, 0) := rfl
theorem alkE_le (a b : List Bs) : alkE a b ≤ a.length ∧ alkE a b ≤ b.length := by
  have := alk_le a.reverse b.reverse
  rw [List.length_reverse, List.length_reverse] at this
  exact this
theorem lines_few {a : Bs} (h : a.length ≤ 65536) : (Pl.lines a).length ≤ 1000000 := Nat.le_trans (Pl.lines_len a) (by omega)
theorem run_sliceLo {o : Oper} {a : Act} (w : World) (x lo : Operand) (ho : o.op = .slice 22 x (some lo) none none) (A : Option Addr) (n c k : Nat) (hx : a.eval x = .slice A n c) (hl : a.eval lo = .int .i64 k) (hk : k ≤ n) (hc : n ≤ c) (hA : A = none → c = 0) : (execOp a.eval o).run Try.prog w = .ok (.value (.slice (if c = k then A else A.map fun a => a.add k) (n - k : Nat) (c - k))) w := by
  have q0 : (0 : Int) ≤ k := by omega
  have q1 : (k : Int) ≤ n := by omega
  have q2 : (n : Int) ≤ c := by omega
  have q3 : (k : Int) ≤ c := by omega
  cases A with
  | none =>
    have h0 := hA rfl
    subst h0
    obtain rfl : n = 0 := by omega
    obtain rfl : k = 0 := by omega
    unfold execOp
    simp only [ho, Option.map_some, Option.map_none, hx, hl]
    go_simp
  | some ad =>
    by_cases h : c = k
    · subst h
      obtain rfl : n = c := by omega
      rw [if_pos rfl, Nat.sub_self]
      unfold execOp
      simp only [ho, Option.map_some, Option.map_none, hx, hl]
      go_simp
    · rw [if_neg h]
      unfold execOp
      simp only [ho, Option.map_some, Option.map_none, hx, hl]
      go_simp
theorem run_sliceHi {o : Oper} {a : Act} (w : World) (x hi : Operand) (ho : o.op = .slice 22 x none (some hi) none) (A : Option Addr) (n c k : Nat) (hx : a.eval x = .slice A n c) (hh : a.eval hi = .int .i64 k) (hk : k ≤ c) : (execOp a.eval o).run Try.prog w = .ok (.value (.slice A k c)) w := by
  have q0 : (0 : Int) ≤ k := by omega
  have q1 : (k : Int) ≤ c := by omega
  unfold execOp
  simp only [ho, Option.map_some, Option.map_none, hx, hh]
  go_simp
theorem wpList_sliceHi {ops : Array Oper} {rest : List Oper} {o : Oper} {a : Act} {w : World} {Q : Exit → Act → World → Prop} (hgd : o.guard = none) (x hi : Operand) (ho : o.op = .slice 22 x none (some hi) none) (A : Option Addr) (n c k : Nat) (hx : a.eval x = .slice A n c) (hh : a.eval hi = .int .i64 k) (hk : k ≤ c)
    (h : wpList Try.prog ops Q rest (a.put o.dst (.slice A k c)) w) : wpList Try.prog ops Q (o :: rest) a w := by
  refine wpList_plain hgd fun K hK => ?_
  unfold Oper.wp
  rw [run_sliceHi w x hi ho A n c k hx hh hk]
  exact hK _ _ h
theorem bsMap_str (l : List Bs) : (l.map fun s => (⟨s.toArray⟩ : ByteArray)).map Value.string = l.map strV := by rw [List.map_map]; rfl
/-- slices.Clone of texts -/
theorem clone_ts {D : Nat} {w : World} {A : Option Addr} {c n : Nat} {l : List Bs} (h : Ts D w A c l) (hn : n = l.length) (hf : n ≤ 1000000) :
    Calls Try.prog 41 #[.slice A n c] w fun e w' => ∃ v, e = .returned v ∧ Own w' w.heap.size v l ∧ Below w.heap.size w w' := by
  subst hn
  cases A with
  | none =>
    obtain ⟨rfl, rfl⟩ := h.isNil
    refine (Try.slices_Clone_string_nil 0 0 w).mono ?_
    rintro e w' ⟨rfl, rfl⟩
    exact ⟨_, rfl, Own.nil _ _, Below.refl _ _⟩
  | some ad =>
    by_cases h0 : l = []
    · subst h0
      refine (Try.slices_Clone_string_zero ad c w).mono ?_
      rintro e w' ⟨v, rfl, ho, _, hb⟩
      exact ⟨v, rfl, ho, hb⟩
    · have hpos : 0 < l.length := List.length_pos_iff.2 h0
      obtain ⟨b, off, e, _, _⟩ := h.rd 0 hpos
      cases e
      refine (Try.slices_Clone_string b off l.length c (l.map fun s => ⟨s.toArray⟩) w (by rw [List.length_map]; exact Nat.le_refl _) (by omega) (fun j hj => ?_)).mono ?_
      · rw [List.length_map] at hj
        obtain ⟨b', o', e', _, hc⟩ := h.rd j hj
        cases e'
        rw [hc, bsMap_at l j hj]
      · rintro e w' ⟨v, rfl, ho, _, hb⟩
        refine ⟨v, rfl, ?_, hb⟩
        unfold Own
        rw [List.take_of_length_le (by rw [List.length_map]; exact Nat.le_refl _), bsMap_str] at ho
        exact ho
set_option maxRecDepth 100000 in
set_option maxHeartbeats 1000000 in
theorem diff_prog (a b : Bs) (w : World) (ha : a.length ≤ 1000000) (hb : b.length ≤ 1000000) :
    Calls Try.prog 25 #[.string ⟨a.toArray⟩, .string ⟨b.toArray⟩] w (ParP (diffP a b) w) := by
  have hZ := below_new w (.cells #[.int .i64 0, .int .i64 0, .int .i64 0, .int .i64 0, .int .i64 0, .int .i64 0, .int .i64 0, .string { data := #[] }, .slice none 0 0] 24)
  have HBX := Lib.hid (box_new w 24 #[.int .i64 0, .int .i64 0, .int .i64 0, .int .i64 0, .int .i64 0, .int .i64 0, .int .i64 0, .string { data := #[] }, .slice none 0 0])
  have HB := Lib.hid hZ
  unfold ParP
  by_cases h1 : 65536 < a.length
  · have HV : Hid (diffP a b = (zeroP, 5)) := Lib.hid (by unfold diffP; rw [if_pos (.inl h1)])
    have CL := Lib.hid fun w' : World => lines_big ⟨a.toArray⟩ w' (by rw [mk_size]; exact h1) (by rw [mk_size]; unfold maxLen; omega)
    have FB : Hid (Box ((w.alloc (.cells #[.int .i64 0, .int .i64 0, .int .i64 0, .int .i64 0, .int .i64 0, .int .i64 0, .int .i64 0, .string { data := #[] }, .slice none 0 0] 24)).setRow w.heap.size (pshA zeroP none 0 0)) w.heap.size 24 (pshA zeroP none 0 0) ∧ Below w.heap.size w ((w.alloc (.cells #[.int .i64 0, .int .i64 0, .int .i64 0, .int .i64 0, .int .i64 0, .int .i64 0, .int .i64 0, .string { data := #[] }, .slice none 0 0] 24)).setRow w.heap.size (pshA zeroP none 0 0))) := Lib.hid ⟨setRow_heap _ _ _ _ _ _ HBX.out, below_setRow11 hZ (Nat.le_refl _) _⟩
    clear hZ h1
    go_enter Try.func25, Try.ntmps25
    go_upto_region 1 with fail
    generalize w.alloc (.cells #[.int .i64 0, .int .i64 0, .int .i64 0, .int .i64 0, .int .i64 0, .int .i64 0, .int .i64 0, .string { data := #[] }, .slice none 0 0] 24) = w2 at *
    go_wp2_with (first
      | (go_at_call 60; refine (CL.out _).mono ?_; rintro E w3 ⟨rfl, rfl⟩)
      | (refine wpList_store_row rfl 24 (.tmp 4) (.tmp 17) rfl w.heap.size (pshA zeroP none 0 0) rfl rfl 24 _ HBX.out pshInfo rfl (pshA_one _ _ _ _) ?_))
    refine bodyPost_ret (results_row_tmp rfl _ _ w.heap.size (pshA zeroP none 0 0) (.int .i64 5) rfl rfl FB.out.1 pshInfo) rfl ?_
    rw [HV.out]
    exact ⟨none, 0, 0, rfl, Own.nil _ _, FB.out.2⟩
  have CL := Lib.hid fun w' : World => lines_any ⟨a.toArray⟩ w' (by rw [mk_size]; omega)
  rw [mk_toList] at CL
  have HLA := Lib.hid (lines_few (a := a) (by omega))
  by_cases h2 : 65536 < b.length
  · have HV : Hid (diffP a b = (zeroP, 5)) := Lib.hid (by unfold diffP; rw [if_pos (.inr h2)])
    have CM := Lib.hid fun w' : World => lines_big ⟨b.toArray⟩ w' (by rw [mk_size]; exact h2) (by rw [mk_size]; unfold maxLen; omega)
    clear hZ h1 h2
    go_enter Try.func25, Try.ntmps25
    go_upto_region 1 with fail
    generalize w.alloc (.cells #[.int .i64 0, .int .i64 0, .int .i64 0, .int .i64 0, .int .i64 0, .int .i64 0, .int .i64 0, .string { data := #[] }, .slice none 0 0] 24) = w2 at *
    go_upto_region 6 with (first
      | (go_at_call 60; refine (CL.out _).mono ?_; rintro E w3 ⟨v, rfl, ho3, hb3⟩; have B3 := Lib.hid (HB.out.trans (hb3.mono HB.out.size)); have X3 := Lib.hid (HBX.out.below hb3); clear ho3 hb3 CL)
      | (go_at_call 60; refine (CM.out _).mono ?_; rintro E w4 ⟨rfl, rfl⟩))
    have FB : Hid (Box (w3.setRow w.heap.size (pshA zeroP none 0 0)) w.heap.size 24 (pshA zeroP none 0 0) ∧ Below w.heap.size w (w3.setRow w.heap.size (pshA zeroP none 0 0))) := Lib.hid ⟨setRow_heap _ _ _ _ _ _ X3.out, below_setRow11 B3.out (Nat.le_refl _) _⟩
    go_wp2_with (refine wpList_store_row rfl 24 (.tmp 4) (.tmp 26) rfl w.heap.size (pshA zeroP none 0 0) rfl rfl 24 _ X3.out pshInfo rfl (pshA_one _ _ _ _) ?_)
    refine bodyPost_ret (results_row_tmp rfl _ _ w.heap.size (pshA zeroP none 0 0) (.int .i64 5) rfl rfl FB.out.1 pshInfo) rfl ?_
    rw [HV.out]
    exact ⟨none, 0, 0, rfl, Own.nil _ _, FB.out.2⟩
  have CM := Lib.hid fun w' : World => lines_any ⟨b.toArray⟩ w' (by rw [mk_size]; omega)
  rw [mk_toList] at CM
  have HLB := Lib.hid (lines_few (a := b) (by omega))
  have HV : Hid (diffP a b = diffL (Pl.lines a) (Pl.lines b)) := Lib.hid (by unfold diffP diffL; rw [if_neg (by omega)])
  clear hZ h1 h2
  obtain ⟨la, hla⟩ : ∃ la, Pl.lines a = la := ⟨_, rfl⟩
  obtain ⟨lb, hlb⟩ : ∃ lb, Pl.lines b = lb := ⟨_, rfl⟩
  have HLL : Hid (diffL (Pl.lines a) (Pl.lines b) = diffL la lb) := Lib.hid (by rw [hla, hlb])
  rw [hla] at CL HLA
  rw [hlb] at CM HLB
  clear hla hlb
  go_enter Try.func25, Try.ntmps25
  go_upto_region 1 with fail
  generalize w.alloc (.cells #[.int .i64 0, .int .i64 0, .int .i64 0, .int .i64 0, .int .i64 0, .int .i64 0, .int .i64 0, .string { data := #[] }, .slice none 0 0] 24) = w2 at *
  go_upto_region 7 with (first
    | (go_at_call 60; refine (CL.out _).mono ?_; rintro E w3 ⟨v, rfl, ho3, hb3⟩; obtain ⟨A1, c1, rfl, ht3⟩ := ho3.ts; have T1 := Lib.hid ht3; have B3 := Lib.hid (HB.out.trans (hb3.mono HB.out.size)); have X3 := Lib.hid (HBX.out.below hb3); clear ho3 hb3 ht3 CL)
    | (go_at_call 60; refine (CM.out _).mono ?_; rintro E w4 ⟨v, rfl, ho4, hb4⟩; obtain ⟨A2, c2, rfl, ht4⟩ := ho4.ts; have T2 := Lib.hid ht4; have T1' := Lib.hid (T1.out.below hb4); have B4 := Lib.hid (B3.out.trans (hb4.mono B3.out.size)); have X4 := Lib.hid (X3.out.below hb4); clear ho4 hb4 ht4 CM T1 B3 X3))
  have CA := Lib.hid (alike_any T1'.out T2.out rfl rfl HLA.out HLB.out)
  have hle := alk_le la lb
  have c1' := T1'.out.cap
  have c2' := T2.out.cap
  have HD1 := Lib.hid (T1'.out.drop (alk la lb) hle.1)
  have HD2 := Lib.hid (T2.out.drop (alk la lb) hle.2)
  have HN1 := Lib.hid T1'.out.nil
  have HN2 := Lib.hid T2.out.nil
  have CE := Lib.hid fun (q : Nat) => alikeEnd_any (w := w4.drewN q) (n := (la.drop (alk la lb)).length) (m := (lb.drop (alk la lb)).length) (HD1.out.keep (fun _ _ => rfl)) (HD2.out.keep (fun _ _ => rfl)) rfl rfl (by rw [List.length_drop]; have := HLA.out; omega) (by rw [List.length_drop]; have := HLB.out; omega)
  have HDL := Lib.hid (diffL_eq la lb)
  generalize alk la lb = h at *
  go_upto_region 8 with (go_at_call 61; refine CA.out.mono ?_; rintro E w5 ⟨rfl, q5, rfl⟩)
  have hL1 : (la.drop h).length = la.length - h := List.length_drop ..
  have hL2 : (lb.drop h).length = lb.length - h := List.length_drop ..
  rw [hL1, hL2] at CE
  refine wp_region_held_drew (S := fun _ => True) (by kernel_rfl) trivial (fun hH => ?_)
  refine wpAnyH_take (i := 0) (v := .slice A1 la.length c1) rfl (by kernel_rfl) (by kernel_rfl) (by kernel_rfl) (fun _ _ _ h => h) (Or.inl ⟨by rfl, fun w hw => by go_simp⟩) hH ?_
  simp only [Act.put, List.setIfInBounds_toArray, List.set_cons_zero, List.set_cons_succ, List.getElem_toArray, List.getElem_cons_zero]
  refine wpAnyH_take (i := 1) (v := .int .i64 (h : Nat)) rfl (by kernel_rfl) (by kernel_rfl) (by kernel_rfl) (fun _ _ _ h => h) (Or.inl ⟨by rfl, fun w hw => by go_simp⟩) hH ?_
  simp only [Act.put, List.setIfInBounds_toArray, List.set_cons_zero, List.set_cons_succ, List.getElem_toArray, List.getElem_cons_zero, List.getElem_cons_succ]
  refine wpAnyH_take (i := 2) (v := .slice (if c1 = h then A1 else A1.map fun a => a.add h) (la.length - h : Nat) (c1 - h)) rfl (by kernel_rfl) (by kernel_rfl) (by kernel_rfl) (fun _ _ _ h => h) (Or.inl ⟨by rfl, fun w hw => run_sliceLo w (.tmp 31) (.tmp 32) rfl A1 la.length c1 h rfl rfl hle.1 c1' HN1.out⟩) hH ?_
  simp only [Act.put, List.setIfInBounds_toArray, List.set_cons_zero, List.set_cons_succ, List.getElem_toArray, List.getElem_cons_zero, List.getElem_cons_succ]
  refine wpAnyH_take (i := 3) (v := .slice A2 lb.length c2) rfl (by kernel_rfl) (by kernel_rfl) (by kernel_rfl) (fun _ _ _ h => h) (Or.inl ⟨by rfl, fun w hw => by go_simp⟩) hH ?_
  simp only [Act.put, List.setIfInBounds_toArray, List.set_cons_zero, List.set_cons_succ, List.getElem_toArray, List.getElem_cons_zero, List.getElem_cons_succ]
  refine wpAnyH_take (i := 4) (v := .int .i64 (h : Nat)) rfl (by kernel_rfl) (by kernel_rfl) (by kernel_rfl) (fun _ _ _ h => h) (Or.inl ⟨by rfl, fun w hw => by go_simp⟩) hH ?_
  simp only [Act.put, List.setIfInBounds_toArray, List.set_cons_zero, List.set_cons_succ, List.getElem_toArray, List.getElem_cons_zero, List.getElem_cons_succ]
  refine wpAnyH_take (i := 5) (v := .slice (if c2 = h then A2 else A2.map fun a => a.add h) (lb.length - h : Nat) (c2 - h)) rfl (by kernel_rfl) (by kernel_rfl) (by kernel_rfl) (fun _ _ _ h => h) (Or.inl ⟨by rfl, fun w hw => run_sliceLo w (.tmp 34) (.tmp 35) rfl A2 lb.length c2 h rfl rfl hle.2 c2' HN2.out⟩) hH ?_
  simp only [Act.put, List.setIfInBounds_toArray, List.set_cons_zero, List.set_cons_succ, List.getElem_toArray, List.getElem_cons_zero, List.getElem_cons_succ]
  generalize (if c1 = h then A1 else A1.map fun a => a.add h) = A3 at *
  generalize (if c2 = h then A2 else A2.map fun a => a.add h) = A4 at *
  refine wpAnyH_take (i := 6) (v := .slice A3 (la.length - h : Nat) (c1 - h)) rfl (by kernel_rfl) (by kernel_rfl) (by kernel_rfl) (fun _ _ _ h => h) (Or.inl ⟨by rfl, fun w hw => by go_simp⟩) hH ?_
  simp only [Act.put, List.setIfInBounds_toArray, List.set_cons_zero, List.set_cons_succ, List.getElem_toArray, List.getElem_cons_zero, List.getElem_cons_succ]
  refine wpAnyH_take (i := 7) (v := .slice A4 (lb.length - h : Nat) (c2 - h)) rfl (by kernel_rfl) (by kernel_rfl) (by kernel_rfl) (fun _ _ _ h => h) (Or.inl ⟨by rfl, fun w hw => by go_simp⟩) hH ?_
  simp only [Act.put, List.setIfInBounds_toArray, List.set_cons_zero, List.set_cons_succ, List.getElem_toArray, List.getElem_cons_zero, List.getElem_cons_succ]
  refine wpAnyH_done (by kernel_rfl) ?_ _
  have CE := Lib.hid (CE.out (q5 + 1))
  have HTL := Lib.hid (alkE_le (la.drop h) (lb.drop h))
  have HV2 : Hid (diffL la lb = if 1000 < (lb.drop h).length - alkE (la.drop h) (lb.drop h) then (zeroP, 5) else (⟨2, 2, 1, 0, 0, (h : Nat), (alkE (la.drop h) (lb.drop h) : Nat), [], (lb.drop h).take ((lb.drop h).length - alkE (la.drop h) (lb.drop h))⟩, 0)) := Lib.hid HDL.out
  rw [hL2] at HV2 HTL
  have HDT := Lib.hid fun k => HD2.out.take k
  have HTK : Hid (∀ k, k ≤ lb.length - h → ((lb.drop h).take k).length = k) := Lib.hid fun k hk => by rw [List.length_take, hL2]; omega
  generalize alkE (la.drop h) (lb.drop h) = t at *
  generalize lb.drop h = rb at *
  have hc9 : lb.length - h ≤ c2 - h := by omega
  have hn9 : lb.length - h ≤ 1000000 := by have := HLB.out; omega
  generalize lb.length - h = n2 at *
  generalize la.length - h = n1 at *
  generalize c2 - h = c4 at *
  generalize c1 - h = c3 at *
  have htl := HTL.out.2
  obtain ⟨k, hk⟩ : ∃ k : Nat, k = n2 - t := ⟨_, rfl⟩
  have u1 : IntKind.i64.wrap ((n2 : Int) - t) = k := by rw [IntKind.wrap_i64]; omega
  have hkc : k ≤ c4 := by omega
  have hkn : k ≤ n2 := by omega
  rw [← hk] at HV2
  clear hL1 hL2 hk
  have W5 : Hid (∀ q, Below w.heap.size w (w4.drewN q) ∧ Box (w4.drewN q) w.heap.size 24 #[.int .i64 0, .int .i64 0, .int .i64 0, .int .i64 0, .int .i64 0, .int .i64 0, .int .i64 0, .string { data := #[] }, .slice none 0 0]) := Lib.hid fun q => ⟨below_drewN B4.out q, X4.out⟩
  by_cases hbig : 1000 < k
  · have q1 : (1000 : Int) < k := by omega
    rw [if_pos hbig] at HV2
    go_upto_region 12 with (first
      | (go_at_call 62; refine (show Calls _ _ _ (w4.drewN q5).drew _ from CE.out).mono ?_; rintro E w6 ⟨rfl, q6, rfl⟩)
      | (refine wpList_sliceHi rfl (.tmp 40) (.tmp 44) rfl A4 n2 c4 k rfl rfl hkc ?_))
    have X6 : Hid (Box (w4.drewN (q5 + 1 + q6)) w.heap.size 24 #[.int .i64 0, .int .i64 0, .int .i64 0, .int .i64 0, .int .i64 0, .int .i64 0, .int .i64 0, .string { data := #[] }, .slice none 0 0]) := Lib.hid X4.out
    have B6 : Hid (Below w.heap.size w (w4.drewN (q5 + 1 + q6))) := Lib.hid (below_drewN B4.out _)
    generalize w4.drewN (q5 + 1 + q6) = w6 at *
    have FB : Hid (Box (w6.setRow w.heap.size (pshA zeroP none 0 0)) w.heap.size 24 (pshA zeroP none 0 0) ∧ Below w.heap.size w (w6.setRow w.heap.size (pshA zeroP none 0 0))) := Lib.hid ⟨setRow_heap _ _ _ _ _ _ X6.out, below_setRow11 B6.out (Nat.le_refl _) _⟩
    go_wp2_with (refine wpList_store_row rfl 24 (.tmp 4) (.tmp 49) rfl w.heap.size (pshA zeroP none 0 0) rfl rfl 24 _ X6.out pshInfo rfl (pshA_one _ _ _ _) ?_)
    refine bodyPost_ret (results_row_tmp rfl _ _ w.heap.size (pshA zeroP none 0 0) (.int .i64 5) rfl rfl FB.out.1 pshInfo) rfl ?_
    rw [HV.out, HLL.out, HV2.out]
    exact ⟨none, 0, 0, rfl, Own.nil _ _, FB.out.2⟩
  · have q1 : ¬ (1000 : Int) < k := by omega
    rw [if_neg hbig] at HV2
    have CC := Lib.hid fun (q : Nat) => clone_ts (n := k) (w := w4.drewN q) ((HDT.out k).keep (fun _ _ => rfl)) (HTK.out k hkn).symm (by omega)
    have HTKk := Lib.hid (HTK.out k hkn)
    generalize rb.take k = mid at *
    go_upto_region 13 with (first
      | (go_at_call 62; refine (show Calls _ _ _ (w4.drewN q5).drew _ from CE.out).mono ?_; rintro E w6 ⟨rfl, q6, rfl⟩)
      | (refine wpList_sliceHi rfl (.tmp 40) (.tmp 44) rfl A4 n2 c4 k rfl rfl hkc ?_))
    have X6 : Hid (Box (w4.drewN (q5 + 1 + q6)) w.heap.size 24 #[.int .i64 0, .int .i64 0, .int .i64 0, .int .i64 0, .int .i64 0, .int .i64 0, .int .i64 0, .string { data := #[] }, .slice none 0 0]) := Lib.hid X4.out
    have B6 : Hid (Below w.heap.size w (w4.drewN (q5 + 1 + q6))) := Lib.hid (below_drewN B4.out _)
    have CC := Lib.hid (CC.out (q5 + 1 + q6))
    generalize w4.drewN (q5 + 1 + q6) = w6 at *
    go_wp2_with (first
      | (go_at_call 41; refine CC.out.mono ?_; rintro E w7 ⟨v, rfl, ho7, hb7⟩; obtain ⟨A7, c7, rfl, _⟩ := ho7.ts; have O7 := Lib.hid ho7; have X7 := Lib.hid (X6.out.below hb7); have B7 := Lib.hid (B6.out.trans (hb7.mono B6.out.size)); have S6 := Lib.hid B6.out.size; have L6 := Lib.hid X6.out.lt; clear ho7 hb7)
      | (refine wpList_store_row rfl 24 (.tmp 4) (.tmp 54) rfl w.heap.size (pshA ⟨2, 2, 1, 0, 0, (h : Nat), (t : Nat), [], mid⟩ A7 mid.length c7) rfl rfl 24 _ X7.out pshInfo rfl (pshA_one _ _ _ _) ?_))
    have FB : Hid (Box (w7.setRow w.heap.size (pshA ⟨2, 2, 1, 0, 0, (h : Nat), (t : Nat), [], mid⟩ A7 mid.length c7)) w.heap.size 24 (pshA ⟨2, 2, 1, 0, 0, (h : Nat), (t : Nat), [], mid⟩ A7 mid.length c7) ∧ Below w.heap.size w (w7.setRow w.heap.size (pshA ⟨2, 2, 1, 0, 0, (h : Nat), (t : Nat), [], mid⟩ A7 mid.length c7)) ∧ Own (w7.setRow w.heap.size (pshA ⟨2, 2, 1, 0, 0, (h : Nat), (t : Nat), [], mid⟩ A7 mid.length c7)) w.heap.size (.slice A7 mid.length c7) mid) := Lib.hid ⟨setRow_heap _ _ _ _ _ _ X7.out, below_setRow11 B7.out (Nat.le_refl _) _, (O7.out.setRow L6.out).up S6.out⟩
    refine bodyPost_ret (results_row_tmp rfl _ _ w.heap.size (pshA ⟨2, 2, 1, 0, 0, (h : Nat), (t : Nat), [], mid⟩ A7 mid.length c7) (.int .i64 0) rfl rfl FB.out.1 pshInfo) rfl ?_
    rw [HV.out, HLL.out, HV2.out]
    exact ⟨A7, mid.length, c7, rfl, FB.out.2.2, FB.out.2.1⟩
end Go.Proofs.Ytajkbkllgbalkaa
