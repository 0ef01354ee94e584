/- The program's reader: Parse. The program's Sni. The laws' own functions: sni. -/
import Derived.Test.YtiakbmllpnabnaaGreatDoorKz
import Derived.Defers
import Derived.Tactics2
import Derived.Laws.Pointers
import Derived.Great.BuildSlice
namespace Go.Proofs.YtiakbmllpnabnaaGreatDoor
open Go Go.RowKit

theorem built70 : Tryz.prog.built 28 [] = some (gArr 0) := by kernel_rfl
theorem wpList_build70 {ops : Array Oper} {rest : List Oper} {o : Oper} {a : Act} {w : World} {Q : Exit → Act → World → Prop} (hg : o.guard = none) (ho : o.op = .build 28 #[])
    (h : wpList Tryz.prog ops Q rest (a.put o.dst (.agg (gArr 0))) w) : wpList Tryz.prog ops Q (o :: rest) a w := by
  refine wpList_build hg 28 #[] ho ?_ ?_
  · simp only [List.map_toArray, List.map_nil, built70, Option.isSome_some]
  · simp only [List.map_toArray, List.map_nil, built70, Option.getD_some]
    exact h
theorem errno_info : (Tryz.prog.info? 29).map (·.size) = some 1 := by kernel_rfl
/-- the panic is caught: both results are laid -/
theorem catch7 (p q : Nat) (hne : q ≠ p) (arr : Array Value) (x : Value) (u : TypeId) (pv : Value) (older : List PanicEntry) (w : World) (h1 : w.heap[p]? = some (.cells arr 28 (0, 0))) (h2 : arr.size = 39) (h3 : w.heap[q]? = some (.cells #[x] 29 (0, 0))) :
    CallsD Tryz.prog 28 #[.pointer (some ⟨p, 0, none⟩), .pointer (some ⟨q, 0, none⟩)] (.panicking ({ v := .iface u pv, recovered := false } :: older)) w fun e u' w' =>
      e = .returned (.tuple #[]) ∧ u' = .panicking ({ v := .iface u pv, recovered := true } :: older) ∧ w' = (w.setRow p (gArr 0)).setRow q #[.int .i64 70] := by
  have h4 : (w.setRow p (gArr 0)).heap[q]? = some (.cells #[x] 29 (0, 0)) := (setRow_other _ _ _ _ hne).trans h3
  have hs := gArr_size 0
  refine callsD_of_wpS Tryz.func28 rfl fun c₀ cs hu => ?_
  apply wpS_seq
  apply wpS_region
  simp [wpOpsS, go_sem, recoverD, hu, Tryz.ntmps28, Exit.thenS]
  refine wpS_cond (t := true) (by simp [Act.eval, Array.replicate]) ?_
  simp only [if_true]
  refine wpS_of_wp (wp_region_lit ?_)
  refine wpList_build70 rfl rfl ?_
  refine wpList_store_row rfl 28 (.tmp 0) (.tmp 4) rfl p (gArr 0) rfl rfl 28 arr h1 (gArr_info 0) (h2.trans hs.symm) (gArr_one 0) ?_
  generalize w.setRow p (gArr 0) = w' at *
  refine wpList_store_one rfl 29 (.tmp 1) (.const (.int .i64 70)) rfl q rfl rfl 29 x h4 errno_info ?_
  unfold wpList
  refine ⟨rfl, _, rfl, _, results_none rfl _ _ _, rfl, rfl, rfl⟩
theorem idle7 (p q : Nat) (w : World) :
    CallsD Tryz.prog 28 #[.pointer (some ⟨p, 0, none⟩), .pointer (some ⟨q, 0, none⟩)] .returning w fun e u' w' => e = .returned (.tuple #[]) ∧ u' = .returning ∧ w' = w := by
  refine callsD_of_wpS Tryz.func28 rfl fun c₀ cs hu => ?_
  apply wpS_seq
  apply wpS_region
  simp [wpOpsS, go_sem, recoverD, hu, Tryz.ntmps28, Exit.thenS]
  refine wpS_cond (t := false) (by simp [Act.eval, Array.replicate]) ?_
  simp only [Bool.false_eq_true, if_false]
  refine wpS_of_wp (wp_skip ?_)
  cases c₀
  simp_all [bodyPostS, results, Tryz.results28]
theorem load_errno (w : World) (k : Nat) (v : Value) (hk : w.heap[k]? = some (.cells #[v] 29 (0, 0))) : (loadVar 29 ⟨k, 0, none⟩).run Tryz.prog w = .ok v w := by
  have hc : w.cell? ⟨k, 0, none⟩ = some v := by unfold World.cell?; rw [hk]; rfl
  simp [loadVar, isAgg, run_underlying Tryz.underlying29, go_sem, hc]
theorem results_row_one {fn : Func} {p q : Tmp} (h : fn.results = #[.cell p 28, .cell q 29]) (tmps : Array Value) (w : World) (g k : Nat) (cs : Array Value) (v : Value)
    (hp : tmps.getD p undef = .pointer (some ⟨g, 0, none⟩)) (hq : tmps.getD q undef = .pointer (some ⟨k, 0, none⟩)) (hg : w.heap[g]? = some (.cells cs 28 (0, 0))) (hi : (Tryz.prog.info? 28).map (·.size) = some cs.size) (hk : w.heap[k]? = some (.cells #[v] 29 (0, 0))) :
    (results fn tmps).run Tryz.prog w = .ok (.tuple #[.agg cs, v]) w := by
  have hp' : tmps[p]?.getD undef = .pointer (some ⟨g, 0, none⟩) := by simpa using hp
  have hq' : tmps[q]?.getD undef = .pointer (some ⟨k, 0, none⟩) := by simpa using hq
  simp [results, h, hp', hq', asAddr, run_loadVar_row w g 28 28 cs (0, 0) _ hg Tryz.underlying28 rfl hi, load_errno w k v hk]
/-- what Parse tells -/
def PrsP (b : List UInt8) (w : World) (e : Ending) (w' : World) : Prop :=
  (parG b = none → e = .returned (.tuple #[.agg (gArr 0), .int .i64 70]) ∧ Below w.heap.size w w') ∧ ∀ G, parG b = some G → ∃ a : Adr, e = .returned (.tuple #[.agg (grtA G a), .int .i64 0]) ∧ Below w.heap.size w w' ∧ GrS (New w.heap.size w') w' G a ∧ ∀ x ∈ G.exts, x.2.length ≤ 1000000
set_option maxRecDepth 100000 in
set_option maxHeartbeats 1000000 in
theorem parse_prog {D : Nat} {w : World} {A : Option Addr} {c : Nat} {b : List UInt8} (h : Rb D w A c b) (hD : D ≤ w.heap.size) (hl : b.length ≤ 1000000) (hG : Gl w) :
    Calls Tryz.prog 11 #[.slice A b.length c] w (PrsP b w) := by
  have hmf : ∀ (fn : Fn) (first cap : Array Value) (w : World), (Instr.makeFunc fn first cap).run Tryz.prog w = .ok (.func fn first cap) w := fun _ _ _ _ => rfl
  have hb1 := below_new w (.cells (gArr 0) 28)
  have hb2 := below_new (w.alloc (.cells (gArr 0) 28)) (.cells #[.int .i64 0] 29)
  have hs1 : (w.alloc (.cells (gArr 0) 28)).heap.size = w.heap.size + 1 := by simp
  have hs2 : ((w.alloc (.cells (gArr 0) 28)).alloc (.cells #[.int .i64 0] 29)).heap.size = w.heap.size + 2 := by simp
  have hB : Below w.heap.size w ((w.alloc (.cells (gArr 0) 28)).alloc (.cells #[.int .i64 0] 29)) := hb1.trans (hb2.mono (by rw [hs1]; omega))
  have hp : ((w.alloc (.cells (gArr 0) 28)).alloc (.cells #[.int .i64 0] 29)).heap[w.heap.size]? = some (.cells (gArr 0) 28 (0, 0)) := (hb2.block _ (by rw [hs1]; omega)).trans (heap_alloc_new w _)
  have hq : ((w.alloc (.cells (gArr 0) 28)).alloc (.cells #[.int .i64 0] 29)).heap[w.heap.size + 1]? = some (.cells #[.int .i64 0] 29 (0, 0)) := by rw [← hs1]; exact heap_alloc_new _ _
  have CR := Lib.hid (read_prog (c := c) (h.keep fun k hk => hB.block k (by omega)) (by rw [hs2]; omega) hl (hG.below hB))
  have HB := Lib.hid hB
  have HP := Lib.hid hp
  have HQ := Lib.hid hq
  have HS2 := Lib.hid hs2
  clear h hb1 hb2 hs1 hs2 hB hp hq hG hD hl
  go_enter_defers Tryz.func11, Tryz.ntmps11
  go_wp2_with fail
  refine Calls.mono CR.out ?_
  intro e w2 hh
  generalize (w.alloc (.cells (gArr 0) 28)).alloc (.cells #[.int .i64 0] 29) = w1 at *
  have hne : w.heap.size + 1 ≠ w.heap.size := Nat.succ_ne_self _
  have rows : ∀ (w2 : World) (cs : Array Value) (v : Value), w2.heap[w.heap.size]? = some (.cells (gArr 0) 28 (0, 0)) → w2.heap[w.heap.size + 1]? = some (.cells #[.int .i64 0] 29 (0, 0)) → Below w.heap.size w w2 →
      (w2.setRow w.heap.size cs).heap[w.heap.size + 1]? = some (.cells #[.int .i64 0] 29 (0, 0)) ∧ ((w2.setRow w.heap.size cs).setRow (w.heap.size + 1) #[v]).heap[w.heap.size]? = some (.cells cs 28 (0, 0)) ∧ ((w2.setRow w.heap.size cs).setRow (w.heap.size + 1) #[v]).heap[w.heap.size + 1]? = some (.cells #[v] 29 (0, 0)) ∧ Below w.heap.size w ((w2.setRow w.heap.size cs).setRow (w.heap.size + 1) #[v]) := fun w2 cs v h1 h2 h3 => by
    have k1 := setRow_heap w2 w.heap.size _ cs _ _ h1
    have k2 := (setRow_other w2 w.heap.size (w.heap.size + 1) cs hne).trans h2
    exact ⟨k2, (setRow_other _ _ _ _ (Ne.symm hne)).trans k1, setRow_heap _ _ _ _ _ _ k2, below_setRow7 (below_setRow7 h3 (Nat.le_refl _) _) (Nat.le_succ _) _⟩
  have HR := Lib.hid rows
  have HNE := Lib.hid hne
  clear rows hne
  have hlt : w.heap.size + 1 < w1.heap.size := by have := HS2.out; omega
  cases hg : parG b with
  | none =>
    obtain ⟨rfl, hb⟩ := hh.1 hg
    have hb2 := HB.out.trans (hb.mono (by omega))
    have HP2 := Lib.hid ((hb.block _ (by omega)).trans HP.out)
    have HQ2 := Lib.hid ((hb.block _ hlt).trans HQ.out)
    obtain ⟨r1, r2, r3, r4⟩ := HR.out w2 (gArr 0) (.int .i64 70) HP2.out HQ2.out hb2
    have E2 := Lib.hid r2
    have E3 := Lib.hid r3
    have E4 := Lib.hid r4
    have HG := Lib.hid hg
    clear hh CR hg hb hb2 r1 r2 r3 r4 HR
    go_wp2_with fail
    refine leaves_cons (f := 28) (args := #[.pointer (some ⟨w.heap.size, 0, none⟩), .pointer (some ⟨w.heap.size + 1, 0, none⟩)]) (by simp) (by simp [go_sem]) ?_
    refine (catch7 _ _ HNE.out (gArr 0) (.int .i64 0) _ _ [] w2 HP2.out (gArr_size 0) HQ2.out).mono ?_
    rintro e u' w'' ⟨rfl, rfl, rfl⟩
    exact ⟨_, results_row_one rfl _ _ w.heap.size (w.heap.size + 1) (gArr 0) (.int .i64 70) rfl rfl E2.out (gArr_info 0) E3.out, fun _ => ⟨rfl, E4.out⟩, fun G e => by rw [HG.out] at e; cases e⟩
  | some G =>
    obtain ⟨a, rfl, hb, hgr, hxl⟩ := hh.2 G hg
    have hb2 := HB.out.trans (hb.mono (by omega))
    have HP2 := Lib.hid ((hb.block _ (by omega)).trans HP.out)
    have HQ2 := Lib.hid ((hb.block _ hlt).trans HQ.out)
    obtain ⟨r1, r2, r3, r4⟩ := HR.out w2 (grtA G a) (.int .i64 0) HP2.out HQ2.out hb2
    have E1 := Lib.hid r1
    have E2 := Lib.hid r2
    have E3 := Lib.hid r3
    have E4 := Lib.hid r4
    have EG : Hid (GrS (New w.heap.size ((w2.setRow w.heap.size (grtA G a)).setRow (w.heap.size + 1) #[.int .i64 0])) ((w2.setRow w.heap.size (grtA G a)).setRow (w.heap.size + 1) #[.int .i64 0]) G a) := Lib.hid (hgr.keep fun k hk => by
      have := hk.1
      exact ⟨(setRow_other _ _ _ _ (by omega)).trans (setRow_other _ _ _ _ (by omega)), by omega, by rw [size_setRow, size_setRow]; exact hk.2⟩)
    have HXL := Lib.hid hxl
    have HGI := Lib.hid (infoGA G a)
    have HGO := Lib.hid (grtA_one G a)
    have HSZ : Hid ((gArr 0).size = (grtA G a).size) := Lib.hid rfl
    have HG := Lib.hid hg
    clear hh CR hg hb hb2 r1 r2 r3 r4 HR hgr hxl
    go_wp2_with (first
      | (refine wpList_store_row rfl 28 (.tmp 2) (.tmp 6) rfl w.heap.size (grtA G a) rfl rfl 28 _ HP2.out HGI.out HSZ.out HGO.out ?_)
      | (refine wpList_store_one rfl 29 (.tmp 3) (.const (.int .i64 0)) rfl (w.heap.size + 1) rfl rfl 29 _ E1.out errno_info ?_))
    refine leaves_cons (f := 28) (args := #[.pointer (some ⟨w.heap.size, 0, none⟩), .pointer (some ⟨w.heap.size + 1, 0, none⟩)]) (by simp) (by simp [go_sem]) ?_
    refine (idle7 _ _ _).mono ?_
    rintro e u' w'' ⟨rfl, rfl, rfl⟩
    exact ⟨_, results_row_one rfl _ _ w.heap.size (w.heap.size + 1) (grtA G a) (.int .i64 0) rfl rfl E2.out HGI.out E3.out, (fun e => by rw [HG.out] at e; cases e), fun x e => by rw [HG.out] at e; cases e; exact ⟨a, rfl, E4.out, EG.out, HXL.out⟩⟩
end Go.Proofs.YtiakbmllpnabnaaGreatDoor
namespace Go.Proofs.YtiakbmllpnabnaaGreatDoor
open Go Go.RowKit

/-- what Sni tells -/
def SniP (b : List UInt8) (w : World) (e : Ending) (w' : World) : Prop :=
  (parG b = none → e = .returned (.tuple #[.string ⟨#[]⟩, .int .i64 70])) ∧ (∀ G, parG b = some G → e = .returned (.tuple #[.string ⟨(lowV G.host).toArray⟩, .int .i64 0])) ∧ Below w.heap.size w w'
set_option maxRecDepth 100000 in
set_option maxHeartbeats 1000000 in
theorem sni_prog {D : Nat} {w : World} {A : Option Addr} {c : Nat} {b : List UInt8} (h : Rb D w A c b) (hD : D ≤ w.heap.size) (hl : b.length ≤ 1000000) (hG : Gl w) :
    Calls Tryz.prog 13 #[.slice A b.length c] w (SniP b w) := by
  have CP := Lib.hid (parse_prog (c := c) h hD hl hG)
  have HG := Lib.hid hG
  clear h hD hl hG
  go_enter Tryz.func13, Tryz.ntmps13
  go_wp2_with fail
  refine CP.out.mono ?_
  intro e w1 hh
  cases hg : parG b with
  | none =>
    obtain ⟨rfl, hb⟩ := hh.1 hg
    have HX := Lib.hid hg
    have B1 := Lib.hid (hb.trans ((below_new w1 (.cells (gArr 0) 28)).mono hb.size))
    clear hh CP hg hb
    go_wp2_with (refine wpList_store_row rfl 28 (.tmp 4) (.tmp 8) rfl w1.heap.size (gArr 0) rfl rfl 28 _ (heap_alloc_new w1 _) (gArr_info 0) rfl (gArr_one 0) ?_; rw [World.setRow_alloc_new])
    go_ret2
    exact ⟨fun _ => rfl, (fun G e => by rw [HX.out] at e; cases e), B1.out⟩
  | some G =>
    obtain ⟨a, rfl, hb, hgr, hxl⟩ := hh.2 G hg
    have HX := Lib.hid hg
    have hB2 := hb.trans ((below_new w1 (.cells (grtA G a) 28)).mono hb.size)
    have B2 := Lib.hid hB2
    have d36 : (w1.alloc (.cells (grtA G a) 28)).cell? ⟨w1.heap.size, 36, none⟩ = some (.string ⟨G.host.toArray⟩) := (cs_alloc w1 (grtA G a) 28).cell 36 (by show 36 < 39; decide)
    have D36 := Lib.hid d36
    have CL := Lib.hid (lower_prog G.host _ (HG.out.below hB2) hgr.hl)
    have HGI := Lib.hid (infoGA G a)
    have HGO := Lib.hid (grtA_one G a)
    clear hh CP hg hb hgr hxl hB2 d36
    go_wp2_with (refine wpList_store_row rfl 28 (.tmp 4) (.tmp 8) rfl w1.heap.size (grtA G a) rfl rfl 28 _ (heap_alloc_new w1 _) HGI.out rfl HGO.out ?_; rw [World.setRow_alloc_new]; have d36 := D36.out; generalize w1.alloc (.cells (grtA G a) 28) = w2 at *; generalize w1.heap.size = g at *)
    refine Calls.mono CL.out ?_
    rintro e w3 ⟨rfl, hb⟩
    have B3 := Lib.hid (B2.out.trans (hb.mono B2.out.size))
    clear hb CL d36
    go_wp2_with fail
    go_ret2
    exact ⟨(fun e => by rw [HX.out] at e; cases e), (fun x e => by rw [HX.out] at e; cases e; rfl), B3.out⟩
end Go.Proofs.YtiakbmllpnabnaaGreatDoor
namespace Go.Proofs.YtiakbmllpnabnaaGreatDoor
open Go Go.RowKit

theorem beq_dec (a n : Int) : (a == n) = decide (n = a) := by
  rw [Bool.eq_iff_iff, beq_iff_eq, decide_eq_true_iff]
  exact ⟨Eq.symm, Eq.symm⟩
/-- is that what Sni answers? -/
def sniB (b want : List UInt8) (n : Int) : Bool := match parG b with
  | none => decide (want = []) && decide (n = 70)
  | some G => decide (lowV G.host = want) && decide (n = 0)
set_option maxRecDepth 100000 in
set_option maxHeartbeats 400000 in
theorem lsni_any {D : Nat} {w : World} {A : Option Addr} {c : Nat} {b : List UInt8} (h : Rb D w A c b) (hD : D ≤ w.heap.size) (hl : b.length ≤ 1000000) (hG : Gl w) (want : List UInt8) (n : Int) :
    Calls Tryz.prog 24 #[.slice A b.length c, .string ⟨want.toArray⟩, .int .i64 n] w (BoolP (sniB b want n) w) := by
  have CP := Lib.hid (sni_prog (c := c) h hD hl hG)
  clear h hD hl hG
  generalize hx : sniB b want n = X
  have HX := Lib.hid hx
  clear hx
  go_enter Tryz.func24, Tryz.ntmps24
  go_wp2_with fail
  refine CP.out.mono ?_
  rintro e w1 ⟨h1, h2, hb⟩
  have B1 := Lib.hid hb
  unfold sniB at HX
  cases hg : parG b with
  | none =>
    obtain rfl := h1 hg
    rw [hg] at HX
    clear h1 h2 hb CP hg
    go_wp2_with fail
    · rename_i hw
      go_ret
      exact ⟨congrArg (fun v => Ending.returned (.bool v)) (by rw [← HX.out, decide_eq_true hw, Bool.true_and, beq_dec]), B1.out⟩
    · rename_i hw
      go_ret
      exact ⟨congrArg (fun v => Ending.returned (.bool v)) (by rw [← HX.out, decide_eq_false hw, Bool.false_and]), B1.out⟩
  | some G =>
    obtain rfl := h2 G hg
    rw [hg] at HX
    clear h1 h2 hb CP hg
    go_wp2_with fail
    · rename_i hw
      go_ret
      exact ⟨congrArg (fun v => Ending.returned (.bool v)) (by rw [← HX.out, decide_eq_true hw, Bool.true_and, beq_dec]), B1.out⟩
    · rename_i hw
      go_ret
      exact ⟨congrArg (fun v => Ending.returned (.bool v)) (by rw [← HX.out, decide_eq_false hw, Bool.false_and]), B1.out⟩
end Go.Proofs.YtiakbmllpnabnaaGreatDoor
