/- The laws' own functions: plain, refused. -/
import Derived.Test.YtbmeceaefjdpaaaGreatDoorKza
import Derived.Test.YtbmeceaefjdpaaaGreatDoorKk
namespace Go.Proofs.YtbmeceaefjdpaaaGreatDoor
open Go Go.RowKit

def plG : Grt := ⟨1, List.replicate 32 0, [], [4865], [0], [97], 0, []⟩
def plA (g : Nat) : Adr := ⟨none, 0, some ⟨g + 1, 0, none⟩, 1, some ⟨g + 1 + 1, 0, none⟩, 1, none, 0⟩
theorem builtPl (g : Nat) : Tryz.prog.built 28 [(0, .int .i64 1), (3, .slice (some ⟨g + 1, 0, none⟩) 1 1), (4, .slice (some ⟨g + 1 + 1, 0, none⟩) 1 1), (5, .string ⟨#[97]⟩)] = some (grtA plG (plA g)) := by kernel_rfl
theorem wpList_buildV {P : Program} {ops : Array Oper} {rest : List Oper} {o : Oper} {a : Act} {w : World} {Q : Exit → Act → World → Prop} (hg : o.guard = none) (t : TypeId) (parts : Array (Nat × Operand)) (ho : o.op = .build t parts)
    (l : List (Nat × Value)) (hl : (parts.map fun (i, x) => (i, a.eval x)).toList = l) (row : Array Value) (hb : P.built t l = some row) (h : wpList P ops Q rest (a.put o.dst (.agg row)) w) : wpList P ops Q (o :: rest) a w := by
  refine wpList_build hg t parts ho ?_ ?_
  · rw [hl, hb]; rfl
  · rw [hl, hb]; exact h
/-- the chapter's greeting -/
def PlP (w : World) (e : Ending) (w' : World) : Prop := ∃ a : Adr, e = .returned (.agg (grtA plG a)) ∧ GrS (New w.heap.size w') w' plG a ∧ Below w.heap.size w w'
theorem pl_fin {w w1 : World} (H0 : w1.heap[w.heap.size]? = some (.cells (gArr 0) 28 (0, 0))) (H1 : w1.heap[w.heap.size + 1]? = some (.cells #[.int .i64 4865] 3 (0, 0))) (H2 : w1.heap[w.heap.size + 1 + 1]? = some (.cells #[.int .u8 0] 5 (0, 0))) (HB : Below w.heap.size w w1) (HS : w1.heap.size = w.heap.size + 1 + 1 + 1) :
    (w1.setRow w.heap.size (grtA plG (plA w.heap.size))).heap[w.heap.size]? = some (.cells (grtA plG (plA w.heap.size)) 28 (0, 0)) ∧ GrS (New w.heap.size (w1.setRow w.heap.size (grtA plG (plA w.heap.size)))) (w1.setRow w.heap.size (grtA plG (plA w.heap.size))) plG (plA w.heap.size) ∧ Below w.heap.size w (w1.setRow w.heap.size (grtA plG (plA w.heap.size))) := by
  have k0 := setRow_heap w1 w.heap.size _ (grtA plG (plA w.heap.size)) _ _ H0
  have k1 := (setRow_other w1 w.heap.size (w.heap.size + 1) (grtA plG (plA w.heap.size)) (by omega)).trans H1
  have k2 := (setRow_other w1 w.heap.size (w.heap.size + 1 + 1) (grtA plG (plA w.heap.size)) (by omega)).trans H2
  have hsz : (w1.setRow w.heap.size (grtA plG (plA w.heap.size))).heap.size = w.heap.size + 1 + 1 + 1 := by rw [size_setRow]; exact HS
  refine ⟨k0, ⟨?_, ?_, ?_, ?_, by decide, by decide, by decide, by decide, by decide, rfl⟩, below_setRow7 HB (Nat.le_refl _) _⟩
  · exact ⟨Nat.zero_le _, fun _ => rfl, fun i hi => by simp [plG] at hi⟩
  · intro i hi
    have : i = 0 := by simp [plG] at hi; omega
    subst this
    refine ⟨w.heap.size + 1, 0, rfl, ⟨by omega, by rw [hsz]; omega⟩, ?_⟩
    unfold World.cell?
    rw [show (w1.setRow w.heap.size (grtA plG (plA w.heap.size))).heap[(⟨w.heap.size + 1, 0 + 0, none⟩ : Addr).block]? = _ from k1]
    rfl
  · refine ⟨Nat.le_refl 1, (fun e => by cases e), fun i hi => ?_⟩
    have : i = 0 := by simp [plG] at hi; omega
    subst this
    refine ⟨w.heap.size + 1 + 1, 0, rfl, ⟨by omega, by rw [hsz]; omega⟩, ?_⟩
    unfold World.cell?
    rw [show (w1.setRow w.heap.size (grtA plG (plA w.heap.size))).heap[(⟨w.heap.size + 1 + 1, 0 + 0, none⟩ : Addr).block]? = _ from k2]
    rfl
  · exact fun i hi => by simp [plG] at hi
set_option maxRecDepth 100000 in
set_option maxHeartbeats 400000 in
theorem plain_any (w : World) : Calls Tryz.prog 37 #[] w (PlP w) := by
  have hs1 : (w.alloc (.cells (gArr 0) 28)).heap.size = w.heap.size + 1 := by simp
  have hs2 : ((w.alloc (.cells (gArr 0) 28)).alloc (.cells #[.int .i64 4865] 3)).heap.size = w.heap.size + 1 + 1 := by simp
  have hs3 : (((w.alloc (.cells (gArr 0) 28)).alloc (.cells #[.int .i64 4865] 3)).alloc (.cells #[.int .u8 0] 5)).heap.size = w.heap.size + 1 + 1 + 1 := by simp
  have hb1 := below_new w (.cells (gArr 0) 28)
  have hb2 := below_new (w.alloc (.cells (gArr 0) 28)) (.cells #[.int .i64 4865] 3)
  have hb3 := below_new ((w.alloc (.cells (gArr 0) 28)).alloc (.cells #[.int .i64 4865] 3)) (.cells #[.int .u8 0] 5)
  have h0 : (((w.alloc (.cells (gArr 0) 28)).alloc (.cells #[.int .i64 4865] 3)).alloc (.cells #[.int .u8 0] 5)).heap[w.heap.size]? = some (.cells (gArr 0) 28 (0, 0)) := (hb3.block _ (by rw [hs2]; omega)).trans ((hb2.block _ (by rw [hs1]; omega)).trans (heap_alloc_new w _))
  have h1 : (((w.alloc (.cells (gArr 0) 28)).alloc (.cells #[.int .i64 4865] 3)).alloc (.cells #[.int .u8 0] 5)).heap[w.heap.size + 1]? = some (.cells #[.int .i64 4865] 3 (0, 0)) := (hb3.block _ (by rw [hs2]; omega)).trans (by rw [← hs1]; exact heap_alloc_new _ _)
  have h2 : (((w.alloc (.cells (gArr 0) 28)).alloc (.cells #[.int .i64 4865] 3)).alloc (.cells #[.int .u8 0] 5)).heap[w.heap.size + 1 + 1]? = some (.cells #[.int .u8 0] 5 (0, 0)) := by rw [← hs2]; exact heap_alloc_new _ _
  have hb : Below w.heap.size w (((w.alloc (.cells (gArr 0) 28)).alloc (.cells #[.int .i64 4865] 3)).alloc (.cells #[.int .u8 0] 5)) := hb1.trans ((hb2.mono (by rw [hs1]; omega)).trans (hb3.mono (by rw [hs2]; omega)))
  have H0 := Lib.hid h0
  have FIN := Lib.hid (pl_fin h0 h1 h2 hb hs3)
  have BP := Lib.hid (builtPl w.heap.size)
  have HGO := Lib.hid (grtA_one plG (plA w.heap.size))
  have HGI := Lib.hid (infoGA plG (plA w.heap.size))
  clear hs1 hs2 hs3 hb1 hb2 hb3 h0 h1 h2 hb
  go_enter Tryz.func37, Tryz.ntmps37
  go_wp2_with (first
    | (refine wpList_buildV rfl 28 _ rfl _ rfl _ BP.out ?_)
    | (refine wpList_store_row rfl 28 (.tmp 0) (.tmp 3) rfl w.heap.size (grtA plG (plA w.heap.size)) rfl rfl 28 _ H0.out HGI.out rfl HGO.out ?_))
  refine bodyPost_ret (results_cell_row rfl _ _ w.heap.size 28 (grtA plG (plA w.heap.size)) (0, 0) _ rfl FIN.out.1 Tryz.underlying28 rfl HGI.out) rfl ?_
  exact ⟨plA w.heap.size, rfl, FIN.out.2.1, FIN.out.2.2⟩
set_option maxRecDepth 100000 in
set_option maxHeartbeats 400000 in
theorem refused_any {w : World} {g : Grt} {a : Adr} (h : GrV w.heap.size w g a) (hG : Gl w) (hd : ∀ x ∈ g.exts, x.2.length ≤ 1000000) (hok : okG g = false) :
    Calls Tryz.prog 38 #[.agg (grtA g a)] w (BoolP true w) := by
  have hb := below_new w (.cells (grtA g a) 28)
  have CW := Lib.hid (write_prog7 (h.below hb) (hG.below hb) hd)
  have HB := Lib.hid hb
  have HOK := Lib.hid hok
  have HGI := Lib.hid (infoGA g a)
  have HR := Lib.hid (heap_alloc_new w (.cells (grtA g a) 28))
  clear h hG hd hb hok
  go_enter Tryz.func38, Tryz.ntmps38
  go_wp2_with (refine wpList_load_row rfl 28 (.tmp 1) rfl w.heap.size rfl 28 _ (0, 0) _ HR.out Tryz.underlying28 rfl HGI.out ?_)
  refine Calls.mono CW.out ?_
  rintro e w1 ⟨_, h2⟩
  obtain ⟨rfl, hb⟩ := h2 HOK.out
  have B1 := Lib.hid (HB.out.trans (hb.mono HB.out.size))
  clear h2 hb CW
  go_wp2_with fail
  go_ret
  exact ⟨rfl, B1.out⟩
end Go.Proofs.YtbmeceaefjdpaaaGreatDoor
