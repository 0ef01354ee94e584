/- Helpers of the laws over lists of headers: cut, spoilt, fine. -/
import Derived.Test.YthniggdimfldhaaGreatDoorHr
import Derived.StillTailTactics
namespace Go.Proofs.YthniggdimfldhaaGreatDoor
open Go Go.RowKit

def cutH (h : Hd) : Hd := (h.1.take 250, h.2.take 250)
def cutL (l : List Hd) : List Hd := (l.take 20).map cutH
theorem cut_step {l : List Hd} {k : Nat} (hk : k < l.length) : (l.take (k + 1)).map cutH = (l.take k).map cutH ++ [(l[k].1.take 250, l[k].2.take 250)] := by
  rw [← List.take_append_getElem hk, List.map_append]; rfl
theorem cut_len (l : List Hd) (k : Nat) (hk : k ≤ 20) : ((l.take k).map cutH).length ≤ 20 := by rw [List.length_map, List.length_take]; omega
theorem cutL_sm (l : List Hd) : Sm (cutL l) := by
  refine ⟨Nat.le_trans (cut_len l 20 (Nat.le_refl _)) (by omega), fun h hh => ?_⟩
  obtain ⟨x, _, rfl⟩ := List.mem_map.1 hh
  unfold cutH
  simp only [List.length_take]
  omega
/-- Headers whose texts are no longer than a machine's. -/
def Mx (l : List Hd) : Prop := ∀ h ∈ l, h.1.length ≤ maxLen ∧ h.2.length ≤ maxLen
theorem new2 (w : World) (p q : ByteArray) {b : Nat} (h : b < w.heap.size) (j : Nat) : (w.alloc (.cells #[.string p, .string q] 41)).drew.cell? ⟨b, j, none⟩ = w.cell? ⟨b, j, none⟩ :=
  (below_new w (.cells #[.string p, .string q] 41)).cell (p := ⟨b, j, none⟩) h
theorem step_pushh {ops : Array Oper} {o : Oper} {a : Act} {K : Act → World → Prop} {Q : Exit → Act → World → Prop} {E : Prop} (hgd : o.guard = none) (s x : Operand)
    (ho : o.op = .call { callee := .builtin .append, args := #[s, x], argTypes := #[22, 22] }) (w : World) (base : Nat) (v : Value) (l : List Hd) (z y : List UInt8)
    (hs : a.eval s = v) (hown : OwnH w base v l) (hx : a.eval x = .slice (some ⟨w.heap.size, 0, none⟩) 1 1) (hbase : base ≤ w.heap.size) (hlen : l.length ≤ 1000000000)
    (h : ∀ v' w', OwnH w' base v' (l ++ [(z, y)]) → Below base w w' → K (a.put o.dst v') w') :
    if Region.wanted o (yielded ops a.tmps) = true then Oper.wp Tryz.prog o a (w.alloc (.cells #[.string ⟨z.toArray⟩, .string ⟨y.toArray⟩] 41)).drew K Q else E := by
  obtain ⟨i0, hi, hz0, hz1, hz2⟩ := info_parts infoH
  have hown' : OwnH (w.alloc (.cells #[.string ⟨z.toArray⟩, .string ⟨y.toArray⟩] 41)).drew base v l := OwnH.below hown (below_drewN (below_new _ _) 1)
  refine step_append_lies _ hgd s x 22 ho base 41 i0 (.agg #[.string ⟨#[]⟩, .string ⟨#[]⟩]) 2 32 Tryz.underlying22 hi hz0 hz1 hz2 rfl (by decide) v l.length (hv l) hs hown'
    ⟨w.heap.size, 0, none⟩ 1 1 [strV z, strV y] hx rfl ?_ ?_ (by decide) (by unfold maxLen; omega) (by omega) (by show base ≤ (w.alloc _).heap.size; simp; omega) _ rfl ?_
  · intro j u hj
    match j, hj with
    | 0, hj => simp at hj; subst hj; show (w.alloc _).cell? _ = _; simp [Addr.add, strV]
    | 1, hj => simp at hj; subst hj; show (w.alloc _).cell? _ = _; simp [Addr.add, strV]
    | j + 2, hj => simp at hj
  · intro u hu
    simp at hu
    rcases hu with rfl | rfl <;> rfl
  · intro g cap w' ho' hg _ _
    refine h _ w' ?_ ?_
    · unfold OwnH; rw [List.length_append, hv_snoc]; exact ho'
    · exact (below_drewN ((Below.refl base w).alloc hbase _) 1).grown hg (by show base ≤ (w.alloc _).heap.size; simp; omega) (fun k hk => (World.ownsRow.lt hown k hk).1)

end Go.Proofs.YthniggdimfldhaaGreatDoor
