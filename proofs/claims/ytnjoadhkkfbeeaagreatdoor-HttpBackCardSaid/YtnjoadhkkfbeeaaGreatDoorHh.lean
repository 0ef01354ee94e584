/- Slices of bytes that can be read; EqBytes; the chapter's Bytes. -/
import Derived.Test.YtnjoadhkkfbeeaaGreatDoorHg
namespace Go.Proofs.YtnjoadhkkfbeeaaGreatDoor
open Go Go.RowKit

/-- A slice of bytes, in a block from 'base' on. -/
def Bs (w : World) (base : Nat) (v : Value) (l : List UInt8) : Prop :=
  (v = .slice none 0 0 ∧ l = []) ∨ ∃ g c, v = .slice (some ⟨g, 0, none⟩) l.length c ∧ base ≤ g ∧ g < w.heap.size ∧ ∀ j (hj : j < l.length), w.cell? ⟨g, j, none⟩ = some (.int .u8 (l[j].toNat : Int))
theorem Bs.nil (w : World) (base : Nat) : Bs w base (.slice none 0 0) [] := .inl ⟨rfl, rfl⟩
theorem cell_heap {w w' : World} {g : Nat} (h : w'.heap[g]? = w.heap[g]?) (j : Nat) : w'.cell? ⟨g, j, none⟩ = w.cell? ⟨g, j, none⟩ := by unfold World.cell?; rw [h]
theorem Bs.below {w w' : World} {base : Nat} {v : Value} {l : List UInt8} (h : Bs w base v l) (hb : Below w.heap.size w w') : Bs w' base v l := by
  rcases h with h | ⟨g, c, e, hg, hl, hc⟩
  · exact .inl h
  · exact .inr ⟨g, c, e, hg, Nat.lt_of_lt_of_le hl hb.size, fun j hj => (hb.cell (p := ⟨g, j, none⟩) hl).trans (hc j hj)⟩
/-- Kept by what writes in one block below. -/
theorem Bs.but {w w' : World} {base : Nat} {v : Value} {l : List UInt8} (h : Bs w base v l) {r : Option Nat} (hg : w.grownBy w' r) (hr : ∀ k, r = some k → k < base) : Bs w' base v l := by
  rcases h with h | ⟨g, c, e, hb, hl, hc⟩
  · exact .inl h
  · have hk := hg.block g hl (fun e => by have := hr g e.symm; omega)
    exact .inr ⟨g, c, e, hb, Nat.lt_of_lt_of_le hl hg.size, fun j hj => (cell_heap hk j).trans (hc j hj)⟩
theorem Bs.conv {w : World} {base : Nat} {v : Value} {l : List UInt8} (h : Bs w base v l) : (convert 23 9 v).run Tryz.prog w = .ok (.string ⟨l.toArray⟩) w := by
  rcases h with ⟨rfl, rfl⟩ | ⟨g, c, rfl, _, _, hc⟩
  · exact Lib.run_convert_nil_bytes w 23 9 5 0 Tryz.underlying23 Tryz.underlying5 Tryz.underlying9
  · exact run_convert_bytes_back w 23 9 5 ⟨g, 0, none⟩ c l Tryz.underlying23 Tryz.underlying5 Tryz.underlying9 fun j hj => by rw [add_pl, Nat.zero_add, hc j hj]
theorem OwnB.bs {w : World} {base : Nat} {v : Value} {l : List UInt8} (h : OwnB w base v l) : Bs w base v l := by
  have h' := h
  rcases h.2 with ⟨rfl, h0⟩ | ⟨g, cap, cur, rfl, hb, hg, _, _, _, ht⟩
  · exact .inl ⟨rfl, List.eq_nil_of_length_eq_zero h0⟩
  · refine .inr ⟨g, cap, rfl, hb, (Array.getElem?_eq_some_iff.1 hg).1, fun j hj => ?_⟩
    have := World.ownsRow.cells h' (g := g) rfl j (.int .u8 (l[j].toNat : Int)) (by unfold Lib.byteCells; simp [hj])
    rw [add_pl, Nat.zero_add] at this
    exact this
theorem RowF.bs {w : World} {g n : Nat} {f : Nat → UInt8} (h : RowF w g n f) (c : Nat) (l : List UInt8) (hl : l.length = n) (hf : ∀ j (hj : j < l.length), f j = l[j]) (base : Nat) (hb : base ≤ g) : Bs w base (.slice (some ⟨g, 0, none⟩) n c) l := by
  subst hl
  exact .inr ⟨g, c, rfl, hb, h.lt, fun j hj => by rw [h.cell j hj, hf j hj]⟩

set_option maxRecDepth 100000 in
theorem eqBytes_ref (v u : Value) (a b : List UInt8) (m n : Nat) (w : World) (h1 : Bs w m v a) (h2 : Bs w n u b) : Calls Tryz.prog 15 #[v, u] w fun e w' => e = .returned (.bool (a == b)) ∧ w = w' := by
  have c1 := h1.conv
  have c2 := h2.conv
  clear h1 h2
  go_enter Tryz.func15, Tryz.ntmps15
  go_wp2_with fail
  go_ret
  exact ⟨rfl, rfl⟩

def byR (l : List Hd) : List UInt8 := if chkE l = 0 then bytesL l else []
theorem app_mk (a b : List UInt8) : (⟨a.toArray⟩ : ByteArray) ++ ⟨b.toArray⟩ = ⟨(a ++ b).toArray⟩ := by
  apply ByteArray.ext
  simp
theorem line_app (a p z : List UInt8) : (((⟨a.toArray⟩ : ByteArray) ++ ⟨p.toArray⟩ ++ ⟨#[58, 32]⟩) ++ ⟨z.toArray⟩) ++ ⟨#[13, 10]⟩ = ⟨(a ++ lineB (p, z)).toArray⟩ := by
  have e1 : (⟨#[58, 32]⟩ : ByteArray) = ⟨([58, 32] : List UInt8).toArray⟩ := rfl
  have e2 : (⟨#[13, 10]⟩ : ByteArray) = ⟨([13, 10] : List UInt8).toArray⟩ := rfl
  rw [e1, e2, app_mk, app_mk, app_mk, app_mk]
  unfold lineB
  simp only [List.append_assoc]
theorem bytesL_le : ∀ {l : List Hd}, (∀ h ∈ l, h.1.length ≤ 1000 ∧ h.2.length ≤ 1000) → (bytesL l).length ≤ l.length * 2004
  | [], _ => by simp [bytesL]
  | x :: l, h => by
    have i := bytesL_le (l := l) fun y hy => h y (List.mem_cons_of_mem _ hy)
    obtain ⟨h1, h2⟩ := h x List.mem_cons_self
    have e : bytesL (x :: l) = lineB x ++ bytesL l := rfl
    have : (lineB x).length = x.1.length + 2 + x.2.length + 2 := by simp [lineB]; omega
    rw [e, List.length_append, List.length_cons]
    omega
theorem bytesL_step {l : List Hd} {k : Nat} (hk : k < l.length) : bytesL (l.take (k + 1)) = bytesL (l.take k) ++ lineB (l[k].1, l[k].2) := by rw [← List.take_append_getElem hk, bytesL_snoc]

set_option maxRecDepth 100000 in
set_option maxHeartbeats 1000000 in
/-- the chapter's Bytes -/
theorem bytes_ref (v : Value) (l : List Hd) (w : World) (hv : Hs w v l) (hs : Sm l) : Calls Tryz.prog 61 #[v] w fun e w' =>
    ∃ u, e = .returned (.tuple #[u, .int .i64 (chkE l)]) ∧ Bs w' w.heap.size u (byR l) ∧ Below w.heap.size w w' := by
  have c1 := Lib.hid (check_ref v l w hv hs)
  obtain ⟨A, c, rfl, hc, _, hr⟩ := hv
  obtain ⟨hn, hsz⟩ := hs
  have HR := Lib.hid hr
  have HS := Lib.hid hsz
  clear hr hsz
  unfold byR
  by_cases h0 : chkE l = 0
  · rw [h0] at c1 ⊢
    rw [if_pos rfl]
    clear h0
    go_enter Tryz.func61, Tryz.ntmps61
    go_wp2_with fail
    go_at_call 44
    refine c1.out.mono ?_
    rintro e w1 ⟨rfl, rfl⟩
    go_wp2_with fail
    go_loopw [5, 6] (fun s i wr => ∃ k n : Nat, k ≤ l.length ∧ i = .int .i64 k ∧ s = .string ⟨(bytesL (l.take k)).toArray⟩ ∧ wr = w.drewN n) (fun _ i _ => l.length - (intOf i).toNat)
    case atStart => exact ⟨0, 0, Nat.zero_le _, rfl, rfl, rfl⟩
    case round =>
      obtain ⟨k, n, hk, rfl, rfl, rfl⟩ := hrel
      by_cases hlt : k < l.length
      · obtain ⟨b, o, rfl, hbl, h1, h2⟩ := HR.out.head k hlt
        have i1 : (0 : Int) ≤ k := by omega
        have i2 : (k : Int) < l.length := by omega
        have hst := Lib.hid (bytesL_step hlt)
        obtain ⟨z1, z2⟩ := HS.out l[k] (List.getElem_mem hlt)
        have hgl : (bytesL (l.take k)).length ≤ 2004000 := Nat.le_trans (bytesL_le fun h hh => HS.out h (List.mem_of_mem_take hh)) (by rw [List.length_take]; omega)
        generalize l[k].1 = p at *
        generalize l[k].2 = z at *
        generalize bytesL (l.take k) = g at *
        have hst2 := line_app g p z
        have s0 := mk_size g
        have s1 := mk_size p
        have s2 := mk_size z
        generalize hG : (⟨g.toArray⟩ : ByteArray) = G at *
        generalize hP : (⟨p.toArray⟩ : ByteArray) = P at *
        generalize hZ : (⟨z.toArray⟩ : ByteArray) = Z at *
        have a1 : ∀ w, (Op.stringOp .add G P).run Tryz.prog w = .ok (.string (G ++ P)) w := fun w => run_string_add_sum w G P (by omega)
        have t1 : (G ++ P).size = G.size + P.size := ByteArray.size_append
        generalize G ++ P = X1 at *
        have a2 : ∀ w, (Op.stringOp .add X1 ⟨#[58, 32]⟩).run Tryz.prog w = .ok (.string (X1 ++ ⟨#[58, 32]⟩)) w := fun w => run_string_add_sum w _ _ (by rw [t1, s0, s1]; show _ + 2 ≤ _; omega)
        have t2 : (X1 ++ ⟨#[58, 32]⟩).size = X1.size + 2 := ByteArray.size_append
        generalize X1 ++ ⟨#[58, 32]⟩ = X2 at *
        have a3 : ∀ w, (Op.stringOp .add X2 Z).run Tryz.prog w = .ok (.string (X2 ++ Z)) w := fun w => run_string_add_sum w _ _ (by omega)
        have t3 : (X2 ++ Z).size = X2.size + Z.size := ByteArray.size_append
        generalize X2 ++ Z = X3 at *
        have a4 : ∀ w, (Op.stringOp .add X3 ⟨#[13, 10]⟩).run Tryz.prog w = .ok (.string (X3 ++ ⟨#[13, 10]⟩)) w := fun w => run_string_add_sum w _ _ (by rw [t3, t2, t1, s0, s1, s2]; show _ + 2 ≤ _; omega)
        generalize X3 ++ ⟨#[13, 10]⟩ = X4 at *
        have hst2 := Lib.hid hst2
        clear t1 t2 t3 s0 s1 s2 hG hZ
        go_wp2
        go_quiet (fail)
        go_wp2
        go_roundw
        case rel => exact ⟨k + 1, _, by omega, by go_num, by rw [hst.out, ← hst2.out], rfl⟩
        case measure => simp [intOf]; omega
      · rw [List.take_of_length_le (by omega)] at *
        have hcv := bytes_conv (w.drewN n) ⟨(bytesL l).toArray⟩
        have hrow := bytesWorld_row (w.drewN n) ⟨(bytesL l).toArray⟩
        have hbel := bytesWorld_below (w.drewN n) ⟨(bytesL l).toArray⟩
        have hsz := mk_size (bytesL l)
        have hB := Lib.hid (hrow.bs (grownCap (w.drewN n) (⟨(bytesL l).toArray⟩ : ByteArray).size 0 5) (bytesL l) hsz.symm (fun j hj => by rw [mk_toList, List.getD_eq_getElem?_getD, List.getElem?_eq_getElem hj]; rfl) w.heap.size (Nat.le_refl _))
        have hbel' := Lib.hid hbel
        clear hrow hbel hsz
        generalize Lib.bytesWorld (w.drewN n) 5 ⟨(bytesL l).toArray⟩ = w1 at *
        generalize (⟨(bytesL l).toArray⟩ : ByteArray) = S at *
        go_wp2_with fail
        go_ret2
        exact ⟨_, rfl, hB.out, Below.and (below_drewN (Below.refl _ _) n) hbel'.out⟩
  · rw [if_neg h0]
    have hne : (chkE l != 0) = true := by simpa using h0
    generalize chkE l = q at *
    go_enter Tryz.func61, Tryz.ntmps61
    go_wp2_with fail
    go_at_call 44
    refine c1.out.mono ?_
    rintro e w1 ⟨rfl, rfl⟩
    go_wp2_with fail
    go_ret2
    exact ⟨_, rfl, Bs.nil _ _, Below.refl _ _⟩
end Go.Proofs.YtnjoadhkkfbeeaaGreatDoor
