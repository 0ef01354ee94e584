/- The chapter's Drop, Strip, Set and Copy. -/
import Derived.Test.YtnjoadhkkfbeeaaGreatDoorHf
namespace Go.Proofs.YtnjoadhkkfbeeaaGreatDoor
open Go Go.RowKit

theorem dropL_yes {l : List Hd} {y : List UInt8} {k : Nat} (hk : k < l.length) (h : alikeS l[k].1 y = true) : dropL (l.take (k + 1)) y = dropL (l.take k) y := filter_no hk (by simp [h])
theorem dropL_no {l : List Hd} {y : List UInt8} {k : Nat} (hk : k < l.length) (h : alikeS l[k].1 y = false) : dropL (l.take (k + 1)) y = dropL (l.take k) y ++ [(l[k].1, l[k].2)] := filter_yes hk (by simp [h])
theorem dropL_len (l : List Hd) (y : List UInt8) (k : Nat) : (dropL (l.take k) y).length ≤ l.length := Nat.le_trans (List.length_filter_le _ _) (by rw [List.length_take]; omega)
theorem stripL_yes {l : List Hd} {y : List UInt8} {k : Nat} (hk : k < l.length) (h : begS l[k].1 y = true) : stripL (l.take (k + 1)) y = stripL (l.take k) y := filter_no hk (by simp [h])
theorem stripL_no {l : List Hd} {y : List UInt8} {k : Nat} (hk : k < l.length) (h : begS l[k].1 y = false) : stripL (l.take (k + 1)) y = stripL (l.take k) y ++ [(l[k].1, l[k].2)] := filter_yes hk (by simp [h])
theorem stripL_len (l : List Hd) (y : List UInt8) (k : Nat) : (stripL (l.take k) y).length ≤ l.length := Nat.le_trans (List.length_filter_le _ _) (by rw [List.length_take]; omega)
theorem Sm.filter {l : List Hd} (h : Sm l) (p : Hd → Bool) : Sm (l.filter p) := ⟨Nat.le_trans (List.length_filter_le _ _) h.1, fun x hx => h.2 x ((List.mem_filter.1 hx).1)⟩
theorem OwnH.up {w w' : World} {base base' : Nat} {v : Value} {l : List Hd} (h : OwnH w base v l) (hb : base' ≤ base) (hw : w' = w) : OwnH w' base' v l := by
  subst hw
  unfold OwnH at *
  rcases h with ⟨h1, h2⟩
  refine ⟨h1, ?_⟩
  rcases h2 with h2 | ⟨g, cap, cur, e, hg, rest⟩
  · exact .inl h2
  · exact .inr ⟨g, cap, cur, e, Nat.le_trans hb hg, rest⟩

theorem lower_refL (z : List UInt8) (hz : z.length ≤ 1000) (q : List UInt8) (hq : lowS z = q) (w : World) : Calls Tryz.prog 91 #[.string ⟨z.toArray⟩] w fun e w' => e = .returned (.string ⟨q.toArray⟩) ∧ Below w.heap.size w w' :=
  lower_ref _ w (by rw [mk_size]; omega) q (by rw [mk_toList]; exact hq)
theorem mk_extract (z : List UInt8) (k : Nat) : (⟨z.toArray⟩ : ByteArray).extract 0 k = ⟨(z.take k).toArray⟩ := by
  apply ByteArray.ext
  rw [ByteArray.data_extract]
  simp

theorem hv_one (l : List Hd) : ∀ u ∈ hv l, u.oneCell' = true := by
  intro u hu
  simp only [hv, List.mem_flatMap, List.mem_cons, List.not_mem_nil, or_false] at hu
  obtain ⟨h, _, rfl | rfl⟩ := hu <;> rfl
set_option maxRecDepth 100000 in
/-- the chapter's Copy -/
theorem copy_ref (v : Value) (l : List Hd) (w : World) (hv : Hs w v l) (hs : l.length ≤ 1000) : Calls Tryz.prog 53 #[v] w fun e w' =>
    ∃ u, e = .returned u ∧ OwnH w' w.heap.size u l ∧ Below w.heap.size w w' := by
  obtain ⟨A, c, rfl, hc, hnil, hr⟩ := hv
  obtain ⟨i0, hi, hz0, hz1, hz2⟩ := info_parts infoH
  cases A with
  | none =>
    obtain rfl : c = 0 := hnil rfl
    obtain rfl : l = [] := List.eq_nil_of_length_eq_zero (by omega)
    go_enter Tryz.func53, Tryz.ntmps53
    go_wp2_with (at_builtin; refine wpList_append_own_none rfl (.tmp 4) (.tmp 5) 22 rfl w.heap.size 53 i0 2 Tryz.underlying22 hi _ 0 [] rfl (OwnH.nil w w.heap.size) rfl ?_)
    go_ret
    exact ⟨_, rfl, OwnH.nil _ _, Below.refl _ _⟩
  | some ad =>
    have hnews : ∀ j u, (hv l)[j]? = some u → w.cell? (ad.add j) = some u := fun j u hj => by
      obtain ⟨hlt, e⟩ := List.getElem?_eq_some_iff.1 hj
      obtain ⟨b, off, e1, _, hcell⟩ := hr j hlt
      injection e1 with e1
      subst e1
      rw [add_pl, hcell, e]
    have HR := Lib.hid hnews
    clear hnews hr
    go_enter Tryz.func53, Tryz.ntmps53
    go_wp2_with (at_builtin; refine wpList_append_own _ rfl (.tmp 4) (.tmp 5) 22 rfl w.heap.size 53 i0 (.agg #[.string ⟨#[]⟩, .string ⟨#[]⟩]) 2 32 Tryz.underlying22 hi hz0 hz1 hz2 rfl (by decide) _ 0 [] rfl (OwnH.nil w w.heap.size) ad l.length c (hv l) rfl (hv_len l) HR.out (hv_one l) (by unfold maxLen; omega) (by omega) (Nat.le_refl _) ?_; intro v3 w3 hown3 hg3 _)
    go_ret
    refine ⟨_, rfl, ?_, (Below.refl _ _).grown hg3 (Nat.le_refl _) (fun k hk => by cases hk)⟩
    unfold OwnH
    simpa using hown3

end Go.Proofs.YtnjoadhkkfbeeaaGreatDoor
