/- Rows of bytes that a call owns; the chapter's small, port, Norm, Write, Match of layer 6. -/
import Derived.Test.YtiakbmllpnabnaaGreatDoorGg
import Derived.Laws.OwnMore
import Derived.Maps.AppendAt
import Derived.Lib.AppendStr
import Derived.Lib.BufferRead
namespace Go.Proofs.YtiakbmllpnabnaaGreatDoor
open Go Go.RowKit Pl

theorem info5 : (Tryz.prog.info? 5).map (fun i => (i.zero, i.size, i.bytes)) = some (some (.int .u8 0), 1, 1) := by kernel_rfl
theorem row_below {w W : World} {base size n : Nat} {e : TypeId} {v : Value} {xs : List Value} (h : w.ownsRow base e size v n xs) (hb : Below w.heap.size w W) : W.ownsRow base e size v n xs :=
  h.kept (grownBy_below hb none) (Classical.em _)

/-! Bytes. -/
def OwnB (w : World) (base : Nat) (v : Value) (l : List UInt8) : Prop := w.ownsRow base 5 1 v l.length (Lib.byteCells l)
theorem OwnB.nil (w : World) (base : Nat) : OwnB w base (.slice none 0 0) [] := World.ownsRow_nil w base 5 1
theorem OwnB.below {w w' : World} {base : Nat} {v : Value} {l : List UInt8} (h : OwnB w base v l) (hb : Below w.heap.size w w') : OwnB w' base v l := row_below h hb
theorem wpList_pushb {ops : Array Oper} {rest : List Oper} {o : Oper} {a : Act} {Q : Exit → Act → World → Prop} (hgd : o.guard = none) (s x : Operand)
    (ho : o.op = .call { callee := .builtin .append, args := #[s, x], argTypes := #[22, 22] }) (w : World) (base : Nat) (v : Value) (l : List UInt8) (n : Int) (c : UInt8) (hn : n = c.toNat)
    (hs : a.eval s = v) (hown : OwnB w base v l) (hx : a.eval x = .slice (some ⟨w.heap.size, 0, none⟩) 1 1) (hbase : base ≤ w.heap.size) (hlen : l.length ≤ 1000000000)
    (h : ∀ v' w', OwnB w' base v' (l ++ [c]) → Below base w w' → wpList Tryz.prog ops Q rest (a.put o.dst v') w') :
    wpList Tryz.prog ops Q (o :: rest) a (w.alloc (.cells #[.int .u8 n] 5)) := by
  obtain ⟨i0, hi, hz0, hz1, hz2⟩ := info_parts info5
  subst hn
  refine wpList_append_own _ hgd s x 22 ho base 5 i0 (.int .u8 0) 1 1 Tryz.underlying22 hi hz0 hz1 hz2 rfl (by decide) v l.length (Lib.byteCells l) hs (World.ownsRow.alloc hown _)
    ⟨w.heap.size, 0, none⟩ 1 1 [.int .u8 c.toNat] hx rfl ?_ ?_ (by unfold maxLen; omega) (by omega) (by simp; omega) ?_
  · intro j u hj
    match j, hj with
    | 0, hj => simp at hj; subst hj; simp [Addr.add]
    | j + 1, hj => simp at hj
  · intro u hu; simp at hu; subst hu; rfl
  · intro v' w' ho' hg _
    refine h v' w' ?_ ?_
    · unfold OwnB; rw [List.length_append]; simpa [Lib.byteCells] using ho'
    · exact ((Below.refl base w).alloc hbase _).grown hg (by simp; omega) (fun k hk => (World.ownsRow.lt hown k hk).1)
theorem OwnB.conv {w : World} {base : Nat} {v : Value} {l : List UInt8} (h : OwnB w base v l) : (convert 22 9 v).run Tryz.prog w = .ok (.string ⟨l.toArray⟩) w := by
  rcases h.2 with ⟨rfl, h0⟩ | ⟨g, cap, cur, rfl, _, hg, _, _, _, ht⟩
  · have : l = [] := List.eq_nil_of_length_eq_zero h0
    subst this
    exact Lib.run_convert_nil_bytes w 22 9 5 0 Tryz.underlying22 Tryz.underlying5 Tryz.underlying9
  · rw [Nat.mul_one] at ht
    exact run_convert_bytes_back w 22 9 5 ⟨g, 0, none⟩ cap l Tryz.underlying22 Tryz.underlying5 Tryz.underlying9 (Lib.bytes_of_row hg ht)


/-! ### ports -/
theorem portV_no {l : List UInt8} (h : isDec l = false) : portV l = 0 := by unfold portV; rw [h]; rfl
theorem portV_long {l : List UInt8} (h : 5 < l.length) : portV l = 0 := by unfold portV; rw [decide_eq_false (show ¬ l.length ≤ 5 by omega)]; simp
theorem portV_head {l : List UInt8} (h : 0 < l.length) (hc : l[0] = 48) : portV l = 0 := by
  by_cases h1 : 1 < l.length
  · refine portV_no (isDec_zero ?_ h1)
    rw [List.getD_eq_getElem?_getD, List.getElem?_eq_getElem h, hc]; rfl
  · match l, h, hc with
    | [a], _, hc => simp at hc; subst hc; decide
    | a :: b :: r, _, _ => simp at h1
theorem portV_big {l : List UInt8} (h : 65535 < val l) : portV l = 0 := by unfold portV; rw [decide_eq_false (show ¬ val l ≤ 65535 by omega)]; simp
theorem portV_ok {l : List UInt8} (h : isDec l = true) (h5 : l.length ≤ 5) (hv : val l ≤ 65535) : portV l = (val l : Int) := by
  unfold portV
  rw [h, decide_eq_true h5, decide_eq_true hv]
  by_cases h1 : 1 ≤ val l
  · rw [decide_eq_true h1]; rfl
  · rw [decide_eq_false h1]; simp; omega
theorem val_step (s : ByteArray) (k : Nat) (h : k < s.size) : val (s.data.toList.take (k + 1)) = 10 * val (s.data.toList.take k) + ((s[k]'h).toNat - 48) := by
  rw [val_take (by rw [← Lib.size_eq]; exact h), at_list s k h]
theorem ne48 {c : UInt8} (h : c ≠ 48) : ¬ (c.toNat : Int) = 48 := fun e => h (by rw [eqB]; show c.toNat = 48; omega)

set_option maxRecDepth 100000 in
set_option maxHeartbeats 1000000 in
theorem port_ref (s : ByteArray) (w : World) (hs : s.size ≤ 1000000) : Calls Tryz.prog 55 #[.string s] w fun e w' => e = .returned (.int .i64 (portV s.data.toList)) ∧ w = w' := by
  have hz := Lib.size_eq s
  by_cases h0 : s.size = 0
  · have E : portV s.data.toList = 0 := by
      have : s.data.toList = [] := List.length_eq_zero_iff.1 (by rw [← hz]; exact h0)
      rw [this]; decide
    rw [E]
    have h1 : (s.size : Int) < 1 := by omega
    clear hz E
    go_enter Tryz.func55, Tryz.ntmps55
    go_wp2_with fail
    go_ret
    exact ⟨rfl, rfl⟩
  have p0 : 0 < s.size := by omega
  have q1 : ¬ (s.size : Int) < 1 := by omega
  by_cases h5 : 5 < (s.size : Int)
  · rw [portV_long (l := s.data.toList) (by omega)]
    clear hz h0
    go_enter Tryz.func55, Tryz.ntmps55
    go_wp2_with fail
    go_ret
    exact ⟨rfl, rfl⟩
  have a0 := at_list s 0 p0
  by_cases hh : (s[0]'p0) = 48
  · rw [portV_head (l := s.data.toList) (by omega) (by rw [a0, hh])]
    have c0 : (((s[0]'p0).toNat : Int) == 48) = true := by rw [hh]; rfl
    clear hz h0 a0 hh
    go_enter Tryz.func55, Tryz.ntmps55
    go_wp2_with fail
    go_ret
    exact ⟨rfl, rfl⟩
  have c0 : (((s[0]'p0).toNat : Int) == 48) = false := by rw [beq_eq_false_iff_ne]; exact ne48 hh
  have c0' := ne48 hh
  have h48 : ¬ s.data.toList.getD 0 0 = 48 := by
    rw [List.getD_eq_getElem?_getD, List.getElem?_eq_getElem (show 0 < s.data.toList.length by omega), Option.getD_some, a0]; exact hh
  have MK : Hid (s.data.toList.all digB = true → isDec s.data.toList = true) := Lib.hid fun ha => isDec_mk (fun e => h0 (by rw [hz, e]; rfl)) (fun h => h48 h.1) ha
  have ST : Hid (∀ k (hk : k < s.size), digB s[k] = false → portV s.data.toList = 0) := Lib.hid fun k hk hb => portV_no (isDec_stop (k := k) (by omega) (by rw [at_list s k hk]; exact hb))
  have LN : Hid (s.data.toList.length ≤ 5) := Lib.hid (by omega)
  clear hz h0 a0 hh h48
  go_enter Tryz.func55, Tryz.ntmps55
  go_wp2_with fail
  clear c0 c0'
  go_loop [3, 4] (fun n i => ∃ k : Nat, k ≤ s.size ∧ Hid ((s.data.toList.take k).all digB = true) ∧ n = .int .i64 (val (s.data.toList.take k) : Nat) ∧ i = .int .i64 k) (fun _ i => s.size - (intOf i).toNat)
  case atStart => exact ⟨0, Nat.zero_le _, Lib.hid (by simp), rfl, rfl⟩
  case round =>
    obtain ⟨k, hk, ha, rfl, rfl⟩ := hrel
    by_cases hlt : k < s.size
    · cases hb : digB (s[k]'hlt)
      · have E := Lib.hid (ST.out k hlt hb)
        have B : (s[k]'hlt).toNat < 48 ∨ (48 ≤ (s[k]'hlt).toNat ∧ 57 < (s[k]'hlt).toNat) := by
          have : ¬ (48 ≤ (s[k]'hlt).toNat ∧ (s[k]'hlt).toNat ≤ 57) := fun e => by rw [digB_iff.2 e] at hb; cases hb
          omega
        clear hb
        rcases B with B | ⟨B1, B2⟩
        all_goals
          go_wp2_with fail
          go_ret
          exact ⟨ret_int E.out.symm, rfl⟩
      · obtain ⟨B1, B2⟩ := digB_iff.1 hb
        have HB := Lib.hid (all_step (p := digB) s k hlt ha.out hb)
        have HV := Lib.hid (val_step s k hlt)
        have hv : val (s.data.toList.take k) < 10 ^ 5 := by
          have h1 := val_lt _ ha.out
          have h2 : (s.data.toList.take k).length ≤ 5 := by have := LN.out; rw [List.length_take]; omega
          exact Nat.lt_of_lt_of_le h1 (Nat.pow_le_pow_right (by decide) h2)
        have hv' : val (s.data.toList.take k) ≤ 100000 := by omega
        clear hb hv
        generalize val (s.data.toList.take k) = v at *
        go_wp2_with fail
        go_round
        case rel => exact ⟨k + 1, by omega, HB, by rw [HV.out]; congr 1; omega, by go_num⟩
        case measure => simp [intOf]; omega
    · have hall : s.data.toList.all digB = true := by have := ha.out; rwa [take_all s (by omega)] at this
      have HD := Lib.hid (MK.out hall)
      rw [take_all s (by omega)]
      by_cases hv : 65535 < (val s.data.toList : Int)
      · have E := Lib.hid (portV_big (l := s.data.toList) (by omega))
        go_wp2_with fail
        go_ret
        exact ⟨ret_int E.out.symm, rfl⟩
      · have E := Lib.hid (portV_ok HD.out LN.out (by omega))
        go_wp2_with fail
        go_ret
        exact ⟨ret_int E.out.symm, rfl⟩

/-! ### Norm -/
theorem small_ref (c : UInt8) (w : World) : Calls Tryz.prog 56 #[.int .u8 (c.toNat : Int)] w fun e w' => e = .returned (.int .u8 ((lowB c).toNat : Int)) ∧ w = w' := by
  have hc := c.toNat_lt
  by_cases hu : 65 ≤ c.toNat ∧ c.toNat ≤ 90
  · obtain ⟨u1, u2⟩ := hu
    rw [lowB_up u1 u2]
    go_enter Tryz.func56, Tryz.ntmps56
    go_wp2_with fail
    go_ret
    exact ⟨ret_int (by omega), rfl⟩
  · rw [lowB_id hu]
    by_cases u1 : 65 ≤ c.toNat
    · have u2 : 90 < c.toNat := by omega
      clear hu
      go_enter Tryz.func56, Tryz.ntmps56
      go_wp2_with fail
      go_ret
      exact ⟨rfl, rfl⟩
    · clear hu
      go_enter Tryz.func56, Tryz.ntmps56
      go_wp2_with fail
      go_ret
      exact ⟨rfl, rfl⟩
theorem hdC_at {c : UInt8} {l : List UInt8} {k : Nat} (hk : k < l.length) (hall : ∀ j (hj : j < k), l[j]'(by omega) ≠ c) (hc : l[k] = c) : (hdC c l).length = k ∧ c ∈ l := by
  refine ⟨?_, by rw [← hc]; exact List.getElem_mem hk⟩
  have e : l = l.take k ++ (c :: l.drop (k + 1)) := by
    conv => lhs; rw [← List.take_append_drop k l, List.drop_eq_getElem_cons hk, hc]
  have hn : c ∉ l.take k := by
    intro h
    obtain ⟨j, hj, ej⟩ := List.getElem_of_mem h
    rw [List.length_take] at hj
    rw [List.getElem_take] at ej
    exact hall j (by omega) ej
  have := (hdC_app (b := l.drop (k + 1)) hn).1
  rw [← e] at this
  rw [this, List.length_take]; omega
theorem hdC_end {c : UInt8} {l : List UInt8} (hall : ∀ j (hj : j < l.length), l[j] ≠ c) : c ∉ l := fun h => by
  obtain ⟨j, hj, ej⟩ := List.getElem_of_mem h
  exact hall j hj ej
theorem lowS_step (s : ByteArray) (k : Nat) (h : k < s.size) : lowS (s.data.toList.take (k + 1)) = lowS (s.data.toList.take k) ++ [lowB s[k]] := by
  have hl : k < s.data.toList.length := by rw [← Lib.size_eq]; exact h
  rw [← List.take_append_getElem hl, lowS_append, at_list s k h]
  rfl
end Go.Proofs.YtiakbmllpnabnaaGreatDoor
