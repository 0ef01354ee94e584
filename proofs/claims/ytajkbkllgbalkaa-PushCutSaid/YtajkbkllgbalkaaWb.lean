/- Rows of texts that a call owns; the walks of strings.Cut at a line feed, strings.Clone, and both functions Lines. -/
import Derived.Test.YtajkbkllgbalkaaWa
import Derived.Test.YtajkbkllgbalkaaShelf
import Derived.WalkSmall
import Derived.BigCall
import Derived.RegionTactic
namespace Go.Proofs.Ytajkbkllgbalkaa
open Go Go.RowKit

def strV (l : List UInt8) : Value := .string ⟨l.toArray⟩
theorem strV_data (s : ByteArray) : strV s.data.toList = .string s := by unfold strV; rw [Lib.mk_data]
theorem mk_toList (l : List UInt8) : (⟨l.toArray⟩ : ByteArray).data.toList = l := by simp
theorem mk_size (l : List UInt8) : (⟨l.toArray⟩ : ByteArray).size = l.length := by rw [Lib.size_eq, mk_toList]

theorem info9 : (Try.prog.info? 9).map (fun i => (i.zero, i.size, i.bytes)) = some (some (.string ⟨#[]⟩), 1, 16) := by kernel_rfl
theorem info5 : (Try.prog.info? 5).map (fun i => (i.zero, i.size, i.bytes)) = some (some (.int .u8 0), 1, 1) := by kernel_rfl

/-- The texts of a row that the call owns from block 'base' on. -/
def Own (w : World) (base : Nat) (v : Value) (ws : List (List UInt8)) : Prop := w.ownsRow base 9 1 v ws.length (ws.map strV)
theorem Own.nil (w : World) (base : Nat) : Own w base (.slice none 0 0) [] := World.ownsRow_nil w base 9 1
theorem Own.below {w w' : World} {base : Nat} {v : Value} {ws : List (List UInt8)} (h : Own w base v ws) (hb : Below w.heap.size w w') : Own w' base v ws :=
  World.ownsRow.kept (row := none) h ⟨hb.os, hb.tape, hb.output, hb.size, fun k hk _ => hb.block k hk⟩ (by cases v.ownBlock <;> simp)
theorem Own.drewN {w : World} {base : Nat} {v : Value} {ws : List (List UInt8)} (h : Own w base v ws) (n : Nat) : Own (w.drewN n) base v ws := h

theorem wpList_push {ops : Array Oper} {rest : List Oper} {o : Oper} {a : Act} {Q : Exit → Act → World → Prop} (hgd : o.guard = none) (s x : Operand)
    (ho : o.op = .call { callee := .builtin .append, args := #[s, x], argTypes := #[22, 22] }) (w : World) (base : Nat) (v : Value) (ws : List (List UInt8)) (y : ByteArray)
    (hs : a.eval s = v) (hown : Own w base v ws) (hx : a.eval x = .slice (some ⟨w.heap.size, 0, none⟩) 1 1) (hbase : base ≤ w.heap.size) (hlen : ws.length ≤ 1000000000)
    (h : ∀ v' w', Own w' base v' (ws ++ [y.data.toList]) → Below base w w' → wpList Try.prog ops Q rest (a.put o.dst v') w') :
    wpList Try.prog ops Q (o :: rest) a (w.alloc (.cells #[.string y] 9)) := by
  obtain ⟨i0, hi, hz0, hz1, hz2⟩ := info_parts info9
  refine wpList_append_own _ hgd s x 22 ho base 9 i0 (.string ⟨#[]⟩) 1 16 Try.underlying22 hi hz0 hz1 hz2 rfl (by decide) v ws.length (ws.map strV) hs (World.ownsRow.alloc hown _)
    ⟨w.heap.size, 0, none⟩ 1 1 [.string y] hx rfl ?_ ?_ (by unfold maxLen; omega) (by omega) (by simp; omega) ?_
  · intro j u hj
    match j, hj with
    | 0, hj => simp at hj; subst hj; simp [Addr.add]
    | j + 1, hj => simp at hj
  · intro u hu; simp at hu; subst hu; rfl
  · intro v' w' ho' hg _
    refine h v' w' ?_ ?_
    · unfold Own; rw [List.map_append, List.length_append, List.map_cons, strV_data]; exact ho'
    · exact ((Below.refl base w).alloc hbase _).grown hg (by simp; omega) (fun k hk => (World.ownsRow.lt hown k hk).1)

theorem clone_any (s : ByteArray) (w : World) (h : s.size ≤ 281474976710656) :
    Calls Try.prog 40 #[.string s] w fun e w' => e = .returned (.string s) ∧ Below w.heap.size w w' := by
  go_enter Try.func40, Try.ntmps40
  go_wp2_with (go_at_call 70; refine (Try.stringslite_Clone _ _ h).mono ?_; rintro e w' ⟨rfl, hb⟩)
  go_ret
  exact ⟨rfl, hb⟩


theorem head10_piece (s : ByteArray) : s.extract 0 (Pl.head10 s.data.toList).length = ⟨(Pl.head10 s.data.toList).toArray⟩ := by
  rw [Lib.extract_eq]; simp only [List.drop_zero, Nat.sub_zero]; rw [Pl.take_head10]
theorem tail10_piece (s : ByteArray) : s.extract ((Pl.head10 s.data.toList).length + 1) s.size = ⟨(Pl.tail10 s.data.toList).toArray⟩ := by
  rw [Lib.extract_eq, Pl.drop_head10, List.take_of_length_le]
  rw [← Pl.drop_head10, List.length_drop, ← Lib.size_eq]; exact Nat.le_refl _

/-- internal/stringslite.Cut at a line feed -/
theorem litecut_any (s : ByteArray) (w : World) (hs : s.size ≤ maxLen) :
    Calls Try.prog 83 #[.string s, .string ⟨#[10]⟩] w fun e w' => (∃ b, e = .returned (.tuple #[.string ⟨(Pl.head10 s.data.toList).toArray⟩, .string ⟨(Pl.tail10 s.data.toList).toArray⟩, .bool b])) ∧ ∃ n, w' = w.drewN n := by
  unfold maxLen at hs
  by_cases h : 10 ∈ s.data.toList
  · have hlt := Pl.head10_lt h
    rw [← Lib.size_eq] at hlt
    have hix := Lib.hid (Pl.indexByte10 s.data.toList)
    have hp := Lib.hid (head10_piece s)
    have ht := Lib.hid (tail10_piece s)
    rw [if_pos h] at hix
    generalize Pl.head10 s.data.toList = hd at *
    generalize Pl.tail10 s.data.toList = tl at *
    obtain ⟨k, hk⟩ : ∃ k, k = hd.length := ⟨_, rfl⟩
    rw [← hk] at hix hp ht hlt
    rw [← hp.out, ← ht.out]
    clear hp ht hk
    have c1 : (0 : Int) ≤ ↑k := by omega
    have c2 : (↑k : Int) ≤ ↑s.size := by omega
    have c3 : (0 : Int) ≤ ↑k + 1 := by omega
    have c4 : (↑k + 1 : Int) ≤ ↑s.size := by omega
    go_enter Try.func83, Try.ntmps83
    go_wp2_with (go_at_call 86; refine (Try.stringslite_Index_one _ _ _).mono ?_; rintro e w' ⟨rfl, rfl⟩; rw [hix.out])
    go_region
    go_wp2
    go_ret3
    exact ⟨⟨_, rfl⟩, 1, rfl⟩
  · have hix := Lib.hid (Pl.indexByte10 s.data.toList)
    rw [if_neg h] at hix
    rw [(Pl.head10_none h).1, (Pl.head10_none h).2, Lib.mk_data]
    go_enter Try.func83, Try.ntmps83
    go_wp2_with (go_at_call 86; refine (Try.stringslite_Index_one _ _ _).mono ?_; rintro e w' ⟨rfl, rfl⟩; rw [hix.out])
    go_ret3
    exact ⟨⟨_, rfl⟩, 0, rfl⟩
theorem cut10_any (s : ByteArray) (w : World) (hs : s.size ≤ maxLen) :
    Calls Try.prog 79 #[.string s, .string ⟨#[10]⟩] w fun e w' => (∃ b, e = .returned (.tuple #[.string ⟨(Pl.head10 s.data.toList).toArray⟩, .string ⟨(Pl.tail10 s.data.toList).toArray⟩, .bool b])) ∧ ∃ n, w' = w.drewN n := by
  go_enter Try.func79, Try.ntmps79
  go_wp2_with (go_at_call 83; refine (litecut_any _ _ hs).mono ?_; rintro e w' ⟨⟨b, rfl⟩, n, rfl⟩)
  go_ret3
  exact ⟨⟨_, rfl⟩, _, rfl⟩

def strLen : Value → Nat | .string s => s.size | _ => 0

/-- the program's Lines -/
theorem lines_any (s : ByteArray) (w : World) (hs : s.size ≤ 65536) :
    Calls Try.prog 60 #[.string s] w fun e w' => ∃ v, e = .returned (.tuple #[v, .int .i64 0]) ∧ Own w' w.heap.size v (Pl.lines s.data.toList) ∧ Below w.heap.size w w' := by
  go_enter Try.func60, Try.ntmps60
  go_wp2
  go_loopw [4, 5] (fun v r wr => ∃ (out : List (List UInt8)) (rest : ByteArray), r = .string rest ∧ Own wr w.heap.size v out ∧ Hid (out ++ Pl.lines rest.data.toList = Pl.lines s.data.toList) ∧ rest.size ≤ 65536 ∧ Below w.heap.size w wr) (fun _ r _ => strLen r)
  case atStart => exact ⟨[], s, rfl, Own.nil _ _, rfl, hs, Below.refl _ _⟩
  case round =>
    obtain ⟨out, rest, rfl, hown, heq, hr, hb⟩ := hrel
    by_cases hne : rest.data.toList = []
    · have h1 : rest.toList.isEmpty = true := by rw [Lib.toList_data, hne]; rfl
      have heq' : Hid (out = Pl.lines s.data.toList) := by have := heq.out; rwa [hne, Pl.lines_nil, List.append_nil] at this
      clear heq hne
      go_wp2
      go_ret2
      refine ⟨_, rfl, ?_, hb⟩
      rw [← heq'.out]; exact hown
    · have h1 : rest.toList.isEmpty = false := by rw [Lib.toList_data]; simpa using hne
      have heq' : Hid ((out ++ [(⟨(Pl.head10 rest.data.toList).toArray⟩ : ByteArray).data.toList]) ++ Pl.lines (⟨(Pl.tail10 rest.data.toList).toArray⟩ : ByteArray).data.toList = Pl.lines s.data.toList) := by
        have := heq.out; rw [Pl.lines_cons hne] at this
        show _ = _
        rw [mk_toList, mk_toList, ← this, List.append_assoc]; rfl
      have hlen : out.length ≤ 1000000000 := by
        have h2 := congrArg List.length heq.out
        have h3 := Pl.lines_len s.data.toList
        rw [List.length_append] at h2
        rw [← Lib.size_eq] at h3; omega
      have hlt := Pl.tail10_len hne
      have hhd := Pl.head10_len rest.data.toList
      rw [← Lib.size_eq] at hlt hhd
      clear heq hne
      go_wp2_with (first
        | (go_at_call 79; refine (cut10_any _ _ (by unfold maxLen; omega)).mono ?_; rintro e w1 ⟨⟨b, rfl⟩, n, rfl⟩)
        | (go_at_call 40; refine (clone_any _ _ (by rw [mk_size]; omega)).mono ?_; rintro e w2 ⟨rfl, hb2⟩)
        | (at_builtin; refine wpList_push rfl (.tmp 21) (.tmp 24) rfl w2 w.heap.size _ out _ rfl ((hown.drewN n).below hb2) rfl (Nat.le_trans hb.size hb2.size) hlen ?_; intro v3 w3 hown3 hb3))
      go_roundw
      case rel => exact ⟨_, _, rfl, hown3, heq', by rw [mk_size]; omega, ((below_drewN hb n).trans (hb2.mono hb.size)).trans hb3⟩
      case measure => simp only [strLen]; rw [mk_size]; omega
theorem lines_big (s : ByteArray) (w : World) (hs : 65536 < s.size) (hs' : s.size ≤ maxLen) :
    Calls Try.prog 60 #[.string s] w fun e w' => e = .returned (.tuple #[.slice none 0 0, .int .i64 5]) ∧ w = w' := by
  unfold maxLen at hs'
  go_enter Try.func60, Try.ntmps60
  go_wp2
  go_ret2
  exact ⟨rfl, rfl⟩

theorem piece (s : ByteArray) {a b : Nat} (_h : b ≤ s.size) : (s.extract a b).data.toList = (s.data.toList.take b).drop a := by
  rw [Lib.extract_data, List.drop_take]
theorem seg_nil (l : List UInt8) : (l.take 0).drop 0 = [] := by simp

/-- the reference's Lines -/
theorem refLines_any (s : ByteArray) (w : World) (hs : s.size ≤ 65536) :
    Calls Try.prog 63 #[.string s] w fun e w' => ∃ v, e = .returned (.tuple #[v, .int .i64 0]) ∧ Own w' w.heap.size v (Pl.lines s.data.toList) ∧ Below w.heap.size w w' := by
  go_enter Try.func63, Try.ntmps63
  go_wp2
  go_loopw [4, 5, 6] (fun v f i wr => ∃ (out : List (List UInt8)) (fr k : Nat), f = .int .i64 fr ∧ i = .int .i64 k ∧ fr ≤ k ∧ k ≤ s.size ∧ Own wr w.heap.size v out ∧
      Hid (out ++ Pl.linesGo ((s.data.toList.take k).drop fr) (s.data.toList.drop k) = Pl.lines s.data.toList) ∧ out.length ≤ k ∧ Below w.heap.size w wr) (fun _ _ i _ => s.size - (intOf i).toNat)
  case atStart => exact ⟨[], 0, 0, rfl, rfl, Nat.le_refl _, Nat.zero_le _, Own.nil _ _, by simp [Hid, Pl.lines], by simp, Below.refl _ _⟩
  case round =>
    obtain ⟨out, fr, k, rfl, rfl, hf, hk, hown, heq, hlen, hb⟩ := hrel
    by_cases hlt : k < s.size
    · have hlt' : k < s.data.toList.length := by rw [← Lib.size_eq]; exact hlt
      by_cases hc : s[k].toNat = 10
      · have heq' := Lib.hid (Pl.ref_line hlt' (by rw [at_list s k hlt]; exact Pl.eq10.2 hc) heq.out)
        clear heq
        have hc' : ((s[k].toNat : Int) == 10) = true := by rw [beq_iff_eq]; omega
        have HC := Lib.hid hc
        clear hc
        go_wp2_with (at_builtin; refine wpList_push rfl (.tmp 20) (.tmp 25) rfl _ w.heap.size _ out _ rfl hown rfl hb.size (by omega) ?_; intro v3 w3 hown3 hb3)
        go_roundw
        case rel => exact ⟨_, k + 1, k + 1, by go_num, by go_num, Nat.le_refl _, by omega, by rw [piece s (by omega)] at hown3; exact hown3, heq', by simp; omega, hb.trans hb3⟩
        case measure => simp [intOf]; omega
      · have heq' := Lib.hid (Pl.ref_more hlt' hf (by rw [at_list s k hlt]; exact fun e => hc (Pl.eq10.1 e)) heq.out)
        clear heq
        have hc' : ((s[k].toNat : Int) == 10) = false := by rw [beq_eq_false_iff_ne]; omega
        go_wp2
        go_roundw
        case rel => exact ⟨out, fr, k + 1, rfl, by go_num, by omega, by omega, hown, heq', by omega, hb⟩
        case measure => simp [intOf]; omega
    · by_cases hfr : fr < s.size
      · have heq' := Lib.hid (Pl.ref_end (by rw [← Lib.size_eq]; omega) (by rw [← Lib.size_eq]; omega) heq.out)
        clear heq
        go_wp2_with (at_builtin; refine wpList_push rfl (.tmp 33) (.tmp 37) rfl _ w.heap.size _ out _ rfl hown rfl hb.size (by omega) ?_; intro v3 w3 hown3 hb3)
        go_ret2
        refine ⟨_, rfl, ?_, hb.trans hb3⟩
        rw [← heq'.out]; rw [Lib.extract_to_end] at hown3; exact hown3
      · have heq' := Lib.hid (Pl.ref_none (by rw [← Lib.size_eq]; omega) (by rw [← Lib.size_eq]; omega) heq.out)
        clear heq
        go_wp2
        go_ret2
        refine ⟨_, rfl, ?_, hb⟩
        rw [← heq'.out]; exact hown
end Go.Proofs.Ytajkbkllgbalkaa
