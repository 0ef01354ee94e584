/- The program: AppendInt, base 16, of small numbers. The program: the range function over a body's chunks. The program: Chunked. -/
import Derived.Test.YthniggdimfldhaaGreatDoorNx
import Derived.Laws.BitsLemmas
import Derived.Test.YthniggdimfldhaaGreatDoorHk
import Derived.Test.YthniggdimfldhaaGreatDoorNzc
import Derived.Test.YthniggdimfldhaaGreatDoorHl
namespace Go.Proofs.YthniggdimfldhaaGreatDoor
open Go Go.RowKit

/-- What an append to a slice leaves: all other blocks; where the slice lies. -/
structure Grw (w w' : World) (A A' : Option Addr) : Prop where
  os : w'.os = w.os
  tape : w'.tape = w.tape
  output : w'.output = w.output
  size : w.heap.size ≤ w'.heap.size
  block : ∀ k, k < w.heap.size → A ≠ some ⟨k, 0, none⟩ → w'.heap[k]? = w.heap[k]?
  adr : A' = A ∨ ∃ k, w.heap.size ≤ k ∧ A' = some ⟨k, 0, none⟩
theorem Grw.trans {w1 w2 w3 : World} {A1 A2 A3 : Option Addr} (h : Grw w1 w2 A1 A2) (k : Grw w2 w3 A2 A3) : Grw w1 w3 A1 A3 := by
  refine ⟨k.os.trans h.os, k.tape.trans h.tape, k.output.trans h.output, Nat.le_trans h.size k.size, fun i hi hn => ?_, ?_⟩
  · refine (k.block i (Nat.lt_of_lt_of_le hi h.size) fun e => ?_).trans (h.block i hi hn)
    rcases h.adr with e1 | ⟨q, hq, e1⟩
    · exact hn (e1.symm.trans e)
    · rw [e1] at e
      injection e with e
      injection e with e
      omega
  · rcases k.adr with e2 | ⟨q, hq, e2⟩
    · rcases h.adr with e1 | ⟨q, hq, e1⟩
      · exact .inl (e2.trans e1)
      · exact .inr ⟨q, hq, e2.trans e1⟩
    · exact .inr ⟨q, Nat.le_trans h.size hq, e2⟩
theorem Grw.ofBelow {w w' : World} (h : Below w.heap.size w w') (A : Option Addr) : Grw w w' A A := ⟨h.os, h.tape, h.output, h.size, fun k hk _ => h.block k hk, .inl rfl⟩
theorem Grw.below {w w' : World} {A A' : Option Addr} {base c : Nat} {l : List UInt8} (h : Grw w w' A A') (hr : RowG w base A c l) (hb : base ≤ w.heap.size) : Below base w w' :=
  ⟨h.os, h.tape, h.output, h.size, fun k hk => h.block k (by omega) fun e => by have := (hr.lt e).1; omega⟩
theorem wpList_pushGg {ops : Array Oper} {rest : List Oper} {o : Oper} {a : Act} {Q : Exit → Act → World → Prop} (hgd : o.guard = none) (s x : Operand) (tx : TypeId)
    (ho : o.op = .call { callee := .builtin .append, args := #[s, x], argTypes := #[23, tx] }) (w : World) (base : Nat) (A : Option Addr) (c n m : Nat) (l z : List UInt8) (xv : Value) (hn : l.length = n) (hm : z.length = m)
    (hs : a.eval s = .slice A n c) (hx : a.eval x = xv) (h : RowG w base A c l) (hsrc : Src Tryz.prog 1 tx xv z.length (Lib.byteCells z) w) (hbase : base ≤ w.heap.size) (hlen : n + m ≤ 140737488355328)
    (hk : ∀ (A' : Option Addr) (c' : Nat) w', RowG w' base A' c' (l ++ z) → Grw w w' A A' → wpList Tryz.prog ops Q rest (a.put o.dst (.slice A' (n + m) c')) w') :
    wpList Tryz.prog ops Q (o :: rest) a w := by
  subst hn hm
  refine wpList_plain hgd fun K hK => ?_
  obtain ⟨A', c', w', hr, h2, h3, h4, h5⟩ := run_pushG w base o.type tx A c l z xv h hsrc hbase hlen
  unfold Oper.wp execOp
  simp only [ho, resolve, invoke, builtin, Sem.run_bind, Sem.run_pure, Result.andThen_ok, List.map_toArray, List.map_cons, List.map_nil, hs, hx, hr]
  exact hK _ _ (hk A' c' w' h2 ⟨h3.os, h3.tape, h3.output, h3.size, h4, h5⟩)
theorem digs16_one {u : Nat} (h : u < 16) : digs 16 u = [dgt u] := by unfold digs; rw [if_pos h]
theorem digs16_step {u : Nat} (h : ¬ u < 16) (h2 : u < 4096) : digs 16 u = digs 16 (u / 16) ++ [dgt (u % 16)] := by
  unfold digs
  rw [if_neg h]
  by_cases h3 : u < 256
  · rw [if_pos (show u < 16 * 16 by omega), if_pos (show u / 16 < 16 by omega)]; rfl
  · rw [if_neg (show ¬ u < 16 * 16 by omega), if_pos (show u < 16 * 16 * 16 by omega), if_neg (show ¬ u / 16 < 16 by omega), if_pos (show u / 16 < 16 * 16 by omega), show u / 16 / 16 = u / (16 * 16) from Nat.div_div_eq_div_mul ..]
    rfl
def hexT : ByteArray := ⟨#[48, 49, 50, 51, 52, 53, 54, 55, 56, 57, 97, 98, 99, 100, 101, 102, 103, 104, 105, 106, 107, 108, 109, 110, 111, 112, 113, 114, 115, 116, 117, 118, 119, 120, 121, 122]⟩
theorem hexT_all : (List.range 16).all (fun d => hexT.data.toList.getD d 0 == dgt d) = true := by kernel_rfl
theorem hex_at (d : Nat) (h : d < 16) : (⟨#[48, 49, 50, 51, 52, 53, 54, 55, 56, 57, 97, 98, 99, 100, 101, 102, 103, 104, 105, 106, 107, 108, 109, 110, 111, 112, 113, 114, 115, 116, 117, 118, 119, 120, 121, 122]⟩ : ByteArray)[d]'(by show d < 36; omega) = dgt d := by
  have := List.all_eq_true.1 hexT_all d (List.mem_range.2 h)
  rw [beq_iff_eq, List.getD_eq_getElem?_getD, List.getElem?_eq_getElem (show d < hexT.data.toList.length by show d < 36; omega)] at this
  exact this
theorem tz_and : bits BinOp.and IntKind.u64 16 (IntKind.u64.wrap (-16)) = 16 := by kernel_rfl
theorem tz_mul : IntKind.u64.wrap (16 * 285870213051353865) = 4573923408821661840 := by kernel_rfl
set_option maxRecDepth 100000 in
theorem tz16 (w : World) (h : w.cell? ⟨4, 15, none⟩ = some (.int .u8 4)) : Calls Tryz.prog 118 #[.int .u64 16] w fun e w' => e = .returned (.int .i64 4) ∧ w' = w := by
  have e1 := tz_and
  have e2 := tz_mul
  go_enter Tryz.func118, Tryz.ntmps118
  go_wp2_with fail
  go_ret
  exact ⟨rfl, rfl⟩
set_option maxRecDepth 100000 in
theorem tz16u (w : World) (h : w.cell? ⟨4, 15, none⟩ = some (.int .u8 4)) : Calls Tryz.prog 104 #[.int .u64 16] w fun e w' => e = .returned (.int .i64 4) ∧ w' = w := by
  have C := Lib.hid (tz16 w h)
  clear h
  go_enter Tryz.func104, Tryz.ntmps104
  go_wp2_with fail
  go_at_call 118
  refine C.out.mono ?_
  rintro e w' ⟨rfl, rfl⟩
  go_wp2_with fail
  go_ret
  exact ⟨rfl, rfl⟩
theorem p16_and : bits BinOp.and IntKind.i64 16 15 = 0 := by kernel_rfl
set_option maxRecDepth 100000 in
theorem pow16 (w : World) : Calls Tryz.prog 103 #[.int .i64 16] w fun e w' => e = .returned (.bool true) ∧ w' = w := by
  have e1 := p16_and
  go_enter Tryz.func103, Tryz.ntmps103
  go_wp2_with fail
  go_ret
  exact ⟨rfl, rfl⟩
/-- The digits' cells: zeros, then what has been written. -/
def digV (m : Nat) (s : List UInt8) : List Value := List.replicate m (.int .u8 0) ++ Lib.byteCells s
theorem digV_len (m : Nat) (s : List UInt8) : (digV m s).length = m + s.length := by unfold digV; rw [List.length_append, List.length_replicate, Lib.byteCells_length]
theorem digV_set (m : Nat) (s : List UInt8) (c : UInt8) : (digV (m + 1) s).set m (.int .u8 (c.toNat : Int)) = digV m (c :: s) := by
  unfold digV
  rw [List.replicate_succ', List.append_assoc, List.set_append_right _ _ (by rw [List.length_replicate]; exact Nat.le_refl _), List.length_replicate, Nat.sub_self]
  rfl
theorem digV_zero : digV 65 [] = [.int .u8 0, .int .u8 0, .int .u8 0, .int .u8 0, .int .u8 0, .int .u8 0, .int .u8 0, .int .u8 0, .int .u8 0, .int .u8 0, .int .u8 0, .int .u8 0, .int .u8 0, .int .u8 0, .int .u8 0, .int .u8 0, .int .u8 0, .int .u8 0, .int .u8 0, .int .u8 0, .int .u8 0, .int .u8 0, .int .u8 0, .int .u8 0, .int .u8 0, .int .u8 0, .int .u8 0, .int .u8 0, .int .u8 0, .int .u8 0, .int .u8 0, .int .u8 0, .int .u8 0, .int .u8 0, .int .u8 0, .int .u8 0, .int .u8 0, .int .u8 0, .int .u8 0, .int .u8 0, .int .u8 0, .int .u8 0, .int .u8 0, .int .u8 0, .int .u8 0, .int .u8 0, .int .u8 0, .int .u8 0, .int .u8 0, .int .u8 0, .int .u8 0, .int .u8 0, .int .u8 0, .int .u8 0, .int .u8 0, .int .u8 0, .int .u8 0, .int .u8 0, .int .u8 0, .int .u8 0, .int .u8 0, .int .u8 0, .int .u8 0, .int .u8 0, .int .u8 0] := rfl
theorem and15 (k : Nat) (h : k < 4096) : bits BinOp.and IntKind.u64 k 15 = (k % 16 : Nat) := by
  have h1 := bits_mask .u64 63 (by decide) (fun n h0 h1 => by rw [IntKind.wrap_u64]; omega) 4 (by decide) (k : Int) (by omega) (by omega)
  have e : ((2 : Int) ^ 4 - 1) = 15 := by decide
  have e2 : ((2 : Int) ^ 4) = 16 := by decide
  rw [e, e2] at h1
  rw [h1]
  omega
set_option maxRecDepth 100000 in
set_option maxHeartbeats 1000000 in
theorem formatBits_any (base : Nat) (A : Option Addr) (c : Nat) (l : List UInt8) (n : Nat) (w : World) (h : RowG w base A c l) (hn : n < 4096) (hl : l.length ≤ 100000000) (hb : base ≤ w.heap.size) (hG : Gl w) :
    Calls Tryz.prog 88 #[.slice A l.length c, .int .u64 n, .int .i64 16, .bool false, .bool true] w fun e w' =>
      ∃ (A' : Option Addr) (c' : Nat), e = .returned (.tuple #[.slice A' (l ++ digs 16 n).length c', .string ⟨#[]⟩]) ∧ RowG w' base A' c' (l ++ digs 16 n) ∧ Grw w w' A A' := by
  have HP := Lib.hid pow16
  have HT : Hid (∀ w', Below w.heap.size w w' → Calls Tryz.prog 104 #[.int .u64 16] w' fun e w'' => e = .returned (.int .i64 4) ∧ w'' = w') := fun w' hb => tz16u w' (hG.fresh hb).tz
  have HR := Lib.hid h
  have hbn := below_new w (.cells Tryz.zeroCells103 103)
  have B1 := Lib.hid hbn
  have C1 : Hid (Cs (w.alloc (.cells Tryz.zeroCells103 103)) w.heap.size (digV 65 [])) := Cs.new w (digV 65 []) _
  have hw1 : IntKind.u64.wrap 16 = 16 := by kernel_rfl
  have hw2 : IntKind.u64.wrap 4 = 4 := by kernel_rfl
  clear h hG hbn
  go_enter Tryz.func88, Tryz.ntmps88
  go_wp2_with fail
  generalize w.alloc (.cells Tryz.zeroCells103 103) = w1 at *
  go_at_call 103
  refine (HP.out _).mono ?_
  rintro e w' ⟨rfl, rfl⟩
  go_wp2_with fail
  go_at_call 104
  refine (HT.out _ B1.out).mono ?_
  rintro e w' ⟨rfl, rfl⟩
  go_wp2_with fail
  go_loopw [1, 13] (fun u i wr => ∃ (k m : Nat) (s : List UInt8), u = .int .u64 k ∧ i = .int .i64 m ∧ m + s.length = 65 ∧ k < 4096 ∧ ((s.length = 0) ∨ (s.length = 1 ∧ k < 256) ∨ (s.length = 2 ∧ k < 16)) ∧ Hid (digs 16 n = digs 16 k ++ s ∧ Cs wr w.heap.size (digV m s) ∧ Below w.heap.size w wr)) (fun u _ _ => (intOf u).toNat)
  case atStart => exact ⟨n, 65, [], rfl, rfl, rfl, hn, .inl rfl, by rw [List.append_nil], C1.out, B1.out⟩
  case round =>
    obtain ⟨k, m, s, rfl, rfl, hm, hk, hs, H⟩ := hrel
    obtain ⟨m, rfl⟩ : ∃ m', m = m' + 1 := ⟨m - 1, by omega⟩
    have hm64 : m ≤ 64 := by omega
    have HM : Hid (m + 1 + s.length = 65) := hm
    have HS := Lib.hid hs
    clear hs
    by_cases hlt : k < 16
    · have hat := hex_at k hlt
      have i1 : (k : Int) < 16 := by omega
      have i1n : ¬ (16 : Int) ≤ (k : Int) := by omega
      have hc0 := H.out.2.1.c m (by rw [digV_len]; omega)
      have hf0 := H.out.2.1.free m (by rw [digV_len]; omega)
      have HD : Hid (digs 16 n = dgt k :: s) := by show _ = _; rw [H.out.1, digs16_one hlt]; rfl
      have hcs := H.out.2.1.set m (by rw [digV_len]; omega) (.int .u8 ((dgt k).toNat : Int))
      rw [digV_set] at hcs
      have hbb := H.out.2.2.setCell (p := ⟨w.heap.size, m, none⟩) (Nat.le_refl _) (.int .u8 ((dgt k).toNat : Int))
      have HC := Lib.hid hcs
      have HB := Lib.hid hbb
      clear hcs hbb H
      generalize (digV (m + 1) s)[m]'(by rw [digV_len]; omega) = z0 at *
      generalize dgt k = dk at *
      have HE : Hid (m + (dk :: s).length = 65) := by show _ = _; rw [List.length_cons]; omega
      have hme : (65 - (m : Int)).toNat = (dk :: s).length := by rw [List.length_cons]; omega
      have hme2 : 65 - m = (dk :: s).length := by rw [List.length_cons]; omega
      generalize dk :: s = ds at *
      have HX : Hid (Rb (w.heap.size + 1) (wr.setCell ⟨w.heap.size, m, none⟩ (.int .u8 (dk.toNat : Int))) (some ⟨w.heap.size, m, none⟩) ds.length ds) :=
        ⟨Nat.le_refl _, (fun e => by cases e), fun i hi => ⟨w.heap.size, m, rfl, Nat.lt_succ_self _, by
          have hc := HC.out.cell (m + i) (by rw [digV_len]; omega)
          rw [hc]
          unfold digV
          rw [List.getElem?_append_right (by rw [List.length_replicate]; omega), List.length_replicate, Nat.add_sub_cancel_left]
          unfold Lib.byteCells
          rw [List.getElem?_map, List.getElem?_eq_getElem hi]
          rfl⟩⟩
      have HR2 : Hid (RowG (wr.setCell ⟨w.heap.size, m, none⟩ (.int .u8 (dk.toNat : Int))) base A c l) := HR.out.keep HB.out.size fun g e => HB.out.block g (HR.out.lt e).2
      have HZ : Hid (l.length + ds.length ≤ 140737488355328) := by show _ ≤ _; have := HE.out; omega
      have i2 : (0 : Int) ≤ (m : Int) := by omega
      have i3 : (m : Int) ≤ 65 := by omega
      go_wp2_with (at_builtin; refine wpList_pushGg rfl (.tmp 95) (.tmp 97) 23 rfl (wr.setCell ⟨w.heap.size, m, none⟩ (.int .u8 (dk.toNat : Int))) base A c l.length ds.length l ds (.slice (some ⟨w.heap.size, m, none⟩) ds.length ds.length) rfl rfl rfl rfl HR2.out (src_rb HX.out) (Nat.le_trans hb HB.out.size) HZ.out ?_; intro A6 c6 w6 hr6 hb6; have R6 := Lib.hid hr6; have B6 := Lib.hid ((Grw.ofBelow HB.out A).trans hb6); clear hr6 hb6)
      go_ret2
      rw [HD.out]
      refine ⟨A6, c6, ?_, R6.out, B6.out⟩
      first | rfl | (rw [show (l ++ ds).length = l.length + ds.length from List.length_append ..]; rfl)
    · have hat := hex_at (k % 16) (Nat.mod_lt _ (by decide))
      have i1 : ¬ (k : Int) < 16 := by omega
      have ea := and15 k hk
      have hc0 := H.out.2.1.c m (by rw [digV_len]; omega)
      have hf0 := H.out.2.1.free m (by rw [digV_len]; omega)
      generalize (digV (m + 1) s)[m]'(by rw [digV_len]; omega) = z0 at *
      go_wp2_with fail
      go_roundw
      case rel =>
        refine ⟨k / 16, m, dgt (k % 16) :: s, by go_num, rfl, by rw [List.length_cons]; omega, by omega, ?_, ?_, ?_, ?_⟩
        · rw [List.length_cons]
          rcases HS.out with h0 | ⟨h0, h1⟩ | ⟨h0, h1⟩
          · exact .inr (.inl ⟨by omega, by omega⟩)
          · exact .inr (.inr ⟨by omega, by omega⟩)
          · omega
        · rw [H.out.1, digs16_step hlt hk, List.append_assoc]; rfl
        · have hcs := H.out.2.1.set m (by rw [digV_len]; omega) (.int .u8 ((dgt (k % 16)).toNat : Int))
          rw [digV_set] at hcs
          exact hcs
        · exact H.out.2.2.setCell (p := ⟨w.heap.size, m, none⟩) (Nat.le_refl _) _
      case measure => simp [intOf]; omega
/-- what appending a number leaves -/
def PutP (A0 : Option Addr) (l : List UInt8) (base : Nat) (w : World) (e : Ending) (w' : World) : Prop := ∃ (A : Option Addr) (c : Nat), e = .returned (.slice A l.length c) ∧ RowG w' base A c l ∧ Grw w w' A0 A
set_option maxRecDepth 100000 in
theorem appendUint_any (base : Nat) (A : Option Addr) (c : Nat) (l : List UInt8) (n : Nat) (w : World) (h : RowG w base A c l) (hn : n < 4096) (hl : l.length ≤ 100000000) (hb : base ≤ w.heap.size) (hG : Gl w) :
    Calls Tryz.prog 71 #[.slice A l.length c, .int .u64 n, .int .i64 16] w (PutP A (l ++ digs 16 n) base w) := by
  have C := Lib.hid (formatBits_any base A c l n w h hn hl hb hG)
  clear h hG
  generalize l ++ digs 16 n = r at *
  go_enter Tryz.func71, Tryz.ntmps71
  go_wp2_with fail
  go_at_call 88
  refine C.out.mono ?_
  rintro e w2 ⟨A2, c2, rfl, hr, hb2⟩
  have HR := Lib.hid hr
  have HB := Lib.hid hb2
  clear hr hb2 C
  go_wp2_with fail
  go_ret
  exact ⟨A2, c2, rfl, HR.out, HB.out⟩
set_option maxRecDepth 100000 in
theorem appendInt_in (base : Nat) (A : Option Addr) (c : Nat) (l : List UInt8) (n : Nat) (w : World) (h : RowG w base A c l) (hn : n < 4096) (hl : l.length ≤ 100000000) (hb : base ≤ w.heap.size) (hG : Gl w) :
    Calls Tryz.prog 55 #[.slice A l.length c, .int .i64 n, .int .i64 16] w (PutP A (l ++ digs 16 n) base w) := by
  have C := Lib.hid (appendUint_any base A c l n w h hn hl hb hG)
  have hw : IntKind.u64.wrap (n : Int) = n := by rw [IntKind.wrap_u64]; omega
  have i1 : ¬ (n : Int) < 0 := by omega
  clear h hG
  generalize l ++ digs 16 n = r at *
  go_enter Tryz.func55, Tryz.ntmps55
  go_wp2_with fail
  go_at_call 71
  refine C.out.mono ?_
  rintro e w2 ⟨A2, c2, rfl, hr, hb2⟩
  have HR := Lib.hid hr
  have HB := Lib.hid hb2
  clear hr hb2 C
  go_wp2_with fail
  go_ret
  exact ⟨A2, c2, rfl, HR.out, HB.out⟩
set_option maxRecDepth 100000 in
theorem appendInt_any (base : Nat) (A : Option Addr) (c : Nat) (l : List UInt8) (n : Nat) (w : World) (h : RowG w base A c l) (hn : n < 4096) (hl : l.length ≤ 100000000) (hb : base ≤ w.heap.size) (hG : Gl w) :
    Calls Tryz.prog 28 #[.slice A l.length c, .int .i64 n, .int .i64 16] w (PutP A (l ++ digs 16 n) base w) := by
  have C := Lib.hid (appendInt_in base A c l n w h hn hl hb hG)
  clear h hG
  generalize l ++ digs 16 n = r at *
  go_enter Tryz.func28, Tryz.ntmps28
  go_wp2_with fail
  go_at_call 55
  refine C.out.mono ?_
  rintro e w2 ⟨A2, c2, rfl, hr, hb2⟩
  have HR := Lib.hid hr
  have HB := Lib.hid hb2
  clear hr hb2 C
  go_wp2_with fail
  go_ret
  exact ⟨A2, c2, rfl, HR.out, HB.out⟩
end Go.Proofs.YthniggdimfldhaaGreatDoor
namespace Go.Proofs.YthniggdimfldhaaGreatDoor
open Go Go.RowKit Go.Shelf
attribute [local go_sem] Oper.semAt_some

/-- A body's pieces, the empty one that ends them among them. -/
def piecesL : Nat → Nat → List UInt8 → List (List UInt8)
  | 0, _, _ => []
  | _ + 1, _, [] => [[]]
  | f + 1, n, c :: b => (c :: b).take n :: piecesL f n ((c :: b).drop n)
def pieceB (z : List UInt8) : List UInt8 := digs 16 z.length ++ [13, 10] ++ z ++ [13, 10]
theorem pieces_chunk : ∀ (f n : Nat) (b : List UInt8), (piecesL f n b).flatMap pieceB = chunkL f n b
  | 0, _, _ => by simp [piecesL, chunkL]
  | f + 1, n, [] => by simp [piecesL, chunkL]; rfl
  | f + 1, n, c :: b => by
    rw [piecesL, chunkL, List.flatMap_cons, pieces_chunk f n]
    rfl
theorem pieces_nil (f n : Nat) : piecesL (f + 1) n [] = [[]] := by rw [piecesL]
theorem pieces_cons (f n : Nat) {r : List UInt8} (h : r ≠ []) : piecesL (f + 1) n r = r.take n :: piecesL f n (r.drop n) := by
  cases r with
  | nil => exact absurd rfl h
  | cons c b => rw [piecesL]
theorem pieces_len : ∀ (f n : Nat) (b : List UInt8), (piecesL f n b).length ≤ f
  | 0, _, _ => by simp [piecesL]
  | f + 1, n, [] => by simp [piecesL]
  | f + 1, n, c :: b => by
    rw [piecesL, List.length_cons]
    have := pieces_len f n ((c :: b).drop n)
    omega
/-- A slice of a body: address, capacity, bytes. -/
abbrev Pc := Option Addr × Nat × List UInt8
structure OkC (A : Option Addr) (body : List UInt8) (p : Pc) : Prop where
  cap : p.2.2.length ≤ p.2.1
  nil : p.1 = none → p.2.1 = 0
  few : p.2.2.length ≤ 2000
  at_ : ∀ i (hi : i < p.2.2.length), ∃ b off o, A = some ⟨b, off, none⟩ ∧ p.1 = some ⟨b, off + o, none⟩ ∧ ∃ h : o + i < body.length, body[o + i] = p.2.2[i]
abbrev PcE (A : Option Addr) (body : List UInt8) := { p : Pc // OkC A body p }
theorem OkC.rb {A : Option Addr} {c : Nat} {body : List UInt8} {p : Pc} (h : OkC A body p) {D : Nat} {w : World} (hb : Rb D w A c body) : Rb D w p.1 p.2.1 p.2.2 :=
  ⟨h.cap, h.nil, fun i hi => by
    obtain ⟨b, off, o, e, ep, hl, hv⟩ := h.at_ i hi
    obtain ⟨b', off', e', hlt, hc⟩ := hb.rd (o + i) hl
    cases e.symm.trans e'
    exact ⟨b, off + o, ep, hlt, by rw [Nat.add_assoc, hc, hv]⟩⟩
theorem OkC.whole {D : Nat} {w : World} {A : Option Addr} {c : Nat} {body : List UInt8} (h : Rb D w A c body) (hl : body.length ≤ 2000) : OkC A body (A, c, body) :=
  ⟨h.cap, h.nil, hl, fun i hi => by
    obtain ⟨b, off, e, _, _⟩ := h.rd i hi
    exact ⟨b, off, 0, e, e, by have hi' : i < body.length := hi; omega, by simp⟩⟩
theorem OkC.take {A : Option Addr} {body : List UInt8} {p : Pc} (h : OkC A body p) (k : Nat) : OkC A body (p.1, p.2.1, p.2.2.take k) := by
  have hl : (p.2.2.take k).length ≤ p.2.2.length := by rw [List.length_take]; omega
  refine ⟨Nat.le_trans hl h.cap, h.nil, Nat.le_trans hl h.few, fun i hi => ?_⟩
  obtain ⟨b, off, o, e, ep, hl', hv⟩ := h.at_ i (Nat.lt_of_lt_of_le hi hl)
  exact ⟨b, off, o, e, ep, hl', by rw [hv]; show _ = (p.2.2.take k)[i]; rw [List.getElem_take]⟩
theorem OkC.drop {A : Option Addr} {body : List UInt8} {p : Pc} (h : OkC A body p) (k : Nat) (hk : k ≤ p.2.2.length) : OkC A body (if p.2.1 = k then p.1 else p.1.map fun a => a.add k, p.2.1 - k, p.2.2.drop k) := by
  have hc := h.cap
  have hf := h.few
  refine ⟨by show (p.2.2.drop k).length ≤ p.2.1 - k; rw [List.length_drop]; omega, fun e => ?_, by show (p.2.2.drop k).length ≤ 2000; rw [List.length_drop]; omega, fun i hi => ?_⟩
  · show p.2.1 - k = 0
    dsimp only at e
    split at e
    · omega
    · have := h.nil (by simpa using e)
      omega
  · have hi' : i < (p.2.2.drop k).length := hi
    rw [List.length_drop] at hi'
    obtain ⟨b, off, o, e, ep, hl', hv⟩ := h.at_ (k + i) (by omega)
    refine ⟨b, off, o + k, e, ?_, by omega, ?_⟩
    · show (if p.2.1 = k then p.1 else p.1.map fun a => a.add k) = _
      rw [if_neg (by omega), ep, Option.map_some, add_pl, Nat.add_assoc]
    · show _ = (p.2.2.drop k)[i]
      rw [List.getElem_drop, ← hv]
      congr 1
      omega
def encC {A : Option Addr} {body : List UInt8} (x : PcE A body) : Array Value := #[.slice x.1.1 x.1.2.2.length x.1.2.1]
def unC {A : Option Addr} {body : List UInt8} (l : List (PcE A body)) : List (List UInt8) := l.map fun x => x.1.2.2
theorem unC_snoc {A : Option Addr} {body : List UInt8} (l : List (PcE A body)) (x : PcE A body) : unC (l ++ [x]) = unC l ++ [x.1.2.2] := by simp [unC]
theorem unC_len {A : Option Addr} {body : List UInt8} (l : List (PcE A body)) : (unC l).length = l.length := List.length_map _
/-- What stands in memory while chunks are gone through: the body's box and the size's, in blocks of 'S'. -/
structure ChSt (S : Nat → Prop) (Bb Bs : Nat) (A : Option Addr) (c : Nat) (body : List UInt8) (n : Nat) (W : World) : Prop where
  le : ∀ k, S k → k < W.heap.size
  l1 : S Bb
  l2 : S Bs
  bb : W.cell? ⟨Bb, 0, none⟩ = some (.slice A body.length c)
  bs : W.cell? ⟨Bs, 0, none⟩ = some (.int .i64 n)
theorem ChSt.below {S : Nat → Prop} {Bb Bs : Nat} {A : Option Addr} {c : Nat} {body : List UInt8} {n : Nat} {W W' : World} (h : ChSt S Bb Bs A c body n W) (hb : KeptOn S W W') : ChSt S Bb Bs A c body n W' :=
  ⟨fun k hk => Nat.lt_of_lt_of_le (h.le k hk) hb.size, h.l1, h.l2, (keptOn_cell hb h.l1 (h.le _ h.l1) 0).trans h.bb, (keptOn_cell hb h.l2 (h.le _ h.l2) 0).trans h.bs⟩
theorem ChSt.fresh {S : Nat → Prop} {Bb Bs : Nat} {A : Option Addr} {c : Nat} {body : List UInt8} {n : Nat} {W W' : World} (h : ChSt S Bb Bs A c body n W) (hb : Below W.heap.size W W') : ChSt S Bb Bs A c body n W' := h.below (keptOn_new hb)
def lenOf : Value → Nat
  | .slice _ n _ => n
  | _ => 0
set_option maxRecDepth 100000 in
set_option maxHeartbeats 2000000 in
theorem chunks1_in (n : Nat) (hn : 1 ≤ n) (l Bb Bs : Nat) (S : Nat → Prop) (A : Option Addr) (c : Nat) (body : List UInt8) (sz : Nat) (hsz : 1 ≤ sz) (hsz2 : sz ≤ 4095) (F : Nat) (hF : body.length < F) (hok : OkC A body (A, c, body))
    (J Jx : List (PcE A body) → World → Prop) (W : World)
    (hY : ∀ pre x W, J pre W → pre.length < (piecesL F sz body).length → YieldAt Fence.wide (n - 1) Tryz.prog l (encC x) W fun e W' =>
      (e = .returned (.bool true) ∧ J (pre ++ [x]) W' ∧ KeptOn S W W') ∨ (e = .returned (.bool false) ∧ Jx (pre ++ [x]) W'))
    (hst : ChSt S Bb Bs A c body sz W) (h0 : J [] W) :
    CallsIn Fence.wide n Tryz.prog 54 #[.func (.yield l) #[] #[], .pointer (some ⟨Bb, 0, none⟩), .pointer (some ⟨Bs, 0, none⟩)] W fun e W' => (∃ v, e = .returned v) ∧
      ((∃ ys, unC ys = piecesL F sz body ∧ J ys W') ∨ (∃ pre, unC pre <+: piecesL F sz body ∧ Jx pre W')) := by
  have HY := Lib.hid hY
  have HOK := Lib.hid hok
  have HF := Lib.hid hF
  clear hY hok hF
  have hbb := hst.bb
  refine callsIn_of_wp Tryz.func54 rfl trivial ?_ rfl
  simp only [Tryz.ntmps54, List.size_toArray, List.length_cons, List.length_nil, Nat.reduceAdd, Nat.reduceSub, Array.replicate_succ, Array.replicate_zero, List.push_toArray, List.append_toArray, List.nil_append, List.cons_append]
  gi_wp2
  gi_loopw [4] (fun v wr => ∃ (Ar : Option Addr) (cr : Nat) (r : List UInt8) (f : Nat) (pre : List (PcE A body)), v = .slice Ar r.length cr ∧ ChSt S Bb Bs A c body sz wr ∧ J pre wr ∧ Hid (OkC A body (Ar, cr, r) ∧ unC pre ++ piecesL f sz r = piecesL F sz body ∧ r.length < f))
    (fun v _ => lenOf v)
  case atStart =>
    exact ⟨A, c, body, F, [], rfl, hst, h0, HOK.out, rfl, HF.out⟩
  case round =>
    obtain ⟨Ar, cr, r, f, pre, rfl, hs, hJ, H⟩ := hrel
    obtain ⟨f, rfl⟩ : ∃ f', f = f' + 1 := ⟨f - 1, by have := H.out.2.2; omega⟩
    clear hbb
    have hbs := hs.bs
    have hcap : r.length ≤ cr := H.out.1.cap
    have hfew : r.length ≤ 2000 := H.out.1.few
    cases r with
    | nil =>
      have HE : Hid (unC pre ++ [[]] = piecesL F sz body) := by have := H.out.2.1; rw [pieces_nil] at this; exact this
      have hlen : pre.length < (piecesL F sz body).length := by rw [← HE.out, List.length_append, unC_len]; simp
      have HY2 := Lib.hid (HY.out pre ⟨(Ar, cr, []), H.out.1⟩ wr hJ hlen)
      have HU : Hid (unC (pre ++ [⟨(Ar, cr, []), H.out.1⟩]) = piecesL F sz body) := by show _ = _; rw [unC_snoc]; exact HE.out
      have n0 : (min (sz : Int) 0).toNat = 0 := by omega
      obtain ⟨fn, tmps, assign, cd, hy, hR⟩ := HY2.out
      dsimp only [encC, List.length_nil] at hy
      have HR := Lib.hid hR
      clear hlen HY2 hR hJ
      gi_wp2
      refine HR.out.mono ?_
      rintro e w4 (⟨rfl, hJ4, hk4⟩ | ⟨rfl, hJx⟩)
      · gi_wp2
        refine bodyPost_ret (results_none rfl _ _ _) rfl ?_
        exact ⟨⟨_, rfl⟩, .inl ⟨_, HU.out, hJ4⟩⟩
      · gi_wp2
        refine bodyPost_ret (results_none rfl _ _ _) rfl ?_
        exact ⟨⟨_, rfl⟩, .inr ⟨_, by rw [HU.out]; exact List.prefix_refl _, hJx⟩⟩
    | cons y r =>
      generalize hrr : y :: r = rr at *
      have hne : rr ≠ [] := by rw [← hrr]; exact List.cons_ne_nil _ _
      have hpos : 0 < rr.length := List.length_pos_iff.2 hne
      clear hrr y r
      have HE : Hid (unC pre ++ [rr.take sz] ++ piecesL f sz (rr.drop sz) = piecesL F sz body) := by
        have := H.out.2.1
        rw [pieces_cons _ _ hne] at this
        show _ = _
        rw [← this, List.append_assoc]
        rfl
      have hlen : pre.length < (piecesL F sz body).length := by rw [← HE.out, List.length_append, List.length_append, unC_len]; simp; omega
      have hk1 : (min (sz : Int) (rr.length : Int)).toNat = (rr.take sz).length := by rw [List.length_take]; omega
      have hk2 : (min (sz : Int) (rr.length : Int)) ≤ (cr : Int) := by omega
      have hk3 : (0 : Int) ≤ (min (sz : Int) (rr.length : Int)) := by omega
      have HY2 := Lib.hid (HY.out pre ⟨(Ar, cr, rr.take sz), H.out.1.take sz⟩ wr hJ hlen)
      have HU : Hid (unC (pre ++ [⟨(Ar, cr, rr.take sz), H.out.1.take sz⟩]) = unC pre ++ [rr.take sz]) := unC_snoc _ _
      obtain ⟨fn, tmps, assign, cd, hy, hR⟩ := HY2.out
      dsimp only [encC] at hy
      have HR := Lib.hid hR
      clear hlen HY2 hR hJ
      have hm0 : (rr.take sz).length ≠ 0 := by rw [List.length_take]; omega
      have hdr : rr.drop (rr.take sz).length = rr.drop sz := by
        rw [List.length_take]
        by_cases h : sz ≤ rr.length
        · rw [Nat.min_eq_left h]
        · rw [Nat.min_eq_right (by omega), List.drop_of_length_le (Nat.le_refl _), List.drop_of_length_le (by omega)]
      have HDR : Hid (OkC A body (if cr = (rr.take sz).length then Ar else Ar.map fun a => a.add (rr.take sz).length, cr - (rr.take sz).length, rr.drop sz)) := by
        have := H.out.1.drop (rr.take sz).length (by show _ ≤ rr.length; rw [List.length_take]; omega)
        dsimp only at this
        rw [hdr] at this
        exact this
      have hdl : (rr.drop sz).length = rr.length - (rr.take sz).length := by rw [List.length_drop, List.length_take]; omega
      have hml : (rr.take sz).length ≤ rr.length := by rw [List.length_take]; omega
      have HFL : Hid ((rr.drop sz).length < f) := by have := H.out.2.2; show _ < _; rw [List.length_drop]; omega
      generalize hm : (rr.take sz).length = m at *
      gi_wp2
      refine HR.out.mono ?_
      rintro e w4 (⟨rfl, hJ4, hk4⟩ | ⟨rfl, hJx⟩)
      · gi_wp2
        go_roundw
        case rel =>
          refine ⟨if cr = m then Ar else Ar.map fun a => a.add m, cr - m, rr.drop sz, f, _, by rw [hdl], hs.below hk4, hJ4, HDR.out, ?_, HFL.out⟩
          rw [HU.out]
          exact HE.out
        case measure => show rr.length - m < rr.length; omega
      · gi_wp2
        refine bodyPost_ret (results_none rfl _ _ _) rfl ?_
        exact ⟨⟨_, rfl⟩, .inr ⟨_, by rw [HU.out]; exact ⟨_, HE.out⟩, hJx⟩⟩
/-- The range function: all pieces, in order; or a part of them, if a round says so. -/
theorem chunks_stops (n : Nat) (hn : 1 ≤ n) (Bb Bs : Nat) (S : Nat → Prop) (A : Option Addr) (c : Nat) (body : List UInt8) (sz : Nat) (hsz : 1 ≤ sz) (hsz2 : sz ≤ 4095) (F : Nat) (hF : body.length < F) (hok : OkC A body (A, c, body))
    (w : World) (hst : ChSt S Bb Bs A c body sz w) :
    SeqStopsK Fence.wide n Tryz.prog 54 #[.pointer (some ⟨Bb, 0, none⟩), .pointer (some ⟨Bs, 0, none⟩)] (encC (A := A) (body := body)) (KeptOn S) (fun ys => unC ys = piecesL F sz body) (fun pre => unC pre <+: piecesL F sz body) (piecesL F sz body).length w := fun l J Jx W hW _ _ hY h0 =>
  chunks1_in n hn l Bb Bs S A c body sz hsz hsz2 F hF hok J Jx W hY (hst.fresh hW) h0
set_option maxRecDepth 100000 in
theorem chunks_any (A : Option Addr) (n c : Nat) (sz : Int) (w : World) : Calls Tryz.prog 27 #[.slice A n c, .int .i64 sz] w fun e w' =>
    e = .returned (.func (.func 54) #[] #[.pointer (some ⟨w.heap.size, 0, none⟩), .pointer (some ⟨w.heap.size + 1, 0, none⟩)]) ∧
      w' = (w.alloc (.cells #[.slice A n c] 23)).alloc (.cells #[.int .i64 sz] 3) := by
  go_enter Tryz.func27, Tryz.ntmps27
  go_wp2
  go_ret
  exact ⟨rfl, rfl⟩
set_option maxRecDepth 100000 in
theorem eg_chunks : ∀ args w, (callFunc 54 args).run Tryz.prog w = .ok (.enter 54 args) w := enters_of Tryz.func54 (by kernel_rfl) rfl
end Go.Proofs.YthniggdimfldhaaGreatDoor
namespace Go.Proofs.YthniggdimfldhaaGreatDoor
open Go Go.RowKit Go.Shelf
attribute [local go_sem] Oper.semAt_some

theorem RowG.cells {W : World} {base g c : Nat} {l : List UInt8} (h : RowG W base (some ⟨g, 0, none⟩) c l) (hc : 0 < c) : ∀ o, W.heap[g]? = some o → o.isCells = true := fun o ho => by
  rcases h.at_ with ⟨e, _⟩ | ⟨g', e, _, _, hq, _⟩
  · cases e
  · injection e with e
    injection e with e
    subst e
    have := (hq 0 hc).1
    unfold World.cell? at this
    rw [ho] at this
    cases o <;> first | rfl | simp at this
theorem wpListIn_pushGg {F : Fence} {fu : Nat} {ops : Array Oper} {rest : List Oper} {o : Oper} {a : Act} {Q : Exit → Act → World → Prop} (hgd : o.guard = none) (s x : Operand) (tx : TypeId)
    (ho : o.op = .call { callee := .builtin .append, args := #[s, x], argTypes := #[23, tx] }) (w : World) (base : Nat) (A : Option Addr) (c n m : Nat) (l z : List UInt8) (xv : Value) (hn : l.length = n) (hm : z.length = m)
    (hs : a.eval s = .slice A n c) (hx : a.eval x = xv) (h : RowG w base A c l) (hsrc : Src Tryz.prog 1 tx xv z.length (Lib.byteCells z) w) (hbase : base ≤ w.heap.size) (hlen : n + m ≤ 140737488355328)
    (hk : ∀ (A' : Option Addr) (c' : Nat) w', RowG w' base A' c' (l ++ z) → Grw w w' A A' → wpListIn F fu Tryz.prog ops Q rest (a.put o.dst (.slice A' (n + m) c')) w') :
    wpListIn F fu Tryz.prog ops Q (o :: rest) a w := by
  subst hn hm
  refine wpListIn_plain hgd fun K hK => ?_
  obtain ⟨A', c', w', hr, h2, h3, h4, h5⟩ := run_pushG w base o.type tx A c l z xv h hsrc hbase hlen
  unfold Oper.wpIn
  refine ⟨?_, ?_⟩
  · simp [Oper.about, ho, resolve, Target.leads, Sem.run_pure]
  · rw [Oper.semAt_plain F _ _ (by rw [ho]; intro c hc'; cases hc')]
    simp [execOp, ho, resolve, invoke, builtin, hs, hx, hr, Result.andThen]
    exact hK _ _ (hk A' c' w' h2 ⟨h3.os, h3.tape, h3.output, h3.size, h4, h5⟩)
/-- What a loop over chunks keeps: the blocks of the call's beginning, the boxes of the body and of the size. -/
def SK (g0 gb : Nat) (k : Nat) : Prop := k < g0 ∨ k = gb + 1 ∨ k = gb + 2
/-- The bytes that are being written: their box, their row. -/
structure CkS (g0 gb : Nat) (w W : World) (A : Option Addr) (c : Nat) (l : List UInt8) : Prop where
  box : Boxed W gb 23 (.slice A l.length c)
  row : RowG W g0 A c l
  ne : ∀ g, A = some ⟨g, 0, none⟩ → g ≠ gb ∧ g ≠ gb + 1 ∧ g ≠ gb + 2
  bel : Below g0 w W
  sz : gb + 3 ≤ W.heap.size
  pos : 0 < l.length
  gb : g0 ≤ gb
theorem CkS.next {g0 gb : Nat} {w W W' : World} {A A' : Option Addr} {c c' : Nat} {l l' : List UInt8} (h : CkS g0 gb w W A c l) (hg : Grw W W' A A') (hr : RowG W' g0 A' c' l') (hp : 0 < l'.length) :
    CkS g0 gb w (W'.setCell ⟨gb, 0, none⟩ (.slice A' l'.length c')) A' c' l' ∧ KeepsFrom (gb + 3) W (W'.setCell ⟨gb, 0, none⟩ (.slice A' l'.length c')) ∧ KeptOn (SK g0 gb) W (W'.setCell ⟨gb, 0, none⟩ (.slice A' l'.length c')) := by
  have hsz := h.sz
  have hgb := h.gb
  have hne' : ∀ g, A' = some ⟨g, 0, none⟩ → g ≠ gb ∧ g ≠ gb + 1 ∧ g ≠ gb + 2 := fun g e => by
    rcases hg.adr with e1 | ⟨q, hq, e1⟩
    · exact h.ne g (e1.symm.trans e)
    · rw [e1] at e
      injection e with e
      injection e with e
      omega
  have hbx : Boxed W' gb 23 (.slice A l.length c) := (hg.block gb (by omega) fun e => (h.ne gb e).1 rfl).trans h.box
  have hb' : Below g0 w W' := h.bel.trans (hg.below h.row (by have := h.bel.size; omega))
  have hss : (W'.setCell ⟨gb, 0, none⟩ (.slice A' l'.length c')).heap.size = W'.heap.size := by simp [World.setCell]
  have hcc : 0 < c := Nat.lt_of_lt_of_le h.pos h.row.le
  refine ⟨⟨hbx.set _, hr.keep (by rw [hss]; exact Nat.le_refl _) fun g e => Below.heap_setCell _ _ _ _ (hne' g e).1, hne', hb'.setCell (p := ⟨gb, 0, none⟩) hgb _, by rw [hss]; exact Nat.le_trans hsz hg.size, hp, hgb⟩, ⟨by rw [hss]; exact hg.size, fun k o hk ho hoc => ?_⟩, ⟨by rw [hss]; exact hg.size, fun k hk hkl => ?_⟩⟩
  · have hkl : k < W.heap.size := (Array.getElem?_eq_some_iff.1 ho).1
    refine (Below.heap_setCell _ _ _ _ (show k ≠ gb by omega)).trans ((hg.block k hkl fun e => ?_).trans ho)
    have hrow := h.row
    rw [e] at hrow
    rw [hrow.cells hcc o ho] at hoc
    cases hoc
  · refine (Below.heap_setCell _ _ _ _ (show k ≠ gb from ?_)).trans (hg.block k hkl fun e => ?_)
    · rcases hk with hk | hk | hk <;> omega
    · have h1 := h.ne k e
      have h2 := h.row.lt e
      rcases hk with hk | hk | hk <;> omega
theorem CkS.boxed {g0 gb : Nat} {w W W' : World} {A A' : Option Addr} {c : Nat} {l : List UInt8} (h : CkS g0 gb w W A c l) (hg : Grw W W' A A') : Boxed W' gb 23 (.slice A l.length c) :=
  (hg.block gb (by have := h.sz; omega) fun e => (h.ne gb e).1 rfl).trans h.box
theorem CkS.step {g0 gb : Nat} {w W W' : World} {A A' : Option Addr} {c c' n' : Nat} {l l' : List UInt8} (h : CkS g0 gb w W A c l) (hg : Grw W W' A A') (hr : RowG W' g0 A' c' l') (hp : 0 < l'.length) (hn : l'.length = n') :
    CkS g0 gb w (W'.setCell ⟨gb, 0, none⟩ (.slice A' n' c')) A' c' l' ∧ KeepsFrom (gb + 3) W (W'.setCell ⟨gb, 0, none⟩ (.slice A' n' c')) ∧ KeptOn (SK g0 gb) W (W'.setCell ⟨gb, 0, none⟩ (.slice A' n' c')) := by
  subst hn
  exact h.next hg hr hp
theorem ckS_from (g0 gb : Nat) (w : World) (hw : g0 ≤ w.heap.size) {β : Type} (f : β → List UInt8) : OwnFrom (gb + 3) (fun pre W => ∃ A c, CkS g0 gb w W A c (f pre)) := fun pre X Y row ⟨A, c, h⟩ hg hrow => by
  have hnr : ∀ r, row = some r → gb + 3 ≤ r := fun r e => (hrow r e).1
  have hcc : 0 < c := Nat.lt_of_lt_of_le h.pos h.row.le
  refine ⟨A, c, h.box.kept hg (fun e => by have := hnr gb e.symm; omega), h.row.keep hg.size fun g e => hg.block g (h.row.lt e).2 fun er => ?_, h.ne, ?_, Nat.le_trans h.sz hg.size, h.pos, h.gb⟩
  · obtain ⟨_, o, ho, hoc⟩ := hrow g er.symm
    have hr := h.row
    rw [e] at hr
    rw [hr.cells hcc o ho] at hoc
    cases hoc
  · exact ownFrom_below (β := Unit) hw (by have := h.gb; omega) () X Y row h.bel hg hrow
theorem row_put {g0 gb : Nat} {w W : World} {A : Option Addr} {c D : Nat} {l : List UInt8} {o : Obj} (h : CkS g0 gb w W A c l) (hD : W.heap[D]? = some o) (ho : o.isCells = false) (o' : Obj) : RowG (W.putObj D o') g0 A c l :=
  h.row.keep (by simp) fun g e => World.putObj_heap_other fun eq => by
    have hr := h.row
    rw [e] at hr
    have hcc : 0 < c := Nat.lt_of_lt_of_le h.pos h.row.le
    have := hr.cells hcc o (by rw [← hD]; congr 1)
    rw [ho] at this
    cases this
theorem chunk_open (m : Msg) (n : Nat) : chunkB m n = openB m nTE sChunked ++ (piecesL (m.body.length + 1) n m.body).flatMap pieceB := by
  rw [pieces_chunk]
  unfold chunkB openB teH
  simp
theorem open_pos (m : Msg) (N V : List UInt8) : 0 < (openB m N V).length := by unfold openB; simp only [List.length_append, List.length_cons]; omega
theorem piece_len (z : List UInt8) (h : z.length ≤ 2000) : (pieceB z).length ≤ 2010 := by
  unfold pieceB
  have := digs_len 16 z.length
  simp only [List.length_append, List.length_cons, List.length_nil]
  omega
theorem pieces_bytes {A : Option Addr} {body : List UInt8} : ∀ l : List (PcE A body), ((unC l).flatMap pieceB).length ≤ l.length * 2010
  | [] => by simp [unC]
  | x :: l => by
    have h1 := pieces_bytes l
    have h2 := piece_len x.1.2.2 x.2.few
    unfold unC at h1 ⊢
    rw [List.map_cons, List.flatMap_cons, List.length_append, List.length_cons]
    omega
theorem te_len : (nTE).length ≤ 1000 := by decide
theorem sch_len : (sChunked).length ≤ 1000 := by decide
set_option maxRecDepth 100000 in
set_option maxHeartbeats 2000000 in
theorem chunked_ok (m : Msg) (hV : Value) (Ab : Option Addr) (cb : Nat) (sz : Nat) (h1 : 1 ≤ sz) (h2 : sz ≤ 4095) (w : World) (h : MsgV w m hV Ab cb) (hG : Gl w) (hok : okM m = true) :
    Calls Tryz.prog 7 #[.agg #[.string ⟨m.meth.toArray⟩, .string ⟨m.path.toArray⟩, .int .i64 m.status, hV, .slice Ab m.body.length cb], .int .i64 sz] w fun e w' =>
      Below w.heap.size w w' ∧ (if (chunkB m sz).length ≤ 8192 then ∃ (A : Option Addr) (c : Nat), e = .returned (.tuple #[.slice A (chunkB m sz).length c, .int .i64 0]) ∧ RowG w' w.heap.size A c (chunkB m sz) else e = .returned (.tuple #[.slice none 0 0, .int .i64 5])) := by
  have hb := below_new w (.cells #[.string ⟨m.meth.toArray⟩, .string ⟨m.path.toArray⟩, .int .i64 m.status, hV, .slice Ab m.body.length cb] 25)
  have C1 := check_msg m hV Ab cb _ (h.hs.below hb) h.sm h.pl (hG.fresh hb)
  rw [hok, if_pos rfl] at C1
  have C1 := Lib.hid C1
  have CS := Lib.hid (box_cs w m.meth m.path m.status hV (.slice Ab m.body.length cb))
  have C2 := Lib.hid fun w' (hb : Below w.heap.size w w') => opening_any m hV Ab cb nTE sChunked w' (h.below hb) (hG.fresh hb) hok te_len sch_len
  have B1 := Lib.hid hb
  have HR := Lib.hid h.rb
  have HG := Lib.hid fun w' (h : Below w.heap.size w w') => hG.fresh h
  have HOL := Lib.hid (open_len hok te_len sch_len)
  have HOP := Lib.hid (open_pos m nTE sChunked)
  have HBL := Lib.hid (ok_body hok)
  have HCO := Lib.hid (chunk_open m sz)
  have i1 : ¬ ((sz : Int) < 1) := by omega
  have i2 : ¬ ((4095 : Int) < (sz : Int)) := by omega
  have j1 : decide ((sz : Int) < 1) = false := decide_eq_false i1
  have j2 : decide ((4095 : Int) < (sz : Int)) = false := decide_eq_false i2
  clear hb h hG hok
  generalize chunkB m sz = cbB at *
  unfold nTE sChunked at *
  generalize openB m _ _ = ob at *
  generalize m.meth = a at *
  generalize m.path = p at *
  generalize m.status = st at *
  generalize m.body = bd at *
  refine (callsIn_wide (n := 9)).1 (callsIn_of_wp_marks Tryz.func7 rfl trivial ?_ rfl)
  simp only [Tryz.ntmps7, List.size_toArray, List.length_cons, List.length_nil, Nat.reduceAdd, Nat.reduceSub, Array.replicate_succ, Array.replicate_zero, List.push_toArray, List.append_toArray, List.nil_append, List.cons_append]
  gi_wp2
  generalize w.alloc (.cells #[.string ⟨a.toArray⟩, .string ⟨p.toArray⟩, .int .i64 st, hV, .slice Ab bd.length cb] 25) = w1 at *
  refine ⟨trivial, (callsIn_wide.2 C1.out).mono ?_⟩
  rintro e w2 ⟨rfl, hb2⟩
  have B2 := Lib.hid (Below.trans B1.out (hb2.mono B1.out.size))
  have CS2 := Lib.hid (CS.out.below hb2)
  have d0 := CS2.out.c 0 (by simp)
  have d1 := CS2.out.c 1 (by simp)
  have d2 := CS2.out.c 2 (by simp)
  have d3 := CS2.out.c 3 (by simp)
  have d4 := CS2.out.c 4 (by simp)
  clear hb2 C1 CS B1
  gi_wp2
  refine ⟨trivial, (callsIn_wide.2 (C2.out _ B2.out)).mono ?_⟩
  rintro e w3 ⟨A3, c3, rfl, hr3, hb3⟩
  have CS3 := Lib.hid (CS2.out.below hb3)
  have d4' := (CS3.out.below (below_new w3 (.cells #[.slice A3 ob.length c3] 23))).c 4 (by simp)
  have B3 := Lib.hid (Below.and B2.out hb3)
  have R3 := Lib.hid (hr3.up B2.out.size)
  have N3 : Hid (∀ q, A3 = some ⟨q, 0, none⟩ → q < w3.heap.size) := fun q e => (hr3.lt e).2
  clear d0 d1 d2 d3 d4 hr3 hb3 CS2 B2 C2
  gi_wp2
  refine ⟨trivial, (callsIn_wide.2 (chunks_any _ _ _ _ _)).mono ?_⟩
  rintro e w4 ⟨rfl, rfl⟩
  gi_wp2
  have hs5 : (((w3.alloc (.cells #[.slice A3 ob.length c3] 23)).alloc (.cells #[.slice Ab bd.length cb] 23)).alloc (.cells #[.int .i64 sz] 3)).heap.size = w3.heap.size + 3 := by simp
  have hb5 := Below.and (Below.and (below_new w3 (.cells #[.slice A3 ob.length c3] 23)) (below_new _ (.cells #[.slice Ab bd.length cb] 23))) (below_new _ (.cells #[.int .i64 sz] 3))
  have hck : CkS w.heap.size w3.heap.size w (((w3.alloc (.cells #[.slice A3 ob.length c3] 23)).alloc (.cells #[.slice Ab bd.length cb] 23)).alloc (.cells #[.int .i64 sz] 3)) A3 c3 ob :=
    ⟨((Boxed.new w3 _ _).alloc _).alloc _, R3.out.below hb5, fun q e => by have := N3.out q e; omega, B3.out.trans (hb5.mono B3.out.size), by rw [hs5]; exact Nat.le_refl _, HOP.out, B3.out.size⟩
  have e1 : (w3.alloc (.cells #[.slice A3 ob.length c3] 23)).heap.size = w3.heap.size + 1 := by simp
  have e2 : ((w3.alloc (.cells #[.slice A3 ob.length c3] 23)).alloc (.cells #[.slice Ab bd.length cb] 23)).heap.size = w3.heap.size + 1 + 1 := by simp
  have hst : ChSt (SK w.heap.size w3.heap.size) (w3.heap.size + 1) (w3.heap.size + 1 + 1) Ab cb bd sz (((w3.alloc (.cells #[.slice A3 ob.length c3] 23)).alloc (.cells #[.slice Ab bd.length cb] 23)).alloc (.cells #[.int .i64 sz] 3)) := by
    refine ⟨fun k hk => ?_, .inr (.inl rfl), .inr (.inr rfl), ?_, ?_⟩
    · rw [hs5]; have := B3.out.size; rcases hk with hk | hk | hk <;> omega
    · refine ((below_new _ _).cell (p := ⟨w3.heap.size + 1, 0, none⟩) (by show w3.heap.size + 1 < _; rw [e2]; omega)).trans ?_
      rw [World.cell?_alloc_at _ _ _ _ e1.symm]
      rfl
    · rw [World.cell?_alloc_at _ _ _ _ e2.symm]
      rfl
  have hkk : ∀ k, SK w.heap.size w3.heap.size k → k < w3.heap.size + 3 := fun k hk => by have := B3.out.size; rcases hk with hk | hk | hk <;> omega
  clear d4' e1 e2 hb5 N3 R3 CS3
  generalize ((w3.alloc (.cells #[.slice A3 ob.length c3] 23)).alloc (.cells #[.slice Ab bd.length cb] 23)).alloc (.cells #[.int .i64 sz] 3) = w5 at *
  generalize hgb : w3.heap.size = gb at *
  have hN : (piecesL (bd.length + 1) sz bd).length ≤ 2001 := by have := pieces_len (bd.length + 1) sz bd; have := HBL.out; omega
  have hOK : OkC Ab bd (Ab, cb, bd) := OkC.whole HR.out HBL.out
  refine wpIn_rangeFunc_ownH (α := PcE Ab bd) rfl (by omega) (gf := 54) (lb := #[.pointer (some ⟨gb + 1, 0, none⟩), .pointer (some ⟨gb + 1 + 1, 0, none⟩)]) rfl trivial eg_chunks
    (chunks_stops 8 (by omega) (gb + 1) (gb + 1 + 1) (SK w.heap.size gb) Ab cb bd sz h1 h2 (bd.length + 1) (Nat.lt_succ_self _) hOK w5 hst) KeptOn.trans (keptOn_put fun k hk => by rw [hs5]; exact hkk k hk) (Below.refl _ _) (fun _ => rfl)
    (fun pre W => ∃ A c, CkS w.heap.size gb w W A c (ob ++ (unC pre).flatMap pieceB))
    (fun _ _ _ => False)
    (by rw [hs5]; exact ckS_from w.heap.size gb w (Nat.le_refl _) _)
    (fun _ _ _ _ _ hs _ _ => hs)
    ⟨A3, c3, by rw [show (unC ([] : List (PcE Ab bd))).flatMap pieceB = [] from rfl, List.append_nil]; exact hck⟩
    (fun x a' W => a' = { tmps := #[.agg #[.string ⟨a.toArray⟩, .string ⟨p.toArray⟩, .int .i64 st, hV, .slice Ab bd.length cb], .int .i64 sz, .pointer (some ⟨w.heap.size, 0, none⟩), undef, .slice none 0 0, .int .i64 0, .pointer (some ⟨gb, 0, none⟩), .slice x.1.1 x.1.2.2.length x.1.2.1,
      .agg #[.string ⟨a.toArray⟩, .string ⟨p.toArray⟩, .int .i64 st, hV, .slice Ab bd.length cb], .int .i64 0, .bool false, .bool false, .int .i64 sz, .bool false, .bool false, .bool false, .int .i64 sz, .bool false, .bool false, .agg #[.string ⟨a.toArray⟩, .string ⟨p.toArray⟩, .int .i64 st, hV, .slice Ab bd.length cb],
      .slice A3 ob.length c3, .pointer (some ⟨w.heap.size, 4, none⟩), .slice Ab bd.length cb, .int .i64 sz, .func (.func 54) #[] #[.pointer (some ⟨gb + 1, 0, none⟩), .pointer (some ⟨gb + 1 + 1, 0, none⟩)], .slice x.1.1 x.1.2.2.length x.1.2.1,
      undef, undef, undef, undef, undef, undef, undef, undef, undef, undef, undef, undef, undef, undef, undef], defers := [] })
    (fun x a' _ X Y row e _ _ => e) ?assign ?body ?done ?stop
  case assign =>
    rintro l pre x W K hI hK
    unfold encC
    gi_wp2_with fail
    exact hK _ _ ⟨Nat.le_refl _, fun _ _ _ h _ => h⟩ (KeptOn.refl _ _) hI rfl
  case body =>
    rintro l pre ⟨⟨Ax, cx, z⟩, hx⟩ a' W _ _ ⟨A, c, hS⟩ rfl hlt
    dsimp only
    have hzl : z.length ≤ 2000 := hx.few
    have HX : Hid (OkC Ab bd (Ax, cx, z)) := hx
    have HL0 : Hid ((ob ++ (unC pre).flatMap pieceB).length ≤ 6000000) := by
      have := pieces_bytes pre
      have := HOL.out
      show _ ≤ _
      rw [List.length_append]
      omega
    have HE : Hid (ob ++ (unC (pre ++ [⟨(Ax, cx, z), hx⟩])).flatMap pieceB = (ob ++ (unC pre).flatMap pieceB) ++ digs 16 z.length ++ [13, 10] ++ z ++ [13, 10]) := by
      show _ = _
      rw [unC_snoc, List.flatMap_append, List.flatMap_singleton]
      unfold pieceB
      simp
    have HD : Hid ((digs 16 z.length).length ≤ 4) := (digs_len 16 z.length).2
    generalize ob ++ (unC pre).flatMap pieceB = l0 at *
    have S0 := Lib.hid hS
    have c0 := hS.box.cell
    have CA := Lib.hid (appendInt_any w.heap.size A c l0 z.length W hS.row (by omega) (Nat.le_trans HL0.out (by decide)) hS.bel.size (HG.out W hS.bel))
    clear hS
    gi_wp2
    refine ⟨trivial, (CallsIn.inRound l (callsIn_wide.2 CA.out)).mono ?_⟩
    rintro e W1 ⟨A1, c1, rfl, hr1, hg1⟩
    have HP1 : 0 < (l0 ++ digs 16 z.length).length := by rw [List.length_append]; have := S0.out.pos; omega
    have HL1 : Hid ((l0 ++ digs 16 z.length).length ≤ 6000004) := by show _ ≤ _; rw [List.length_append]; have := HL0.out; have := HD.out; omega
    have m1 := (S0.out.boxed hg1).cell
    have f1 := (S0.out.boxed hg1).frozen
    have T1 := Lib.hid (S0.out.step hg1 hr1 HP1 rfl)
    have S1 := Lib.hid T1.out.1
    clear hr1 hg1 c0 CA HP1
    generalize l0 ++ digs 16 z.length = l1 at *
    gi_wp2_with (first
      | (gi_at_builtin; refine wpListIn_pushGg rfl (.tmp 30) (.const (.string ⟨#[13, 10]⟩)) 9 rfl (W1.setCell ⟨gb, 0, none⟩ (.slice A1 l1.length c1)) w.heap.size A1 c1 l1.length 2 l1 [13, 10] (.string ⟨[13, 10].toArray⟩) rfl rfl rfl rfl S1.out.row (src_str _ [13, 10]) S1.out.bel.size (by have := HL1.out; omega) ?_; intro A2 c2 W2 hr2 hg2; have m2 := (S1.out.boxed hg2).cell; have f2 := (S1.out.boxed hg2).frozen; have T2 := Lib.hid (S1.out.step (n' := l1.length + 2) hg2 hr2 (by simp <;> omega) (by simp)); have S2 := Lib.hid T2.out.1; clear hr2 hg2)
      | (gi_at_builtin; refine wpListIn_pushGg rfl (.tmp 32) (.tmp 33) 23 rfl (W2.setCell ⟨gb, 0, none⟩ (.slice A2 (l1.length + 2) c2)) w.heap.size A2 c2 (l1.length + 2) z.length (l1 ++ [13, 10]) z (.slice Ax z.length cx) (by simp) rfl rfl rfl S2.out.row (src_rb (HX.out.rb (HR.out.keep fun k hk => S2.out.bel.block k hk))) S2.out.bel.size (by have := HL1.out; omega) ?_; intro A3 c3 W3 hr3 hg3; have m3 := (S2.out.boxed hg3).cell; have f3 := (S2.out.boxed hg3).frozen; have T3 := Lib.hid (S2.out.step (n' := l1.length + 2 + z.length) hg3 hr3 (by simp <;> omega) (by simp; omega)); have S3 := Lib.hid T3.out.1; clear hr3 hg3)
      | (gi_at_builtin; refine wpListIn_pushGg rfl (.tmp 35) (.const (.string ⟨#[13, 10]⟩)) 9 rfl (W3.setCell ⟨gb, 0, none⟩ (.slice A3 (l1.length + 2 + z.length) c3)) w.heap.size A3 c3 (l1.length + 2 + z.length) 2 (l1 ++ [13, 10] ++ z) [13, 10] (.string ⟨[13, 10].toArray⟩) (by simp; omega) rfl rfl rfl S3.out.row (src_str _ [13, 10]) S3.out.bel.size (by have := HL1.out; omega) ?_; intro A4 c4 W4 hr4 hg4; have m4 := (S3.out.boxed hg4).cell; have f4 := (S3.out.boxed hg4).frozen; have T4 := Lib.hid (S3.out.step (n' := l1.length + 2 + z.length + 2) hg4 hr4 (by simp <;> omega) (by simp; omega)); have S4 := Lib.hid T4.out.1; clear hr4 hg4))
    refine ⟨by rw [hs5]; exact ((T1.out.2.1.trans T2.out.2.1).trans T3.out.2.1).trans T4.out.2.1, ((T1.out.2.2.trans T2.out.2.2).trans T3.out.2.2).trans T4.out.2.2, A4, c4, ?_⟩
    rw [HE.out]
    exact S4.out
  case done =>
    rintro D ys W hD hys ⟨A, c, hS⟩ hK
    rw [hys, ← HCO.out] at hS
    have HS := Lib.hid hS
    have hc := hS.box.cell
    have hf := hS.box.frozen
    rw [hs5] at hD
    have HDD := Lib.hid hD
    clear hS hys
    by_cases hle : cbB.length ≤ 8192
    · have hle' : ¬ ((8192 : Int) < (cbB.length : Int)) := by omega
      gi_wp2
      refine ⟨by simp, .inl ⟨_, _, rfl, run_takeDeferred hK, ?_⟩⟩
      exact ⟨_, results_tmp2 rfl _ _ _, HS.out.bel.trans (belowK_b (w := w) (Nat.le_refl _) W D _ _ (by have := HS.out.gb; have := HDD.out; omega) hK rfl rfl), A, c, rfl, row_put HS.out hK rfl _⟩
    · have hle' : (8192 : Int) < (cbB.length : Int) := by omega
      gi_wp2
      refine ⟨by simp, .inl ⟨_, _, rfl, run_takeDeferred hK, ?_⟩⟩
      exact ⟨_, results_tmp2 rfl _ _ _, HS.out.bel.trans (belowK_b (w := w) (Nat.le_refl _) W D _ _ (by have := HS.out.gb; have := HDD.out; omega) hK rfl rfl), rfl⟩
  case stop =>
    rintro D c pre W _ _ h _
    exact h.elim
end Go.Proofs.YthniggdimfldhaaGreatDoor
