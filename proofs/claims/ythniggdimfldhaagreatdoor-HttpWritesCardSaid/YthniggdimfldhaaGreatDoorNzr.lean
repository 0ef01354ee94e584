/- The chapter: Chunked. -/
import Derived.Test.YthniggdimfldhaaGreatDoorNzp
import Derived.Test.YthniggdimfldhaaGreatDoorNy
import Derived.Lib.SmallJoins
namespace Go.Proofs.YthniggdimfldhaaGreatDoor
open Go Go.RowKit

theorem chunkL_step {f n : Nat} {z : List UInt8} (hz : z ≠ []) : chunkL (f + 1) n z = digs 16 (z.take n).length ++ [13, 10] ++ z.take n ++ [13, 10] ++ chunkL f n (z.drop n) := by
  cases z with
  | nil => exact absurd rfl hz
  | cons c b => rfl
theorem chunkL_end (f n : Nat) : chunkL (f + 1) n [] = [48, 13, 10, 13, 10] := rfl
theorem chunkL_le (n : Nat) : ∀ (f : Nat) (z : List UInt8), z.length ≤ 2000 → (chunkL f n z).length ≤ f * 2010
  | 0, z, _ => by simp [chunkL]
  | f + 1, [], _ => by rw [chunkL_end]; simp; omega
  | f + 1, c :: b, h => by
    rw [chunkL_step (by simp)]
    have i := chunkL_le n f ((c :: b).drop n) (by rw [List.length_drop]; omega)
    have d := (digs_len 16 ((c :: b).take n).length).2
    have t : ((c :: b).take n).length ≤ 2000 := by rw [List.length_take]; omega
    simp only [List.length_append, List.length_cons, List.length_nil] at i d t h ⊢
    omega
theorem chunk_top (m : Msg) (n : Nat) : chunkB m n = topB m ++ [84, 114, 97, 110, 115, 102, 101, 114, 45, 69, 110, 99, 111, 100, 105, 110, 103, 58, 32, 99, 104, 117, 110, 107, 101, 100, 13, 10, 13, 10] ++ chunkL (m.body.length + 1) n m.body := by
  unfold chunkB topB teH lineB nTE sChunked
  simp only [List.append_assoc, List.cons_append, List.nil_append]
/-- how far the loop is -/
structure ChR (w1 wr : World) (A : Option Addr) (c : Nat) (l : List UInt8) (bd : List UInt8) (sz k : Nat) (all : List UInt8) : Prop where
  row : RowG wr w1.heap.size A c l
  bel : Below w1.heap.size w1 wr
  goes : ∃ f, l ++ chunkL f sz (bd.drop k) = all ∧ (bd.drop k).length + 1 ≤ f
theorem ChR.few {w1 wr : World} {A : Option Addr} {c : Nat} {l bd : List UInt8} {sz k : Nat} {all : List UInt8} (h : ChR w1 wr A c l bd sz k all) (hl : all.length ≤ 10000000) : l.length ≤ 10000000 := by
  obtain ⟨f, e, _⟩ := h.goes
  have := congrArg List.length e
  rw [List.length_append] at this
  omega
theorem ChR.next {w1 wr wn : World} {A A' : Option Addr} {c c' : Nat} {l bd : List UInt8} {sz k : Nat} {all : List UInt8} (h : ChR w1 wr A c l bd sz k all) (h1 : 1 ≤ sz) (hk : k < bd.length)
    (hr : RowG wn w1.heap.size A' c' (l ++ (digs 16 ((bd.drop k).take sz).length ++ [13, 10]) ++ (bd.drop k).take sz ++ [13, 10])) (hb : Below w1.heap.size wr wn) : ChR w1 wn A' c' (l ++ (digs 16 ((bd.drop k).take sz).length ++ [13, 10]) ++ (bd.drop k).take sz ++ [13, 10]) bd sz (k + sz) all := by
  obtain ⟨f, e, hf⟩ := h.goes
  have hne : bd.drop k ≠ [] := by
    intro e2
    have := congrArg List.length e2
    rw [List.length_drop] at this
    simp at this
    omega
  cases f with
  | zero => omega
  | succ f =>
    refine ⟨hr, h.bel.trans hb, f, ?_, ?_⟩
    · rw [← e, chunkL_step hne, List.drop_drop]
      simp only [List.append_assoc]
    · rw [List.length_drop] at hf ⊢
      omega
theorem ChR.fin {w1 wr : World} {A : Option Addr} {c : Nat} {l bd : List UInt8} {sz k : Nat} {all : List UInt8} (h : ChR w1 wr A c l bd sz k all) (hk : ¬ k < bd.length) : l ++ [48, 13, 10, 13, 10] = all := by
  obtain ⟨f, e, hf⟩ := h.goes
  rw [List.drop_of_length_le (by omega)] at e hf
  cases f with
  | zero => omega
  | succ f => exact e
/-- what Chunked hands back -/
def ChkdP (en : List UInt8) (w : World) (e : Ending) (w' : World) : Prop :=
  Below w.heap.size w w' ∧ (if en.length ≤ 8192 then ∃ (A : Option Addr) (c : Nat), e = .returned (.tuple #[.slice A en.length c, .int .i64 0]) ∧ RowG w' w.heap.size A c en else e = .returned (.tuple #[.slice none 0 0, .int .i64 5]))
set_option maxRecDepth 100000 in
set_option maxHeartbeats 400000 in
theorem chunked_ref (m : Msg) (hV : Value) (Ab : Option Addr) (cb : Nat) (sz : Nat) (h1 : 1 ≤ sz) (h2 : sz ≤ 4095) (w : World) (h : MsgV w m hV Ab cb) (hok : okM m = true) :
    Calls Tryz.prog 8 #[.agg #[.string ⟨m.meth.toArray⟩, .string ⟨m.path.toArray⟩, .int .i64 m.status, hV, .slice Ab m.body.length cb], .int .i64 sz] w (ChkdP (chunkB m sz) w) := by
  have hb := below_new w (.cells #[.string ⟨m.meth.toArray⟩, .string ⟨m.path.toArray⟩, .int .i64 m.status, hV, .slice Ab m.body.length cb] 25)
  have C1 := check_ref5 m hV Ab cb _ (h.hs.below hb) h.sm h.pl
  rw [hok, if_pos rfl] at C1
  have C1 := Lib.hid C1
  have CS := Lib.hid (box_cs w m.meth m.path m.status hV (.slice Ab m.body.length cb))
  have B1 := Lib.hid hb
  have CT := Lib.hid fun w' (hb : Below w.heap.size w w') => top_ref m hV (.slice Ab m.body.length cb) w' (h.hs.below hb) h.sm hok
  have hbl := ok_body hok
  have CD := Lib.hid fun (n : Nat) w' (hn : n ≤ 2000) => digits_ref 16 (.inr rfl) n w' (by omega)
  have HR := Lib.hid h.rb
  have HT := top_len hok h.sm
  have HE0 := chunk_top m sz
  have q1 : (⟨(topB m).toArray⟩ : ByteArray).size = (topB m).length := mk_size _
  have ec : (⟨#[84, 114, 97, 110, 115, 102, 101, 114, 45, 69, 110, 99, 111, 100, 105, 110, 103, 58, 32, 99, 104, 117, 110, 107, 101, 100, 13, 10, 13, 10]⟩ : ByteArray) = ⟨([84, 114, 97, 110, 115, 102, 101, 114, 45, 69, 110, 99, 111, 100, 105, 110, 103, 58, 32, 99, 104, 117, 110, 107, 101, 100, 13, 10, 13, 10] : List UInt8).toArray⟩ := rfl
  have s1 := fun w' => run_string_add_sum (P := Tryz.prog) w' (⟨(topB m).toArray⟩ : ByteArray) ⟨#[84, 114, 97, 110, 115, 102, 101, 114, 45, 69, 110, 99, 111, 100, 105, 110, 103, 58, 32, 99, 104, 117, 110, 107, 101, 100, 13, 10, 13, 10]⟩ (by rw [q1]; show _ + 30 ≤ _; omega)
  have hl3 : (topB m ++ [84, 114, 97, 110, 115, 102, 101, 114, 45, 69, 110, 99, 111, 100, 105, 110, 103, 58, 32, 99, 104, 117, 110, 107, 101, 100, 13, 10, 13, 10]).length ≤ 2005000 := by
    simp only [List.length_append, List.length_cons, List.length_nil]
    omega
  have hla : Hid ((chunkB m sz).length ≤ 10000000) := by
    have := chunkL_le sz (m.body.length + 1) m.body hbl
    show _ ≤ _
    rw [HE0, List.length_append]
    omega
  have e3 : (⟨(topB m).toArray⟩ : ByteArray) ++ ⟨#[84, 114, 97, 110, 115, 102, 101, 114, 45, 69, 110, 99, 111, 100, 105, 110, 103, 58, 32, 99, 104, 117, 110, 107, 101, 100, 13, 10, 13, 10]⟩ = ⟨(topB m ++ [84, 114, 97, 110, 115, 102, 101, 114, 45, 69, 110, 99, 111, 100, 105, 110, 103, 58, 32, 99, 104, 117, 110, 107, 101, 100, 13, 10, 13, 10]).toArray⟩ := by
    rw [ec, cat_mk]
  rw [e3] at s1
  have HE := Lib.hid HE0
  have i1 : ¬ ((sz : Int) < 1) := by omega
  have i2 : ¬ ((4095 : Int) < (sz : Int)) := by omega
  clear hb h hok ec q1 HT e3 HE0
  generalize topB m ++ [84, 114, 97, 110, 115, 102, 101, 114, 45, 69, 110, 99, 111, 100, 105, 110, 103, 58, 32, 99, 104, 117, 110, 107, 101, 100, 13, 10, 13, 10] = hd at *
  generalize topB m = tp at *
  generalize chunkB m sz = en at *
  generalize m.body = bd at *
  generalize m.status = st at *
  generalize m.meth = a at *
  generalize m.path = p at *
  go_enter Tryz.func8, Tryz.ntmps8
  go_upto_region 1 with fail
  generalize w.alloc (.cells #[.string ⟨a.toArray⟩, .string ⟨p.toArray⟩, .int .i64 st, hV, .slice Ab bd.length cb] 25) = w1 at *
  have d0 := CS.out.c 0 (by simp)
  have d1 := CS.out.c 1 (by simp)
  have d2 := CS.out.c 2 (by simp)
  have d3 := CS.out.c 3 (by simp)
  have d4 := CS.out.c 4 (by simp)
  go_wp2_with fail
  go_at_call 10
  refine C1.out.mono ?_
  rintro e w2 ⟨rfl, hb2⟩
  have B2 := Lib.hid (Below.and B1.out hb2)
  have CS2 := Lib.hid (CS.out.below hb2)
  have CT2 := Lib.hid (CT.out _ B2.out)
  clear d0 d1 d2 d3 d4 hb2 CS B1 CT C1
  have d0 := CS2.out.c 0 (by simp)
  have d1 := CS2.out.c 1 (by simp)
  have d2 := CS2.out.c 2 (by simp)
  have d3 := CS2.out.c 3 (by simp)
  have d4 := CS2.out.c 4 (by simp)
  go_wp2_with fail
  go_at_call 25
  refine CT2.out.mono ?_
  rintro e w3 ⟨rfl, hb3⟩
  have B3 := Lib.hid (Below.and B2.out hb3)
  have CS3 := Lib.hid (CS2.out.below hb3)
  have hcv := bytes_conv w3 ⟨hd.toArray⟩
  have HROW := conv_rowG w3 hd (Nat.le_trans hl3 (by decide))
  have HBW := bytesWorld_below w3 ⟨hd.toArray⟩
  rw [mk_size] at hcv
  have R0 : Hid (ChR w3 (Lib.bytesWorld w3 5 ⟨hd.toArray⟩) (some ⟨w3.heap.size, 0, none⟩) (grownCap w3 hd.length 0 5) hd bd sz 0 en) := ⟨HROW, HBW, bd.length + 1, HE.out.symm, by simp⟩
  clear d0 d1 d2 d3 d4 hb3 CS2 B2 CT2 HROW HBW HE
  generalize Lib.bytesWorld w3 5 ⟨hd.toArray⟩ = w4 at *
  generalize grownCap w3 hd.length 0 5 = cap at *
  go_wp2_with fail
  clear hcv s1 hl3
  go_loopw [6, 7, 8] (fun v i _ wr => ∃ (k : Nat) (A : Option Addr) (c : Nat) (l : List UInt8), i = .int .i64 k ∧ v = .slice A l.length c ∧ k ≤ 6100 ∧ Hid (ChR w3 wr A c l bd sz k en)) (fun _ i _ _ => bd.length - (intOf i).toNat)
  case atStart => exact ⟨0, _, _, hd, rfl, rfl, by decide, R0⟩
  case round =>
    obtain ⟨k, A, c, l, rfl, rfl, hk6, R⟩ := hrel
    have d4 := (CS3.out.below R.out.bel).c 4 (by simp)
    have hlf := R.out.few hla.out
    by_cases hlt : k < bd.length
    · obtain ⟨b, off, rfl, hlb, hcl⟩ := HR.out.rd k hlt
      have hcap := HR.out.cap
      have hzl : ((bd.drop k).take sz).length = min sz (bd.length - k) := by rw [List.length_take, List.length_drop]
      have RZ : Hid (Rb w.heap.size w (some ⟨b, off + k, none⟩) (cb - k) ((bd.drop k).take sz)) := by
        have := (HR.out.drop k (by omega)).take sz
        rw [if_neg (by omega), Option.map_some, add_pl] at this
        exact this
      have RN := Lib.hid fun A' c' wn => R.out.next (A' := A') (c' := c') (wn := wn) h1 hlt
      have R0 := Lib.hid R.out.row
      have RB := Lib.hid R.out.bel
      clear R
      generalize (bd.drop k).take sz = z at *
      generalize hzn : z.length = zn at *
      have hmin : min (sz : Int) ((bd.length : Int) - k) = (zn : Int) := by omega
      have hz0 : zn ≤ 2000 := by omega
      have hw1 : IntKind.i64.wrap ((bd.length : Int) - k) = (bd.length : Int) - k := by rw [IntKind.wrap_i64]; omega
      have j1 : (k : Int) < (bd.length : Int) := by omega
      have j2 : (0 : Int) ≤ (k : Int) := by omega
      clear hzl
      have hks : k + zn - k = zn := Nat.add_sub_cancel_left ..
      have hln : Hid (l.length ≤ 10000000) := hlf
      have B4 : Hid (Below w.heap.size w wr) := Below.and B3.out RB.out
      have C5 := Lib.hid (CD.out zn wr hz0)
      have hd4 := (digs_len 16 zn).2
      have q2 : (⟨(digs 16 zn).toArray⟩ : ByteArray).size = (digs 16 zn).length := mk_size _
      have s2 := fun w' => run_string_add_sum (P := Tryz.prog) w' (⟨(digs 16 zn).toArray⟩ : ByteArray) ⟨#[13, 10]⟩ (by rw [q2]; show _ + 2 ≤ _; omega)
      have e2 : (⟨(digs 16 zn).toArray⟩ : ByteArray) ++ ⟨#[13, 10]⟩ = ⟨(digs 16 zn ++ [13, 10]).toArray⟩ := cat_mk _ [13, 10]
      rw [e2] at s2
      have hds : (digs 16 zn ++ [13, 10]).length ≤ 6 := by rw [List.length_append]; show _ + 2 ≤ _; omega
      clear q2 e2 hd4
      generalize digs 16 zn ++ [13, 10] = dl at *
      generalize digs 16 zn = ds at *
      go_wp2_with fail
      go_at_call 26
      refine C5.out.mono ?_
      rintro e w5 ⟨rfl, hb5⟩
      have hcv := bytes_conv w5 ⟨dl.toArray⟩
      rw [mk_size] at hcv
      have hrow := conv_rowG w5 dl (by omega)
      have hbw := Below.and hb5 (bytesWorld_below w5 ⟨dl.toArray⟩)
      have S6 := Lib.hid (src_rb hrow.rb)
      have R6 := Lib.hid (R0.out.below hbw)
      have B6 := Lib.hid (Below.and RB.out hbw)
      have HB6 := Lib.hid (hbw.mono RB.out.size)
      have hdl : Hid (dl.length ≤ 6) := hds
      clear hb5 hrow hbw C5 R0
      generalize Lib.bytesWorld w5 5 ⟨dl.toArray⟩ = w6 at *
      generalize grownCap w5 dl.length 0 5 = cap2 at *
      generalize hdn : dl.length = dn at *
      generalize hln2 : l.length = ln at *
      clear d4
      go_upto_region 9 with (at_builtin; refine wpList_pushG rfl (.tmp 39) (.tmp 43) 23 rfl w6 w3.heap.size A c ln dn l dl _ hln2 hdn rfl rfl R6.out (by rw [hdn]; exact S6.out) B6.out.size (by have := hln.out; have := hdl.out; omega) ?_; intro A7 c7 w7 hr7 hb7 _; have R7 := Lib.hid hr7; have B7 := Lib.hid (B6.out.trans hb7); have HB7 := Lib.hid (HB6.out.trans hb7); have d7 := (CS3.out.below (B6.out.trans hb7)).c 4 (by simp); have RZ7 := Lib.hid (src_rb (RZ.out.keep fun k hk => (B3.out.trans ((B6.out.trans hb7).mono B3.out.size)).block k hk)); rw [hzn] at RZ7; clear hr7 hb7)
      go_wp2_with (first
        | (at_builtin; (refine wpList_pushG rfl (.tmp 45) (.tmp 52) 23 rfl w7 w3.heap.size A7 c7 (ln + dn) zn (l ++ dl) z (.slice (some ⟨b, off + k, none⟩) (k + zn - k) (cb - k)) (by rw [List.length_append, hln2, hdn]) hzn rfl rfl R7.out (by rw [hks, hzn]; exact RZ7.out) B7.out.size (by have := hln.out; have := hdl.out; omega) ?_); intro A8 c8 w8 hr8 hb8 _; have R8 := Lib.hid (hr8.below (below_new w8 (.cells #[.int .u8 13, .int .u8 10] 5))); have B8 := Lib.hid ((B7.out.trans hb8).alloc (B7.out.trans hb8).size (.cells #[.int .u8 13, .int .u8 10] 5)); have HBR := Lib.hid ((HB7.out.trans hb8).alloc (B7.out.trans hb8).size (.cells #[.int .u8 13, .int .u8 10] 5)); clear hr8 hb8 d7)
        | (at_builtin; refine wpList_pushG rfl (.tmp 54) (.tmp 55) 23 rfl (w8.alloc (.cells #[.int .u8 13, .int .u8 10] 5)) w3.heap.size A8 c8 (ln + dn + zn) 2 (l ++ dl ++ z) [13, 10] _ (by rw [List.length_append, List.length_append, hln2, hdn, hzn]) rfl rfl rfl R8.out (src_row w8 [13, 10] _ rfl) B8.out.size (by have := hln.out; have := hdl.out; omega) ?_; intro A9 c9 w9 hr9 hb9 _; have R9 := Lib.hid (RN.out _ _ _ hr9 (HBR.out.trans hb9)); clear hr9 hb9))
      refine ⟨⟨k + sz, A9, c9, _, by first | rfl | go_num, ?_, by omega, R9⟩, by simp [intOf]; omega⟩
      rw [List.length_append, List.length_append, List.length_append, hln2, hdn, hzn]
      rfl
    · have hk1 : ¬ (k : Int) < (bd.length : Int) := by omega
      have FE := R.out.fin hlt
      have B4 : Hid (Below w.heap.size w wr) := Below.and B3.out R.out.bel
      have hcv := Joins.run_convert_bytes_const_at (P := Tryz.prog) wr 23 5 #[.int .u8 48, .int .u8 13, .int .u8 10, .int .u8 13, .int .u8 10] 5 5 wr.heap.size rfl Tryz.underlying23 Tryz.underlying5
      have hbn := below_new wr (.cells #[.int .u8 48, .int .u8 13, .int .u8 10, .int .u8 13, .int .u8 10] 5 (5, 6))
      have R1 := Lib.hid (R.out.row.below hbn)
      have B5 := Lib.hid (Below.and B4.out hbn)
      have B5s := Lib.hid (Nat.le_trans R.out.bel.size hbn.size)
      have SE : Hid (Src Tryz.prog 1 23 (.slice (some ⟨wr.heap.size, 0, none⟩) 5 5) 5 (Lib.byteCells [48, 13, 10, 13, 10]) (wr.alloc (.cells #[.int .u8 48, .int .u8 13, .int .u8 10, .int .u8 13, .int .u8 10] 5 (5, 6)))) := by
        refine src_rb (D := wr.heap.size + 1) (z := [48, 13, 10, 13, 10]) ⟨Nat.le_refl _, (fun e => (by cases e)), fun i hi => ⟨wr.heap.size, 0, rfl, Nat.lt_succ_self _, ?_⟩⟩
        rw [Nat.zero_add, World.cell?_alloc_mark]
        match i, hi with
        | 0, _ => rfl
        | 1, _ => rfl
        | 2, _ => rfl
        | 3, _ => rfl
        | 4, _ => rfl
      have hfl : Hid (l.length ≤ 10000000) := hlf
      have HFE := Lib.hid FE
      have hel : l.length + 5 = en.length := by rw [← FE, List.length_append]; rfl
      clear R FE hbn
      simp only [List.size_toArray, List.length_cons, List.length_nil, Nat.zero_add, Nat.reduceAdd] at hcv
      generalize wr.alloc (.cells #[.int .u8 48, .int .u8 13, .int .u8 10, .int .u8 13, .int .u8 10] 5 (5, 6)) = w5 at *
      generalize hln0 : l.length = ln at *
      have hln3 := Lib.hid hln0
      by_cases hle : en.length ≤ 8192
      · have hle2 : ¬ ((8192 : Int) < ((ln + 5 : Nat) : Int)) := by omega
        have hle3 : ¬ ((8192 : Int) < (ln : Int) + 5) := by omega
        go_wp2_with (at_builtin; refine wpList_pushG rfl (.tmp 57) (.tmp 59) 23 rfl w5 w3.heap.size A c ln 5 l [48, 13, 10, 13, 10] (.slice (some ⟨wr.heap.size, 0, none⟩) 5 5) hln3.out rfl rfl rfl R1.out SE.out B5s.out (by omega) ?_; intro A9 c9 w9 hr9 hb9 _; rw [HFE.out] at hr9; have R9 := Lib.hid (hr9.up B3.out.size); have B9 := Lib.hid (B5.out.trans (hb9.mono B3.out.size)); clear hr9 hb9)
        go_ret2
        unfold ChkdP
        rw [if_pos hle]
        exact ⟨B9.out, A9, c9, by rw [← hel]; rfl, R9.out⟩
      · have hle2 : ((8192 : Int) < ((ln + 5 : Nat) : Int)) := by omega
        have hle3 : ((8192 : Int) < (ln : Int) + 5) := by omega
        go_wp2_with (at_builtin; refine wpList_pushG rfl (.tmp 57) (.tmp 59) 23 rfl w5 w3.heap.size A c ln 5 l [48, 13, 10, 13, 10] (.slice (some ⟨wr.heap.size, 0, none⟩) 5 5) hln3.out rfl rfl rfl R1.out SE.out B5s.out (by omega) ?_; intro A9 c9 w9 hr9 hb9 _; rw [HFE.out] at hr9; have R9 := Lib.hid (hr9.up B3.out.size); have B9 := Lib.hid (B5.out.trans (hb9.mono B3.out.size)); clear hr9 hb9)
        go_ret2
        unfold ChkdP
        rw [if_neg hle]
        exact ⟨B9.out, rfl⟩
end Go.Proofs.YthniggdimfldhaaGreatDoor
