/- The program: what stands ahead of a body, and Bytes. -/
import Derived.Test.YthniggdimfldhaaGreatDoorNza
import Derived.Test.YthniggdimfldhaaGreatDoorNu
namespace Go.Proofs.YthniggdimfldhaaGreatDoor
open Go Go.RowKit

/-- A message that stands in memory: its headers, its body. -/
structure MsgV (w : World) (m : Msg) (hV : Value) (Ab : Option Addr) (cb : Nat) : Prop where
  hs : Hs w hV m.heads
  sm : Sm m.heads
  pl : m.path.length ≤ 1000000
  rb : Rb w.heap.size w Ab cb m.body
theorem MsgV.below {w w' : World} {m : Msg} {hV : Value} {Ab : Option Addr} {cb : Nat} (h : MsgV w m hV Ab cb) (hb : Below w.heap.size w w') : MsgV w' m hV Ab cb :=
  ⟨h.hs.below hb, h.sm, h.pl, (h.rb.keep fun k hk => hb.block k hk).mono hb.size⟩
theorem ok_chk {m : Msg} (h : okM m = true) : chkE m.heads = 0 := (okM_split h).2.1
theorem byR_ok {m : Msg} (h : okM m = true) : byR m.heads = bytesL m.heads := by unfold byR; rw [if_pos (ok_chk h)]
theorem ok_body {m : Msg} (h : okM m = true) : m.body.length ≤ 2000 := (okM_split h).2.2.1
theorem ok_bytes {m : Msg} (h : okM m = true) : (bytesL m.heads).length ≤ 100000 := by
  obtain ⟨hl, ho⟩ := chk_ok (ok_chk h)
  have := bytesL_len (List.all_eq_true.2 ho)
  omega
theorem first_len {m : Msg} (h : okM m = true) : (firstS m).length ≤ 300 := (first_ok h).2.1
theorem line_mk (N V : List UInt8) : (⟨N.toArray⟩ : ByteArray) ++ ⟨#[58, 32]⟩ ++ ⟨V.toArray⟩ ++ ⟨#[13, 10]⟩ ++ ⟨#[13, 10]⟩ = ⟨(lineB (N, V) ++ [13, 10]).toArray⟩ := by
  rw [show (⟨#[58, 32]⟩ : ByteArray) = ⟨[58, 32].toArray⟩ from rfl, show (⟨#[13, 10]⟩ : ByteArray) = ⟨[13, 10].toArray⟩ from rfl, cat_mk, cat_mk, cat_mk, cat_mk]
  unfold lineB
  simp
theorem lineB_len (N V : List UInt8) : (lineB (N, V)).length = N.length + V.length + 4 := by unfold lineB; simp; omega
/-- what stands ahead of a body -/
def openB (m : Msg) (N V : List UInt8) : List UInt8 := firstS m ++ [13, 10] ++ bytesL m.heads ++ (lineB (N, V) ++ [13, 10])
set_option maxRecDepth 100000 in
set_option maxHeartbeats 1000000 in
theorem opening_any (m : Msg) (hV : Value) (Ab : Option Addr) (cb : Nat) (N V : List UInt8) (w : World) (h : MsgV w m hV Ab cb) (hG : Gl w) (hok : okM m = true) (hN : N.length ≤ 1000) (hV2 : V.length ≤ 1000) :
    Calls Tryz.prog 23 #[.agg #[.string ⟨m.meth.toArray⟩, .string ⟨m.path.toArray⟩, .int .i64 m.status, hV, .slice Ab m.body.length cb], .string ⟨N.toArray⟩, .string ⟨V.toArray⟩] w (MadeP (openB m N V) w) := by
  have hb := below_new w (.cells #[.string ⟨m.meth.toArray⟩, .string ⟨m.path.toArray⟩, .int .i64 m.status, hV, .slice Ab m.body.length cb] 25)
  have C1 := bytes_own hV m.heads _ (h.hs.below hb) h.sm
  rw [byR_ok hok, ok_chk hok] at C1
  have C1 := Lib.hid C1
  have CS := Lib.hid (box_cs w m.meth m.path m.status hV (.slice Ab m.body.length cb))
  have C2 := Lib.hid fun w' (hb : Below w.heap.size w w') => firstLineOf_any m hV (.slice Ab m.body.length cb) w' (h.hs.below hb) h.sm h.pl (hG.fresh hb) hok
  have B1 := Lib.hid hb
  have L1 := Lib.hid (first_len hok)
  have L2 := Lib.hid (ok_bytes hok)
  have L3 : Hid ((lineB (N, V) ++ [13, 10]).length ≤ 3000) := by show _ ≤ _; rw [List.length_append, lineB_len]; show _ + 2 ≤ _; omega
  have HO : Hid (openB m N V = firstS m ++ [13, 10] ++ bytesL m.heads ++ (lineB (N, V) ++ [13, 10])) := rfl
  have E3 := Lib.hid (line_mk N V)
  clear hb h hG hok
  generalize openB m N V = ob at *
  generalize firstS m = fs at *
  generalize bytesL m.heads = bl at *
  generalize lineB (N, V) ++ [13, 10] = ll at *
  generalize m.meth = a at *
  generalize m.path = p at *
  generalize m.status = st at *
  generalize m.body.length = bn at *
  go_enter Tryz.func23, Tryz.ntmps23
  go_wp2_with fail
  generalize w.alloc (.cells #[.string ⟨a.toArray⟩, .string ⟨p.toArray⟩, .int .i64 st, hV, .slice Ab bn cb] 25) = w1 at *
  have d3 := CS.out.c 3 (by simp)
  go_wp2_with fail
  go_at_call 50
  refine C1.out.mono ?_
  rintro e w2 ⟨u, rfl, hO, hb2⟩
  obtain ⟨Au, cu, rfl, hru⟩ := hO.rb
  have HR := Lib.hid hru
  have HC := Lib.hid (CS.out.keep hb2.size (hb2.block _ CS.out.lt))
  have B2 := Lib.hid (Below.trans B1.out (hb2.mono B1.out.size))
  clear d3 C1 hO hru hb2 CS
  have d0 := HC.out.c 0 (by simp)
  have d1 := HC.out.c 1 (by simp)
  have d2 := HC.out.c 2 (by simp)
  have d3 := HC.out.c 3 (by simp)
  have d4 := HC.out.c 4 (by simp)
  go_wp2_with fail
  go_at_call 51
  refine (C2.out w2 B2.out).mono ?_
  rintro e w3 ⟨rfl, hb3⟩
  have B3 := Lib.hid (Below.trans B2.out (hb3.mono B2.out.size))
  have hR3 : Rb w3.heap.size w3 Au cu bl := (HR.out.keep fun k hk => hb3.block k hk).mono hb3.size
  have e1 : (⟨fs.toArray⟩ : ByteArray) ++ ⟨#[13, 10]⟩ = ⟨(fs ++ [13, 10]).toArray⟩ := cat_mk fs [13, 10]
  have hcv := bytes_conv w3 ⟨(fs ++ [13, 10]).toArray⟩
  have hll : (fs ++ [13, 10]).length ≤ 302 := by rw [List.length_append]; have := L1.out; show _ + 2 ≤ _; omega
  have hrow := conv_rowG w3 (fs ++ [13, 10]) (by omega)
  have hbel := bytesWorld_below w3 ⟨(fs ++ [13, 10]).toArray⟩
  rw [mk_size] at hcv
  have HL := Lib.hid hll
  have B4 := Lib.hid (Below.trans B3.out (hbel.mono B3.out.size))
  have R4 := Lib.hid (RowG.up hrow B3.out.size)
  have S4 := Lib.hid (src_rb (hR3.keep fun k hk => hbel.block k hk))
  clear C2 HC B2 B1 hb3 HR hR3 hrow hbel hll d0 d1 d2 d3 d4
  generalize Lib.bytesWorld w3 5 ⟨(fs ++ [13, 10]).toArray⟩ = w4 at *
  rw [← e1] at hcv
  clear e1
  generalize hfl : fs ++ [13, 10] = fl at *
  generalize grownCap w3 fl.length 0 5 = cap at *
  have M2 : Hid (fl.length + bl.length ≤ 140737488355328) := by show _ ≤ _; have := HL.out; have := L2.out; omega
  have M3 : Hid ((fl ++ bl).length + ll.length ≤ 140737488355328) := by show _ ≤ _; rw [List.length_append]; have := HL.out; have := L2.out; have := L3.out; omega
  have ES : Hid (Value.string ((⟨N.toArray⟩ : ByteArray) ++ ⟨#[58, 32]⟩ ++ ⟨V.toArray⟩ ++ ⟨#[13, 10]⟩ ++ ⟨#[13, 10]⟩) = .string ⟨ll.toArray⟩) := congrArg Value.string E3.out
  have l1 := L1.out
  go_wp2_with (first
    | (at_builtin; refine wpList_pushG rfl (.tmp 20) (.tmp 21) 23 rfl w4 w.heap.size _ cap fl.length bl.length fl bl (.slice Au bl.length cu) rfl rfl rfl rfl R4.out S4.out B4.out.size M2.out ?_; intro A5 c5 w5 hr5 hb5 _; have B5 := Lib.hid (B4.out.trans hb5); have R5 := Lib.hid hr5; clear hr5 hb5)
    | (at_builtin; refine wpList_pushG rfl (.tmp 23) (.tmp 29) 9 rfl w5 w.heap.size A5 c5 (fl.length + bl.length) ll.length (fl ++ bl) ll (.string ⟨ll.toArray⟩) (List.length_append ..) rfl rfl ES.out R5.out (src_str w5 ll) B5.out.size (by rw [← List.length_append]; exact M3.out) ?_; intro A6 c6 w6 hr6 hb6 _; have B6 := Lib.hid (B5.out.trans hb6); have R6 := Lib.hid hr6; clear hr6 hb6))
  go_ret
  refine ⟨A6, c6, ?_, ?_, B6.out⟩
  · rw [HO.out, List.length_append, List.length_append]
    rfl
  · rw [HO.out]
    exact R6.out
theorem enc_open (m : Msg) : encB m = openB m nCL (digs 10 m.body.length) ++ m.body := by
  unfold encB openB clH
  simp
theorem open_len {m : Msg} (hok : okM m = true) {N V : List UInt8} (hN : N.length ≤ 1000) (hV : V.length ≤ 1000) : (openB m N V).length ≤ 1000000 := by
  have h1 := first_len hok
  have h2 := ok_bytes hok
  unfold openB
  simp only [List.length_append, lineB_len, List.length_cons, List.length_nil]
  omega
theorem cl_len : (nCL).length ≤ 1000 := by decide
set_option maxRecDepth 100000 in
set_option maxHeartbeats 1000000 in
theorem bytes_ok (m : Msg) (hV : Value) (Ab : Option Addr) (cb : Nat) (w : World) (h : MsgV w m hV Ab cb) (hG : Gl w) (hok : okM m = true) :
    Calls Tryz.prog 5 #[.agg #[.string ⟨m.meth.toArray⟩, .string ⟨m.path.toArray⟩, .int .i64 m.status, hV, .slice Ab m.body.length cb]] w fun e w' =>
      ∃ (A : Option Addr) (c : Nat), e = .returned (.tuple #[.slice A (encB m).length c, .int .i64 0]) ∧ RowG w' w.heap.size A c (encB m) ∧ Below w.heap.size w w' := by
  have hb := below_new w (.cells #[.string ⟨m.meth.toArray⟩, .string ⟨m.path.toArray⟩, .int .i64 m.status, hV, .slice Ab m.body.length cb] 25)
  have C1 := check_msg m hV Ab cb _ (h.hs.below hb) h.sm h.pl (hG.fresh hb)
  rw [hok, if_pos rfl] at C1
  have C1 := Lib.hid C1
  have CS := Lib.hid (box_cs w m.meth m.path m.status hV (.slice Ab m.body.length cb))
  have hbl := ok_body hok
  have hdl := digs_len 10 m.body.length
  have CI := Lib.hid fun w' (hb : Below w.heap.size w w') => itoa_any m.body.length (by omega) w' (hG.fresh hb)
  have C2 := Lib.hid fun w' (hb : Below w.heap.size w w') => opening_any m hV Ab cb nCL (digs 10 m.body.length) w' (h.below hb) (hG.fresh hb) hok cl_len (by omega)
  have B1 := Lib.hid hb
  have HR := Lib.hid h.rb
  have HO := Lib.hid (enc_open m)
  have L1 := Lib.hid (open_len hok cl_len (show (digs 10 m.body.length).length ≤ 1000 by omega))
  have L2 := Lib.hid hbl
  have L3 : Hid ((digs 10 m.body.length).length ≤ 1000) := by show _ ≤ _; omega
  clear hb h hG hok hbl hdl
  generalize encB m = eb at *
  unfold nCL at *
  generalize openB m _ (digs 10 m.body.length) = ob at *
  generalize digs 10 m.body.length = ds at *
  generalize m.meth = a at *
  generalize m.path = p at *
  generalize m.status = st at *
  generalize m.body = bd at *
  go_enter Tryz.func5, Tryz.ntmps5
  go_wp2_with fail
  generalize w.alloc (.cells #[.string ⟨a.toArray⟩, .string ⟨p.toArray⟩, .int .i64 st, hV, .slice Ab bd.length cb] 25) = w1 at *
  go_at_call 9
  refine C1.out.mono ?_
  rintro e w2 ⟨rfl, hb2⟩
  have HC := Lib.hid (CS.out.keep hb2.size (hb2.block _ CS.out.lt))
  have B2 : Hid (Below w.heap.size w w2.drew) := below_drewN (Below.trans B1.out (hb2.mono B1.out.size)) 1
  clear hb2 C1 CS B1
  generalize hg : w.heap.size = g at *
  have HN : Hid (∀ w' wb, Below g w wb → Below wb.heap.size wb w' → Below g w w') := fun w' wb h1 h2 => h1.trans (h2.mono (by rw [← hg]; exact h1.size))
  have HZ : Hid (∀ wb, Below g w wb → g ≤ wb.heap.size) := fun wb h1 => by rw [← hg]; exact h1.size
  have d0 := HC.out.c 0 (by simp)
  have d1 := HC.out.c 1 (by simp)
  have d2 := HC.out.c 2 (by simp)
  have d3 := HC.out.c 3 (by simp)
  have d4 := HC.out.c 4 (by simp)
  have HL : Hid (g < w2.drew.heap.size) := HC.out.lt
  have HD : Hid (∀ w', Below w2.drew.heap.size w2.drew w' → w'.cell? ⟨g, 0, none⟩ = some (.string ⟨a.toArray⟩) ∧ w'.cell? ⟨g, 1, none⟩ = some (.string ⟨p.toArray⟩) ∧ w'.cell? ⟨g, 2, none⟩ = some (.int .i64 st) ∧ w'.cell? ⟨g, 3, none⟩ = some hV ∧ w'.cell? ⟨g, 4, none⟩ = some (.slice Ab bd.length cb)) :=
    fun w' h => ⟨(h.cell (p := ⟨g, 0, none⟩) HL.out).trans d0, (h.cell (p := ⟨g, 1, none⟩) HL.out).trans d1, (h.cell (p := ⟨g, 2, none⟩) HL.out).trans d2, (h.cell (p := ⟨g, 3, none⟩) HL.out).trans d3, (h.cell (p := ⟨g, 4, none⟩) HL.out).trans d4⟩
  have D0 := Lib.hid (HD.out _ (Below.refl _ _))
  go_wp2_with fail
  go_region_held3 (fun w' => w'.cell? ⟨g, 0, none⟩ = some (.string ⟨a.toArray⟩) ∧ w'.cell? ⟨g, 1, none⟩ = some (.string ⟨p.toArray⟩) ∧ w'.cell? ⟨g, 2, none⟩ = some (.int .i64 st) ∧ w'.cell? ⟨g, 3, none⟩ = some hV ∧ w'.cell? ⟨g, 4, none⟩ = some (.slice Ab bd.length cb)) (first | exact D0.out | exact Hid.out (by assumption))
    ((first
      | (go_at_call 24; refine Calls.mono (CI.out _ B2.out) ?_; rintro e w3 ⟨rfl, hb3⟩; have K3 := Lib.hid (HD.out w3 hb3); have B3 := Lib.hid (HN.out w3 _ B2.out hb3); have J3 := Lib.hid hb3; clear hb3)
      | (go_at_call 23; refine Calls.mono (C2.out _ B3.out) ?_; rintro e w4 ⟨A4, c4, rfl, hr4, hb4⟩; have B4 := Lib.hid (HN.out w4 _ B3.out hb4); have K4 := Lib.hid (HD.out w4 (J3.out.trans (hb4.mono J3.out.size))); have R4 := Lib.hid (RowG.up hr4 (HZ.out _ B3.out)); clear hr4 hb4)))
  have S4 : Src Tryz.prog 1 23 (.slice Ab bd.length cb) bd.length (Lib.byteCells bd) w4 := src_rb (HR.out.keep fun k hk => B4.out.block k hk)
  have S4 := Lib.hid S4
  have e4 := K4.out.2.2.2.2
  have M2 : Hid (ob.length + bd.length ≤ 140737488355328) := by show _ ≤ _; have := L1.out; have := L2.out; omega
  clear K4 K3 D0 HD HC d0 d1 d2 d3 d4
  go_wp2_with (at_builtin; refine wpList_pushG rfl (.tmp 17) (.tmp 19) 23 rfl w4 g A4 c4 ob.length bd.length ob bd (.slice Ab bd.length cb) rfl rfl rfl rfl R4.out S4.out (HZ.out _ B4.out) M2.out ?_; intro A5 c5 w5 hr5 hb5 _; have B5 := Lib.hid (B4.out.trans hb5); have R5 := Lib.hid hr5; clear hr5 hb5)
  go_ret2
  rw [HO.out]
  refine ⟨A5, c5, by rw [List.length_append]; rfl, ?_, ?_⟩
  · rw [hg]; exact R5.out
  · rw [hg]; exact B5.out
end Go.Proofs.YthniggdimfldhaaGreatDoor
