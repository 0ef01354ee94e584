/- The statement HttpBack. -/
import Derived.Test.YtnjoadhkkfbeeaaGreatDoorNzf
import Derived.Test.YtnjoadhkkfbeeaaGreatDoorNzj
namespace Go.Proofs.YtnjoadhkkfbeeaaGreatDoor
open Go Go.RowKit

theorem bytesL_small {l : List Hd} (h : ∀ y ∈ l, y.1.length ≤ 4 ∧ y.2.length ≤ 200) : (bytesL l).length ≤ l.length * 208 := by
  induction l with
  | nil => simp [bytesL]
  | cons y l ih =>
    have h1 := ih fun z hz => h z (List.mem_cons_of_mem _ hz)
    have h2 := h y (by simp)
    have e : bytesL (y :: l) = lineB y ++ bytesL l := by unfold bytesL; rw [List.flatMap_cons]
    have h3 : (lineB y).length = y.1.length + y.2.length + 4 := lineB_len y.1 y.2
    rw [e, List.length_append, List.length_cons]
    omega
theorem made_open (x : SeedL) : (openB (madeM x) nTE sChunked).length ≤ 3100 := by
  have h1 := first_len (made_ok x)
  have h2 := bytesL_small (l := (madeM x).heads) fun y hy => ⟨(made_head hy).2, isVl_len (okH_one.1 (made_head hy).1).2⟩
  have h3 := made_heads x
  unfold openB
  simp only [List.length_append, lineB_len, List.length_cons, List.length_nil]
  have h4 : nTE.length = 17 := rfl
  have h5 : sChunked.length = 7 := rfl
  omega
/-- what is more than may be in chunks has a long body -/
theorem made_long {x : SeedL} {n : Nat} (hn : 1 ≤ n) (h : ¬ (chunkB (madeM x) n).length ≤ 8192) : 500 < (madeM x).body.length := by
  rw [chunk_open, pieces_chunk, List.length_append] at h
  have h1 := chunkL_len ((madeM x).body.length + 1) n (madeM x).body hn
  have h2 := made_open x
  omega
/-- what Parse makes of bytes that are a message, with its rows -/
theorem parse_own {w : World} {A : Option Addr} {c n : Nat} {x : List UInt8} {m : Msg} (h : Rb w.heap.size w A c x) (hn : n = x.length) (hG : Gl w) (hs : x.length ≤ 1000000) (hE : parseM x = .ok m) :
    Calls Tryz.prog 28 #[.slice A n c] w fun e w' => Below w.heap.size w w' ∧ ∃ (Ah : Option Addr) (ch : Nat) (Ab : Option Addr) (cb : Nat), e = .returned (.tuple #[.agg #[.string ⟨m.meth.toArray⟩, .string ⟨m.path.toArray⟩, .int .i64 m.status, .slice Ah m.heads.length ch, .slice Ab m.body.length cb], .int .i64 0]) ∧
      Sm m.heads ∧ OwnH w' w.heap.size (.slice Ah m.heads.length ch) m.heads ∧ OwnB w' w.heap.size (.slice Ab m.body.length cb) m.body := by
  subst hn
  refine (parse_any h hG hs).mono ?_
  rintro e w' ⟨hb, hp2⟩
  rw [hE] at hp2
  exact ⟨hb, hp2⟩
theorem ok_path {m : Msg} (h : okM m = true) : m.path.length ≤ 1000000 := by
  rcases (okM_split h).1 with h | h
  · unfold isReq isPath at h
    simp only [Bool.and_eq_true, decide_eq_true_eq] at h
    omega
  · unfold isAns at h
    simp only [Bool.and_eq_true, beq_iff_eq] at h
    rw [h.2.1]
    exact Nat.zero_le _
theorem msgV_own {W : World} {base : Nat} {m : Msg} {Ah : Option Addr} {ch : Nat} {Ab : Option Addr} {cb : Nat} (hok : okM m = true) (hsm : Sm m.heads) (hO : OwnH W base (.slice Ah m.heads.length ch) m.heads) (hB : OwnB W base (.slice Ab m.body.length cb) m.body) :
    MsgV W m (.slice Ah m.heads.length ch) Ab cb := by
  refine ⟨hO.hs, hsm, ok_path hok, ?_⟩
  obtain ⟨A2, c2, e2, hr⟩ := hB.rb
  injection e2 with e3 e4 e5
  subst e3 e5
  exact hr
/-- Chunked, where the bytes are few enough; and where not. -/
theorem chunked_yes (m : Msg) (hV : Value) (Ab : Option Addr) (cb : Nat) (k : Nat) (h1 : k < 4095) (w : World) (h : MsgV w m hV Ab cb) (hG : Gl w) (hok : okM m = true) (hle : (chunkB m (k + 1)).length ≤ 8192) :
    Calls Tryz.prog 11 #[.agg #[.string ⟨m.meth.toArray⟩, .string ⟨m.path.toArray⟩, .int .i64 m.status, hV, .slice Ab m.body.length cb], .int .i64 (1 + (k : Int))] w fun e w' =>
      ∃ (A : Option Addr) (c : Nat), e = .returned (.tuple #[.slice A (chunkB m (k + 1)).length c, .int .i64 0]) ∧ RowG w' w.heap.size A c (chunkB m (k + 1)) ∧ Below w.heap.size w w' := by
  have := chunked_ok m hV Ab cb (k + 1) (by omega) (by omega) w h hG hok
  rw [show ((k + 1 : Nat) : Int) = 1 + (k : Int) by omega] at this
  refine this.mono fun e w' ⟨hb, h⟩ => ?_
  rw [if_pos hle] at h
  obtain ⟨A, c, e1, hr⟩ := h
  exact ⟨A, c, e1, hr, hb⟩
theorem chunked_no (m : Msg) (hV : Value) (Ab : Option Addr) (cb : Nat) (k : Nat) (h1 : k < 4095) (w : World) (h : MsgV w m hV Ab cb) (hG : Gl w) (hok : okM m = true) (hle : ¬ (chunkB m (k + 1)).length ≤ 8192) :
    Calls Tryz.prog 11 #[.agg #[.string ⟨m.meth.toArray⟩, .string ⟨m.path.toArray⟩, .int .i64 m.status, hV, .slice Ab m.body.length cb], .int .i64 (1 + (k : Int))] w fun e w' =>
      e = .returned (.tuple #[.slice none 0 0, .int .i64 5]) ∧ Below w.heap.size w w' := by
  have := chunked_ok m hV Ab cb (k + 1) (by omega) (by omega) w h hG hok
  rw [show ((k + 1 : Nat) : Int) = 1 + (k : Int) by omega] at this
  refine this.mono fun e w' ⟨hb, h⟩ => ?_
  rw [if_neg hle] at h
  exact ⟨h, hb⟩
set_option maxRecDepth 100000 in
set_option maxHeartbeats 4000000 in
theorem back_any (x : SeedL) (Av : Option Addr) (cv : Nat) (Ab : Option Addr) (cb : Nat) (sz : Int) (w : World) (h : SeedV w x Av cv Ab cb) (hG : Gl w) :
    Calls Tryz.prog 4 #[.agg (seedA x Av cv Ab cb), .int .i64 sz] w fun e w' => e = .returned (.bool true) ∧ Below w.heap.size w w' := by
  have hb0 := below_new w (.cells (seedA x Av cv Ab cb) 42)
  have CS := Lib.hid (Cs.new w [.int .i64 x.meth, .int .i64 x.status, .string ⟨x.path.toArray⟩, .string ⟨x.host.toArray⟩, .slice Av x.vals.length cv, .slice Ab x.body.length cb] 42)
  have SV := Lib.hid (h.below hb0)
  have B0 := Lib.hid hb0
  have HG := Lib.hid fun w' (h : Below w.heap.size w w') => hG.fresh h
  have HW := Lib.hid fun w' (h : Below w.heap.size w w') => works_any w' (hG.fresh h)
  obtain ⟨k, ek, lk⟩ : ∃ k : Nat, sz % 4095 = k ∧ k < 4095 := ⟨(sz % 4095).toNat, by have := Int.emod_nonneg sz (b := 4095) (by decide); omega, by have := Int.emod_lt_of_pos sz (b := 4095) (by decide); omega⟩
  have QB := Lib.hid fun w => bring_any sz 4095 w (by decide) (by decide)
  rw [ek] at QB
  have hw1 : IntKind.i64.wrap (1 + (k : Int)) = 1 + k := by rw [IntKind.wrap_i64]; omega
  have HOK := Lib.hid (made_ok x)
  have HEN := Lib.hid (parse_enc (made_ok x))
  have HEL := Lib.hid (enc_len (made_ok x))
  have HLG := Lib.hid fun n hn => made_long (x := x) (n := n) hn
  clear hb0 h hG
  go_enter Tryz.func4, Tryz.ntmps4
  go_wp2_with fail
  generalize w.alloc (.cells (seedA x Av cv Ab cb) 42) = w0 at *
  go_at_call 26
  refine (HW.out _ B0.out).mono ?_
  rintro e w1 ⟨rfl, hb1⟩
  have B1 := Lib.hid (Below.and B0.out hb1)
  have CS1 := Lib.hid (CS.out.below hb1)
  have CM := Lib.hid (made_any x Av cv Ab cb w1 (SV.out.below hb1))
  have s0 := CS1.out.c 0 (by simp)
  have s1 := CS1.out.c 1 (by simp)
  have s2 := CS1.out.c 2 (by simp)
  have s3 := CS1.out.c 3 (by simp)
  have s4 := CS1.out.c 4 (by simp)
  have s5 := CS1.out.c 5 (by simp)
  clear hb1 CS SV B0
  go_wp2_with fail
  go_at_call 27
  refine CM.out.mono ?_
  rintro e w2 ⟨Ah, ch, A2, c2, rfl, hM, hb2⟩
  clear s0 s1 s2 s3 s4 s5 CS1 CM
  generalize madeM x = m at *
  have hbn := below_new w2 (.cells (msg5 m (.slice Ah m.heads.length ch) A2 c2) 25)
  have M3 := Lib.hid (hM.below hbn)
  have B3 := Lib.hid (Below.and (Below.and B1.out hb2) hbn)
  have C3 := Lib.hid (msg_cs w2 m (.slice Ah m.heads.length ch) A2 c2)
  have d0 := C3.out.c 0 (by simp)
  have d1 := C3.out.c 1 (by simp)
  have d2 := C3.out.c 2 (by simp)
  have d3 := C3.out.c 3 (by simp)
  have d4 := C3.out.c 4 (by simp)
  clear hbn hM hb2 B1
  go_wp2_with fail
  clear d0 d1 d2 d3 d4
  generalize w2.alloc (.cells (msg5 m (.slice Ah m.heads.length ch) A2 c2) 25) = w3 at *
  generalize w2.heap.size = gm at *
  go_at_call 9
  refine (bytes_ok m _ A2 c2 _ M3.out (HG.out _ B3.out) HOK.out).mono ?_
  rintro e w4 ⟨A4, c4, rfl, hr4, hb4⟩
  have B4 := Lib.hid (Below.and B3.out hb4)
  have M4 := Lib.hid (M3.out.below hb4)
  have C4 := Lib.hid (C3.out.below hb4)
  have CP := Lib.hid (parse_ok hr4.rb rfl (HG.out _ B4.out) (Nat.le_trans HEL.out (by decide)) HEN.out)
  clear hr4 hb4 M3 B3 C3
  go_wp2_with fail
  go_at_call 28
  refine CP.out.mono ?_
  rintro e w5 ⟨hb5, hV5, A5, c5, rfl, hM5, Ah5, ch5, rfl⟩
  have hbn := below_new w5 (.cells (msg5 m (.slice Ah5 m.heads.length ch5) A5 c5) 25)
  have hb6 := Below.and hb5 hbn
  have N6 := Lib.hid (hM5.below hbn)
  have M5g := Lib.hid (M4.out.below hb5)
  have KB6 := Lib.hid hbn
  have HGK := Lib.hid (Below.and B4.out hb5).size
  have hne : ¬ gm = w5.heap.size := by have := C4.out.lt; have := hb5.size; omega
  have HNE : Hid (¬ gm = w5.heap.size ∧ ¬ w5.heap.size = gm) := ⟨hne, fun e => hne e.symm⟩
  clear hne
  have B6 := Lib.hid (Below.and B4.out hb6)
  have M6 := Lib.hid (M4.out.below hb6)
  have D6 := Lib.hid (msg_cs w5 m (.slice Ah5 m.heads.length ch5) A5 c5)
  have C6 := Lib.hid (C4.out.below hb6)
  have d0 := C6.out.c 0 (by simp)
  have d1 := C6.out.c 1 (by simp)
  have d2 := C6.out.c 2 (by simp)
  have d3 := C6.out.c 3 (by simp)
  have d4 := C6.out.c 4 (by simp)
  clear CP hb5 hbn hM5 hb6 M4 B4 C4 HEL HEN
  go_wp2_with fail
  clear d0 d1 d2 d3 d4
  generalize w5.alloc (.cells (msg5 m (.slice Ah5 m.heads.length ch5) A5 c5) 25) = w6 at *
  generalize hgk : w5.heap.size = gk at *
  go_at_call 13
  have CK := check_msg m _ A2 c2 _ M6.out.hs M6.out.sm M6.out.pl (HG.out _ B6.out)
  rw [HOK.out, if_pos rfl] at CK
  refine CK.mono ?_
  clear CK
  rintro e w7 ⟨rfl, hb7⟩
  have B7 := Lib.hid (Below.and B6.out hb7)
  have M7 := Lib.hid (M6.out.below hb7)
  have N7 := Lib.hid (N6.out.below hb7)
  have C7 := Lib.hid (C6.out.below hb7)
  have D7 := Lib.hid (D6.out.below hb7)
  have KB7 : Hid (Below gk w5 w7) := KB6.out.trans (hb7.mono (Nat.le_of_lt D6.out.lt))
  have d0 := C7.out.c 0 (by simp)
  have d1 := C7.out.c 1 (by simp)
  have d2 := C7.out.c 2 (by simp)
  have d3 := C7.out.c 3 (by simp)
  have d4 := C7.out.c 4 (by simp)
  have e0 := D7.out.c 0 (by simp)
  have e1 := D7.out.c 1 (by simp)
  have e2 := D7.out.c 2 (by simp)
  have e3 := D7.out.c 3 (by simp)
  have e4 := D7.out.c 4 (by simp)
  clear hb7 B6 M6 N6 C6 D6
  go_wp2_with fail
  go_at_call 16
  refine (same_yes m _ _ A2 A5 c2 c5 _ M7.out N7.out).mono ?_
  rintro e w8 ⟨rfl, hb8⟩
  clear d0 d1 d2 d3 d4 e0 e1 e2 e3 e4
  have hb9 := Below.and hb8 (below_drewN (Below.refl w8.heap.size w8) 1)
  have B9 : Hid (Below w.heap.size w w8.drew) := Below.and B7.out hb9
  have M9 : Hid (MsgV w8.drew m (.slice Ah m.heads.length ch) A2 c2) := M7.out.below hb9
  have C9 : Hid (Cs w8.drew gm [.string ⟨m.meth.toArray⟩, .string ⟨m.path.toArray⟩, .int .i64 m.status, .slice Ah m.heads.length ch, .slice A2 m.body.length c2]) := C7.out.below hb9
  have D9 : Hid (Cs w8.drew gk [.string ⟨m.meth.toArray⟩, .string ⟨m.path.toArray⟩, .int .i64 m.status, .slice Ah5 m.heads.length ch5, .slice A5 m.body.length c5]) := D7.out.below hb9
  have KB9 : Hid (Below gk w5 w8.drew) := KB7.out.trans (hb9.mono (Nat.le_of_lt D7.out.lt))
  have HD : Hid (w8.drew.cell? ⟨gm, 0, none⟩ = some (.string ⟨m.meth.toArray⟩) ∧ w8.drew.cell? ⟨gm, 1, none⟩ = some (.string ⟨m.path.toArray⟩) ∧ w8.drew.cell? ⟨gm, 2, none⟩ = some (.int .i64 m.status) ∧ w8.drew.cell? ⟨gm, 3, none⟩ = some (.slice Ah m.heads.length ch) ∧ w8.drew.cell? ⟨gm, 4, none⟩ = some (.slice A2 m.body.length c2)) :=
    ⟨C9.out.c 0 (by simp), C9.out.c 1 (by simp), C9.out.c 2 (by simp), C9.out.c 3 (by simp), C9.out.c 4 (by simp)⟩
  clear hb8 hb9 M7 N7 C7 D7 B7
  go_wp2_with fail
  by_cases hle : (chunkB m (k + 1)).length ≤ 8192
  · have CC := Lib.hid (chunked_yes m _ A2 c2 k lk _ M9.out (HG.out _ B9.out) HOK.out hle)
    have HPC := Lib.hid (parse_chunks HOK.out (n := k + 1) (by omega) hle)
    have hle2 : (chunkB m (k + 1)).length ≤ 1000000 := by omega
    clear hle HLG
    generalize chunkB m (k + 1) = ck at *
    go_region_held3 (fun w' => w'.cell? ⟨gm, 0, none⟩ = some (.string ⟨m.meth.toArray⟩) ∧ w'.cell? ⟨gm, 1, none⟩ = some (.string ⟨m.path.toArray⟩) ∧ w'.cell? ⟨gm, 2, none⟩ = some (.int .i64 m.status) ∧ w'.cell? ⟨gm, 3, none⟩ = some (.slice Ah m.heads.length ch) ∧ w'.cell? ⟨gm, 4, none⟩ = some (.slice A2 m.body.length c2))
      (first | exact HD.out | exact HE.out)
      ((first
        | (go_at_call 29; refine (QB.out _).mono ?_; rintro e w' ⟨rfl, rfl⟩)
        | (go_at_call 11; refine CC.out.mono ?_; rintro e w10 ⟨A10, c10, rfl, hr10, hb10⟩; have HB10 := Lib.hid hb10; have HR10 := Lib.hid hr10; have HE := Lib.hid (And.intro ((C9.out.below hb10).c 0 (by simp)) (And.intro ((C9.out.below hb10).c 1 (by simp)) (And.intro ((C9.out.below hb10).c 2 (by simp)) (And.intro ((C9.out.below hb10).c 3 (by simp)) ((C9.out.below hb10).c 4 (by simp)))))); clear hb10 hr10)))
    all_goals
      have B10 := Lib.hid (Below.and B9.out HB10.out)
      have M10 := Lib.hid (M9.out.below HB10.out)
      have C10 := Lib.hid (C9.out.below HB10.out)
      have D10 := Lib.hid (D9.out.below HB10.out)
      have CP := Lib.hid (parse_own HR10.out.rb rfl (HG.out _ B10.out) hle2 HPC.out)
      clear HE HD HR10 B9 M9 C9 CC hle2 HPC
      go_wp2_with fail
      go_at_call 28
      refine CP.out.mono ?_
      rintro e w11 ⟨hb11, Ah11, ch11, A11, c11, rfl, hsm, hO, hB⟩
      have B11 := Lib.hid (Below.and B10.out hb11)
      have M11 := Lib.hid (M10.out.below hb11)
      have HS11 := Lib.hid hsm
      have HO11 := Lib.hid hO
      have HB11 := Lib.hid hB
      have HK11 : Hid (gk < w10.heap.size) := D10.out.lt
      have KB11 : Hid (Below gk w5 w11) := (KB9.out.trans (HB10.out.mono (Nat.le_of_lt D9.out.lt))).trans (hb11.mono (Nat.le_of_lt HK11.out))
      have C11 := Lib.hid (C10.out.below hb11)
      have D11 := Lib.hid (D10.out.below hb11)
      have d0 := C11.out.c 0 (by simp)
      have d1 := C11.out.c 1 (by simp)
      have d2 := C11.out.c 2 (by simp)
      have d3 := C11.out.c 3 (by simp)
      have d4 := C11.out.c 4 (by simp)
      have e0 := D11.out.c 0 (by simp)
      have e1 := D11.out.c 1 (by simp)
      have e2 := D11.out.c 2 (by simp)
      have e3 := D11.out.c 3 (by simp)
      have e4 := D11.out.c 4 (by simp)
      have f0 := D11.out.free 0 (by simp)
      have f1 := D11.out.free 1 (by simp)
      have f2 := D11.out.free 2 (by simp)
      have f3 := D11.out.free 3 (by simp)
      have f4 := D11.out.free 4 (by simp)
      have ne1 := HNE.out.1
      have ne2 := HNE.out.2
      clear CP hb11 hsm hO hB B10 M10 C10 D10
      go_wp2_with fail
      clear d0 d1 d2 d3 d4 e0 e1 e2 e3 e4 f0 f1 f2 f3 f4 ne1 ne2
      have hk := kp_msg (g := gk) (B := w11.heap.size) w11 (.string ⟨m.meth.toArray⟩) (.string ⟨m.path.toArray⟩) (.int .i64 m.status) (.slice Ah11 m.heads.length ch11) (.slice A11 m.body.length c11)
      have hbs := msg_set_below (B := w.heap.size) (w := w) (w1 := w11) B11.out (g := gk) HGK.out (.string ⟨m.meth.toArray⟩) (.string ⟨m.path.toArray⟩) (.int .i64 m.status) (.slice Ah11 m.heads.length ch11) (.slice A11 m.body.length c11)
      have hN := msgV_own HOK.out HS11.out (OwnH.kept HO11.out HK11.out hk) (OwnB.kept HB11.out HK11.out hk)
      have hbk : Below w5.heap.size w5 (((((w11.setCell ⟨gk, 0, none⟩ (.string ⟨m.meth.toArray⟩)).setCell ⟨gk, 1, none⟩ (.string ⟨m.path.toArray⟩)).setCell ⟨gk, 2, none⟩ (.int .i64 m.status)).setCell ⟨gk, 3, none⟩ (.slice Ah11 m.heads.length ch11)).setCell ⟨gk, 4, none⟩ (.slice A11 m.body.length c11)) := by
        rw [hgk]
        exact msg_set_below KB11.out (Nat.le_refl _) _ _ _ _ _
      have hM := M5g.out.below hbk
      go_at_call 16
      refine (same_yes m _ _ A2 A11 c2 c11 _ hM hN).mono ?_
      rintro e w13 ⟨rfl, hb13⟩
      have B13 := Lib.hid (Below.and hbs hb13)
      clear hb13 hM hbk hN hbs hk
      go_wp2_with fail
      go_ret
      exact ⟨rfl, B13.out⟩
  · have CC := Lib.hid (chunked_no m _ A2 c2 k lk _ M9.out (HG.out _ B9.out) HOK.out hle)
    have HL5 := Lib.hid (HLG.out (k + 1) (by omega) hle)
    clear hle HLG
    go_region_held3 (fun w' => w'.cell? ⟨gm, 0, none⟩ = some (.string ⟨m.meth.toArray⟩) ∧ w'.cell? ⟨gm, 1, none⟩ = some (.string ⟨m.path.toArray⟩) ∧ w'.cell? ⟨gm, 2, none⟩ = some (.int .i64 m.status) ∧ w'.cell? ⟨gm, 3, none⟩ = some (.slice Ah m.heads.length ch) ∧ w'.cell? ⟨gm, 4, none⟩ = some (.slice A2 m.body.length c2))
      (first | exact HD.out | exact HE.out)
      ((first
        | (go_at_call 29; refine (QB.out _).mono ?_; rintro e w' ⟨rfl, rfl⟩)
        | (go_at_call 11; refine CC.out.mono ?_; rintro e w10 ⟨rfl, hb10⟩; have HB10 := Lib.hid hb10; have HE := Lib.hid (And.intro ((C9.out.below hb10).c 0 (by simp)) (And.intro ((C9.out.below hb10).c 1 (by simp)) (And.intro ((C9.out.below hb10).c 2 (by simp)) (And.intro ((C9.out.below hb10).c 3 (by simp)) ((C9.out.below hb10).c 4 (by simp)))))); clear hb10)))
    all_goals
      have B10 := Lib.hid (Below.and B9.out HB10.out)
      have d4 := HE.out.2.2.2.2
      have hl5 : (500 : Int) < (m.body.length : Int) := by have := HL5.out; omega
      clear HE HD HB10 B9 M9 C9 D9 CC
      go_wp2_with fail
      go_ret
      exact ⟨rfl, B10.out⟩
end Go.Proofs.YtnjoadhkkfbeeaaGreatDoor
