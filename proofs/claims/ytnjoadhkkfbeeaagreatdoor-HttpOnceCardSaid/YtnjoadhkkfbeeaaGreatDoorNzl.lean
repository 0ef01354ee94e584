/- The statement HttpOnce. -/
import Derived.Test.YtnjoadhkkfbeeaaGreatDoorNzk
namespace Go.Proofs.YtnjoadhkkfbeeaaGreatDoor
open Go Go.RowKit

theorem emod_natL (p : Int) (n : Nat) (h : 0 < n) : ∃ k : Nat, p % (n : Int) = k ∧ k < n := by
  have h1 := Int.emod_nonneg p (b := (n : Int)) (by omega)
  have h2 := Int.emod_lt_of_pos p (b := (n : Int)) (by omega)
  exact ⟨(p % (n : Int)).toNat, by omega, by omega⟩
theorem row_pos {x : List UInt8} {m : Msg} (h : parseM x = .ok m) : 0 < x.length := by
  cases x with
  | nil =>
    have : parseM [] = .error 3 := by kernel_rfl
    rw [this] at h
    cases h
  | cons y x => simp
/-- what a message's bytes are, or that there are too many -/
def Bts (w wx : World) (m : Msg) (u v : Value) : Prop :=
  Below w.heap.size w wx ∧ ((∃ (A : Option Addr) (c : Nat) (x : List UInt8), u = .slice A x.length c ∧ v = .int .i64 0 ∧ RowG wx w.heap.size A c x ∧ parseM x = .ok m ∧ x.length ≤ 8192) ∨ (u = .slice none 0 0 ∧ v = .int .i64 5))
theorem more_err {x y : List UInt8} {m : Msg} (h : parseM x = .ok m) (hy : y ≠ []) : ∃ E : Int, parseM (x ++ y) = .error E ∧ (E = 4 ∨ (E = 5 ∧ 8192 < (x ++ y).length)) := by
  have := parse_more h hy
  by_cases hl : 8192 < (x ++ y).length
  · rw [if_pos hl] at this
    exact ⟨5, this, .inr ⟨rfl, hl⟩⟩
  · rw [if_neg hl] at this
    exact ⟨4, this, .inl rfl⟩
set_option maxRecDepth 100000 in
set_option maxHeartbeats 4000000 in
theorem once_any (x : SeedL) (Av : Option Addr) (cv : Nat) (Ab : Option Addr) (cb : Nat) (p0 p1 : Int) (Ay : Option Addr) (cy : Nat) (y : List UInt8) (w : World) (h : SeedV w x Av cv Ab cb) (hG : Gl w) (hy : Rb w.heap.size w Ay cy y) (hyl : y.length ≤ maxLen) :
    Calls Tryz.prog 5 #[.agg (seedA x Av cv Ab cb), .agg #[.int .i64 p0, .int .i64 p1], .slice Ay y.length cy] w fun e w' => e = .returned (.bool true) ∧ Below w.heap.size w w' := by
  have hb0 := below_new w (.cells (seedA x Av cv Ab cb) 42)
  have hb1 := Below.and hb0 (below_new _ (.cells #[.int .i64 p0, .int .i64 p1] 48))
  have hs0 : (w.alloc (.cells (seedA x Av cv Ab cb) 42)).heap.size = w.heap.size + 1 := by simp
  have CM := Lib.hid (made_any x Av cv Ab cb _ (h.below hb1))
  have CI := Lib.hid (Cs.new (w.alloc (.cells (seedA x Av cv Ab cb) 42)) [.int .i64 p0, .int .i64 p1] 48)
  rw [hs0] at CI
  have B1 := Lib.hid hb1
  have HG := Lib.hid fun w' (h : Below w.heap.size w w') => hG.fresh h
  have HW := Lib.hid fun w' (h : Below w.heap.size w w') => works_any w' (hG.fresh h)
  have HY := Lib.hid (hy.take 300)
  have ny : (min (y.length : Int) 300).toNat = (y.take 300).length := by rw [List.length_take]; omega
  have nyc : (min (y.length : Int) 300) ≤ (cy : Int) := by have := hy.cap; omega
  have nyl : (y.take 300).length ≤ 300 := by rw [List.length_take]; omega
  obtain ⟨k, ek, lk⟩ : ∃ k : Nat, p1 % 4095 = k ∧ k < 4095 := ⟨(p1 % 4095).toNat, by have := Int.emod_nonneg p1 (b := 4095) (by decide); omega, by have := Int.emod_lt_of_pos p1 (b := 4095) (by decide); omega⟩
  have QB := Lib.hid fun w => bring_any p1 4095 w (by decide) (by decide)
  rw [ek] at QB
  have hw1 : IntKind.i64.wrap (1 + (k : Int)) = 1 + k := by rw [IntKind.wrap_i64]; omega
  have HOK := Lib.hid (made_ok x)
  have HEN := Lib.hid (parse_enc (made_ok x))
  have HEL := Lib.hid (enc_len (made_ok x))
  unfold maxLen at hyl
  clear hb0 hb1 h hG hy ek
  generalize y.take 300 = z at *
  generalize y.length = yl at *
  go_enter Tryz.func5, Tryz.ntmps5
  go_wp2_with fail
  generalize (w.alloc (.cells (seedA x Av cv Ab cb) 42)).alloc (.cells #[.int .i64 p0, .int .i64 p1] 48) = w1 at *
  go_at_call 27
  refine CM.out.mono ?_
  rintro e w2 ⟨Ah, ch, A2, c2, rfl, hM, hb2⟩
  clear CM
  generalize madeM x = m at *
  have hbn := below_new w2 (.cells (msg5 m (.slice Ah m.heads.length ch) A2 c2) 25)
  have M3 := Lib.hid (hM.below hbn)
  have B3 := Lib.hid (Below.and (Below.and B1.out hb2) hbn)
  have I3 := Lib.hid ((CI.out.below hb2).below hbn)
  have C3 := Lib.hid (msg_cs w2 m (.slice Ah m.heads.length ch) A2 c2)
  have d0 := C3.out.c 0 (by simp)
  have d1 := C3.out.c 1 (by simp)
  have d2 := C3.out.c 2 (by simp)
  have d3 := C3.out.c 3 (by simp)
  have d4 := C3.out.c 4 (by simp)
  clear hbn hM hb2 B1 CI
  go_wp2_with fail
  clear d0 d1 d2 d3 d4
  generalize w2.alloc (.cells (msg5 m (.slice Ah m.heads.length ch) A2 c2) 25) = w3 at *
  generalize w2.heap.size = gm at *
  go_at_call 9
  refine (bytes_ok m _ A2 c2 _ M3.out (HG.out _ B3.out) HOK.out).mono ?_
  rintro e w4 ⟨A4, c4, rfl, hr4, hb4⟩
  have B4 := Lib.hid (Below.and B3.out hb4)
  have M4 := Lib.hid (M3.out.below hb4)
  have C4 := Lib.hid (C3.out.below hb4)
  have I4 := Lib.hid (I3.out.below hb4)
  have R4 := Lib.hid (hr4.up B3.out.size)
  have q1 := I4.out.c 1 (by simp)
  clear hr4 hb4 M3 B3 C3 I3
  go_upto_if 23 with fail
  go_cut [8, 9] from 22 to 32 (fun u v wx => Hid (Bts w wx m u v) ∧ Hid (Cs wx (w.heap.size + 1) [.int .i64 p0, .int .i64 p1]))
  case first =>
    by_cases hp : p1.tmod 2 = 0
    · have hbd : Below w4.heap.size w4 w4.drew := below_drewN (Below.refl _ _) 1
      have B5 : Hid (Below w.heap.size w w4.drew) := Below.and B4.out hbd
      have M5 : Hid (MsgV w4.drew m (.slice Ah m.heads.length ch) A2 c2) := M4.out.below hbd
      have C5 : Hid (Cs w4.drew gm [.string ⟨m.meth.toArray⟩, .string ⟨m.path.toArray⟩, .int .i64 m.status, .slice Ah m.heads.length ch, .slice A2 m.body.length c2]) := C4.out.below hbd
      have I5 : Hid (Cs w4.drew (w.heap.size + 1) [.int .i64 p0, .int .i64 p1]) := I4.out.below hbd
      have HD : Hid (w4.drew.cell? ⟨gm, 0, none⟩ = some (.string ⟨m.meth.toArray⟩) ∧ w4.drew.cell? ⟨gm, 1, none⟩ = some (.string ⟨m.path.toArray⟩) ∧ w4.drew.cell? ⟨gm, 2, none⟩ = some (.int .i64 m.status) ∧ w4.drew.cell? ⟨gm, 3, none⟩ = some (.slice Ah m.heads.length ch) ∧ w4.drew.cell? ⟨gm, 4, none⟩ = some (.slice A2 m.body.length c2) ∧ w4.drew.cell? ⟨w.heap.size + 1, 1, none⟩ = some (.int .i64 p1)) :=
        ⟨C5.out.c 0 (by simp), C5.out.c 1 (by simp), C5.out.c 2 (by simp), C5.out.c 3 (by simp), C5.out.c 4 (by simp), I5.out.c 1 (by simp)⟩
      have HDD : Hid (∀ wy, Below w4.drew.heap.size w4.drew wy → wy.cell? ⟨gm, 0, none⟩ = some (.string ⟨m.meth.toArray⟩) ∧ wy.cell? ⟨gm, 1, none⟩ = some (.string ⟨m.path.toArray⟩) ∧ wy.cell? ⟨gm, 2, none⟩ = some (.int .i64 m.status) ∧ wy.cell? ⟨gm, 3, none⟩ = some (.slice Ah m.heads.length ch) ∧ wy.cell? ⟨gm, 4, none⟩ = some (.slice A2 m.body.length c2) ∧ wy.cell? ⟨w.heap.size + 1, 1, none⟩ = some (.int .i64 p1)) := fun wy hb =>
        ⟨(C5.out.below hb).c 0 (by simp), (C5.out.below hb).c 1 (by simp), (C5.out.below hb).c 2 (by simp), (C5.out.below hb).c 3 (by simp), (C5.out.below hb).c 4 (by simp), (I5.out.below hb).c 1 (by simp)⟩
      clear hbd M4 C4 I4 B4 R4
      have CC : Hid (Calls Tryz.prog 11 #[.agg #[.string ⟨m.meth.toArray⟩, .string ⟨m.path.toArray⟩, .int .i64 m.status, .slice Ah m.heads.length ch, .slice A2 m.body.length c2], .int .i64 (1 + (k : Int))] w4.drew fun e w' =>
          ∃ u v, e = .returned (.tuple #[u, v]) ∧ Below w4.drew.heap.size w4.drew w' ∧ Bts w w' m u v) := by
        by_cases hle : (chunkB m (k + 1)).length ≤ 8192
        · refine (chunked_yes m _ A2 c2 k lk _ M5.out (HG.out _ B5.out) HOK.out hle).mono ?_
          rintro e w' ⟨A, c, rfl, hr, hb⟩
          exact ⟨_, _, rfl, hb, Below.and B5.out hb, .inl ⟨A, c, _, rfl, rfl, hr.up B5.out.size, parse_chunks HOK.out (by omega) hle, hle⟩⟩
        · refine (chunked_no m _ A2 c2 k lk _ M5.out (HG.out _ B5.out) HOK.out hle).mono ?_
          rintro e w' ⟨rfl, hb⟩
          exact ⟨_, _, rfl, hb, Below.and B5.out hb, .inr ⟨rfl, rfl⟩⟩
      have hpb : (p1.tmod 2 == 0) = true := by rw [hp]; rfl
      go_wp2_with fail
      go_region_held3 (fun wy => wy.cell? ⟨gm, 0, none⟩ = some (.string ⟨m.meth.toArray⟩) ∧ wy.cell? ⟨gm, 1, none⟩ = some (.string ⟨m.path.toArray⟩) ∧ wy.cell? ⟨gm, 2, none⟩ = some (.int .i64 m.status) ∧ wy.cell? ⟨gm, 3, none⟩ = some (.slice Ah m.heads.length ch) ∧ wy.cell? ⟨gm, 4, none⟩ = some (.slice A2 m.body.length c2) ∧ wy.cell? ⟨w.heap.size + 1, 1, none⟩ = some (.int .i64 p1))
        (first | exact HD.out | exact HE.out)
        ((first
          | (go_at_call 29; refine (QB.out _).mono ?_; rintro e w' ⟨rfl, rfl⟩)
          | (go_at_call 11; refine CC.out.mono ?_; rintro e w10 ⟨u, v, rfl, hb10, hbt⟩; have HB10 := Lib.hid hb10; have HT10 := Lib.hid hbt; have HE := Lib.hid (HDD.out _ hb10); clear hb10 hbt)))
      all_goals
        go_wp2_with fail
        go_meet
        case rel => exact ⟨HT10.out, I5.out.below HB10.out⟩
    · have hpb : (p1.tmod 2 == 0) = false := by rw [beq_eq_false_iff_ne]; exact hp
      go_wp2_with fail
      go_meet
      case rel => exact ⟨⟨B4.out, .inl ⟨A4, c4, _, rfl, rfl, R4.out, HEN.out, HEL.out⟩⟩, I4.out⟩
  case rest =>
    obtain ⟨HT, HI⟩ := hcut
    generalize wc = w5 at *
    clear q1 M4 C4 I4 B4 R4 HEN HEL
    obtain ⟨hb5, ht⟩ := HT.out
    have B5 := Lib.hid hb5
    rcases ht with ⟨A, c, b, rfl, rfl, hr, hE, hbl⟩ | ⟨rfl, rfl⟩
    · have R5 := Lib.hid hr
      have hbp : 0 < b.length := row_pos hE
      obtain ⟨k0, ek0, lk0⟩ := emod_natL p0 b.length hbp
      have QB0 := Lib.hid fun w => bring_any p0 b.length w (by omega) (by omega)
      rw [ek0] at QB0
      have HC := Lib.hid (parse_cut hE k0 lk0)
      have HT0 : Hid ((b.take k0).length = k0) := by show _ = _; rw [List.length_take]; omega
      have HM := Lib.hid (fun (y : List UInt8) (hy : y ≠ []) => more_err hE hy)
      have q0 := HI.out.c 0 (by simp)
      have kc : (k0 : Int) ≤ (c : Int) := by have := hr.le; omega
      have k0n : ¬ ((k0 : Int) < 0) := by omega
      have hb0 : ¬ ((b.length : Int) = 0) := by omega
      have HBL := Lib.hid hbl
      clear hr hb5 HT hE ek0
      generalize hbn : b.length = bn at *
      go_wp2_with fail
      go_at_call 29
      refine (QB0.out _).mono ?_
      rintro e w' ⟨rfl, rfl⟩
      go_wp2_with fail
      go_at_call 30
      have B5r := R5.out.rb
      refine (wrong_yes (x := b.take k0) (B5r.take k0) HT0.out.symm (HG.out _ B5.out) (by rw [HT0.out]; omega) HC.out).mono ?_
      clear B5r
      rintro e w6 ⟨rfl, hb6⟩
      have B6 := Lib.hid (Below.and B5.out hb6)
      have R6 := Lib.hid (R5.out.below hb6)
      clear hb6 q0 QB0 HC HT0 R5
      have CB := Lib.hid (copyB_any (n := bn) R6.out.rb hbn.symm (by omega))
      generalize hzn : z.length = zn at *
      go_upto_region 12 with fail
      go_wp2_with fail
      go_at_call 22
      refine CB.out.mono ?_
      rintro e w7 ⟨A7, c7, rfl, hr7, hb7⟩
      have B7 := Lib.hid (Below.and B6.out hb7)
      have R7 := Lib.hid (hr7.up B6.out.size)
      have HS7 := Lib.hid (src_rb (HY.out.keep fun k hk => B7.out.block k hk))
      rw [hzn] at HS7
      clear hr7 hb7 R6 CB
      by_cases hz0 : zn = 0
      · subst hz0
        obtain rfl : z = [] := List.eq_nil_of_length_eq_zero hzn
        clear hzn HM
        go_wp2_with (at_builtin; refine wpList_pushG rfl (.tmp 58) (.tmp 59) 23 rfl w7 w.heap.size A7 c7 bn 0 b [] (.slice Ay 0 cy) hbn rfl rfl rfl R7.out HS7.out B7.out.size (by omega) ?_; intro A8 c8 w8 hr8 hb8 _; have R8 := Lib.hid hr8; have B8 := Lib.hid (B7.out.trans hb8); clear hr8 hb8)
        go_at_call 26
        refine (HW.out _ B8.out).mono ?_
        rintro e w9 ⟨rfl, hb9⟩
        have B9 := Lib.hid (Below.and B8.out hb9)
        clear hb9
        go_wp2_with fail
        go_ret
        exact ⟨rfl, B9.out⟩
      · have hzz : ((zn : Int) == 0) = false := by rw [beq_eq_false_iff_ne]; omega
        obtain ⟨E, hE, hE2⟩ := HM.out z (fun e => hz0 (by rw [← hzn, e]; rfl))
        have hlen : (b ++ z).length = bn + zn := by rw [List.length_append, hbn, hzn]
        rw [hlen] at hE2
        have HE := Lib.hid hE
        have HLEN := Lib.hid hlen
        clear hE hlen HM
        go_wp2_with (at_builtin; refine wpList_pushG rfl (.tmp 58) (.tmp 59) 23 rfl w7 w.heap.size A7 c7 bn zn b z (.slice Ay zn cy) hbn hzn rfl rfl R7.out (by rw [hzn]; exact HS7.out) B7.out.size (by omega) ?_; intro A8 c8 w8 hr8 hb8 _; have R8 := Lib.hid hr8; have B8 := Lib.hid (B7.out.trans hb8); clear hr8 hb8)
        go_at_call 28
        have CP := parse_any (x := b ++ z) R8.out.rb (HG.out _ B8.out) (by rw [HLEN.out]; omega)
        rw [HLEN.out] at CP
        refine CP.mono ?_
        clear CP
        rintro e w9 ⟨hb9, hp9⟩
        rw [HE.out] at hp9
        obtain ⟨rfl, _⟩ := hp9
        have B9 := Lib.hid (Below.and B8.out hb9)
        have B10 := Lib.hid (Below.and B9.out (below_new w9 (.cells zero5 25)))
        clear hb9 HE
        rcases hE2 with rfl | ⟨rfl, hl⟩
        · go_wp2_with fail
          go_at_call 26
          refine (HW.out _ B10.out).mono ?_
          rintro e w11 ⟨rfl, hb11⟩
          have B11 := Lib.hid (Below.and B10.out hb11)
          clear hb11
          go_wp2_with fail
          go_ret
          exact ⟨rfl, B11.out⟩
        · have hl2 : (8192 : Int) < ((bn + zn : Nat) : Int) := by omega
          have hl3 : (8192 : Int) < (bn : Int) + (zn : Int) := by omega
          go_wp2_with fail
          go_at_call 26
          refine (HW.out _ B10.out).mono ?_
          rintro e w11 ⟨rfl, hb11⟩
          have B11 := Lib.hid (Below.and B10.out hb11)
          clear hb11
          go_wp2_with fail
          go_ret
          exact ⟨rfl, B11.out⟩
    · clear HT hb5
      go_wp2_with fail
      go_at_call 26
      refine (HW.out _ B5.out).mono ?_
      rintro e w6 ⟨rfl, hb6⟩
      have B6 := Lib.hid (Below.and B5.out hb6)
      clear hb6
      go_wp2_with fail
      go_ret
      exact ⟨rfl, B6.out⟩
end Go.Proofs.YtnjoadhkkfbeeaaGreatDoor
