/- HelloCut. -/
import Derived.Test.YtiakbmllpnabnaaGreatDoorKzm
namespace Go.Proofs.YtiakbmllpnabnaaGreatDoor
open Go Go.RowKit

theorem wpList_pushGG {ops : Array Oper} {rest : List Oper} {o : Oper} {a : Act} {w : World} {Q : Exit → Act → World → Prop} (hw : Region.wanted o (yielded ops a.tmps) = true) (s x : Operand) (tx : TypeId)
    (ho : o.op = .call { callee := .builtin .append, args := #[s, x], argTypes := #[22, tx] }) (base : Nat) (A : Option Addr) (c n m : Nat) (l z : List UInt8) (xv : Value) (hn : l.length = n) (hm : z.length = m)
    (hs : a.eval s = .slice A n c) (hx : a.eval x = xv) (h : RowG w base A c l) (hsrc : Src Tryz.prog 1 tx xv z.length (Lib.byteCells z) w) (hbase : base ≤ w.heap.size) (hlen : n + m ≤ 140737488355328)
    (hk : ∀ (A' : Option Addr) (c' : Nat) w', RowG w' base A' c' (l ++ z) → Below base w w' → wpList Tryz.prog ops Q rest (a.put o.dst (.slice A' (n + m) c')) w') :
    wpList Tryz.prog ops Q (o :: rest) a w := by
  subst hn hm
  refine wpList_step fun K hK => ?_
  rw [if_pos hw]
  obtain ⟨A', c', w', hr, h2, h3, _, _⟩ := run_pushG w base o.type tx A c l z xv h hsrc hbase hlen
  unfold Oper.wp execOp
  simp only [ho, resolve, invoke, builtin, Sem.run_bind, Sem.run_pure, Result.andThen_ok, List.map_toArray, List.map_cons, List.map_nil, hs, hx, hr]
  exact hK _ _ (hk A' c' w' h2 h3)
theorem run_sliceB {o : Oper} {a : Act} (w : World) (x hi : Operand) (ho : o.op = .slice 22 x none (some hi) none) (A : Option Addr) (n c k : Nat) (hx : a.eval x = .slice A n c) (hh : a.eval hi = .int .i64 k) (hk : k ≤ c) : (execOp a.eval o).run Tryz.prog w = .ok (.value (.slice A k c)) w := by
  have q0 : (0 : Int) ≤ k := by omega
  have q1 : (k : Int) ≤ c := by omega
  unfold execOp
  simp only [ho, Option.map_some, Option.map_none, hx, hh]
  go_simp
theorem wpList_sliceB {ops : Array Oper} {rest : List Oper} {o : Oper} {a : Act} {w : World} {Q : Exit → Act → World → Prop} (hgd : o.guard = none) (x hi : Operand) (ho : o.op = .slice 22 x none (some hi) none) (A : Option Addr) (n c k : Nat) (hx : a.eval x = .slice A n c) (hh : a.eval hi = .int .i64 k) (hk : k ≤ c)
    (h : wpList Tryz.prog ops Q rest (a.put o.dst (.slice A k c)) w) : wpList Tryz.prog ops Q (o :: rest) a w := by
  refine wpList_plain hgd fun K hK => ?_
  unfold Oper.wp
  rw [run_sliceB w x hi ho A n c k hx hh hk]
  exact hK _ _ h
theorem rb_cut {D : Nat} {w : World} {g c k : Nat} {B : List UInt8} (h : Rb D w (some ⟨g, 0, none⟩) c B) (hk : k ≤ B.length) (hc : ¬ c = k) : Rb D w (some ⟨g, k, none⟩) (c - k) (B.drop k) := by
  have := h.drop k hk
  rw [if_neg hc, Option.map_some, add_pl, Nat.zero_add] at this
  exact this
theorem infoSd (s : Sed) : (Tryz.prog.info? 46).map (·.size) = some (sedA s).size := by kernel_rfl
set_option maxRecDepth 100000 in
set_option maxHeartbeats 1000000 in
theorem helloCut_any {w : World} (hG : Gl w) {s : Sed} (h : SedV w.heap.size w s) (pos : Int) {A3 : Option Addr} {c3 : Nat} {mo : List UInt8} (hm : Rb w.heap.size w A3 c3 mo) :
    Calls Tryz.prog 7 #[.agg (sedA s), .int .i64 pos, .slice A3 mo.length c3] w (BoolP true w) := by
  have x0 := below_new w (.cells (sedA s) 46)
  have CM := Lib.hid (made_any (h.below x0))
  have HR := Lib.hid (heap_alloc_new w (.cells (sedA s) 46))
  have HGI := Lib.hid (infoSd s)
  have X0 := Lib.hid x0
  have HG := Lib.hid hG
  have HM := Lib.hid fun (wx : World) (hb : Below w.heap.size w wx) => hm.keep (w' := wx) fun k hk => hb.block k hk
  obtain ⟨mn, hmn⟩ : ∃ x, x = min mo.length 20 := ⟨_, rfl⟩
  have HMN : Hid (min (mo.length : Int) 20 = mn) := Lib.hid (by omega)
  have hmc := hm.cap
  have m0 : mn ≤ c3 := by omega
  have m1 : (mn : Int) ≤ c3 := by omega
  have m2 : (0 : Int) ≤ mn := by omega
  have m3 : mn ≤ 20 := by omega
  have HMT : Hid ((mo.take mn).length = mn) := Lib.hid (by rw [List.length_take]; omega)
  clear x0 h hG hm hmn hmc
  generalize mo.length = ml at *
  go_enter Tryz.func7, Tryz.ntmps7
  go_wp2_with (refine wpList_load_row rfl 46 (.tmp 3) rfl w.heap.size rfl 46 _ (0, 0) _ HR.out Tryz.underlying46 rfl HGI.out ?_)
  refine CM.out.mono ?_
  rintro e w1 ⟨G, ad, hh, rfl, hok, hlow, hne, hgr, hd, hb⟩
  have hb1 := below_new w1 (.cells (grtA G ad) 28)
  have B1 := X0.out.trans (hb.mono X0.out.size)
  have B2 := Lib.hid (B1.trans (hb1.mono B1.size))
  have CW := Lib.hid (write_prog7 (hgr.below hb1) (HG.out.below B2.out) hd)
  have HGI2 := Lib.hid (infoGA G ad)
  have HGO := Lib.hid (grtA_one G ad)
  have HR2 := Lib.hid (heap_alloc_new w1 (.cells (grtA G ad) 28))
  have HOK := Lib.hid hok
  clear hok hlow hne hgr hd hb hb1 B1 CM HR HGI X0
  go_wp2_with (first
    | (refine wpList_alloc7 rfl rfl w1.heap.size rfl ?_)
    | (refine wpList_store_row rfl 28 (.tmp 7) (.tmp 19) rfl w1.heap.size (grtA G ad) rfl rfl 28 _ (heap_alloc_new w1 _) HGI2.out rfl HGO.out ?_; rw [World.setRow_alloc_new])
    | (refine wpList_load_row rfl 28 (.tmp 7) rfl w1.heap.size rfl 28 _ (0, 0) _ HR2.out Tryz.underlying28 rfl HGI2.out ?_))
  refine CW.out.mono ?_
  rintro e w3 ⟨hw1, _⟩
  obtain ⟨A, c, rfl, hr, hb3⟩ := hw1 HOK.out
  have R3 := Lib.hid hr
  have B3 := Lib.hid (B2.out.trans (hb3.mono B2.out.size))
  clear hr hb3 hw1 CW HGI2 HGO HR2 B2
  generalize w1.alloc (.cells (grtA G ad) 28) = w2 at *
  obtain ⟨n, hn⟩ : ∃ n, n = (recG G).length := ⟨_, rfl⟩
  have hrl := rec_len HOK.out
  have P1 : Hid (∀ k, k < n → sniB ((recG G).take k) [] 70 = true) := Lib.hid fun k hk => sni_no (gcut_no HOK.out (by omega))
  have P2 : Hid (∀ m, m ≠ [] → sniB (recG G ++ m) [] 70 = true) := Lib.hid fun m hm => sni_no (gmore_no HOK.out hm)
  have HN : Hid ((recG G).length = n) := Lib.hid hn.symm
  have hn9 : 9 ≤ n := by omega
  have hn1 : n ≤ 16389 := by omega
  rw [HN.out]
  have hc : n ≤ c := by rw [hn]; exact R3.out.le
  clear hrl hn HOK
  generalize recG G = B at *
  obtain ⟨g, rfl⟩ := R3.out.some' (by rw [HN.out]; omega)
  have n6 : ¬ (n : Int) < 6 := by omega
  have hk0 := Int.emod_nonneg pos (show (n : Int) ≠ 0 by omega)
  have hk1 := Int.emod_lt_of_pos pos (show (0 : Int) < n by omega)
  have B5 := Lib.hid fun w => bring_any pos n w (by omega) (by omega)
  obtain ⟨kk, hkk⟩ : ∃ x : Nat, pos % (n : Int) = (x : Int) := ⟨(pos % (n : Int)).toNat, by omega⟩
  rw [hkk] at B5
  have k1 : (0 : Int) ≤ kk := by omega
  have k2 : (kk : Int) ≤ c := by omega
  have HKK : Hid (kk < n) := Lib.hid (by omega)
  clear hk0 hk1 hkk
  have hmn := HMN.out
  have RL1 := Lib.hid (rowG_lit w3 w3.heap.size [22] [.int .u8 22] rfl (Nat.le_refl _) (by decide))
  have BL1 := Lib.hid (below_new w3 (.cells #[.int .u8 22] 5))
  have SR1 : Hid (Src Tryz.prog 1 22 (.slice A3 mn c3) (mo.take mn).length (Lib.byteCells (mo.take mn)) (w3.alloc (.cells #[.int .u8 22] 5))) := Lib.hid (by
    have := src_rb ((HM.out _ (B3.out.trans (BL1.out.mono B3.out.size))).take mn)
    rw [HMT.out] at this ⊢
    exact this)
  go_wp2_with (first
    | (go_at_call 21; refine (B5.out _).mono ?_; rintro e w' ⟨rfl, rfl⟩)
    | (refine wpList_sliceB rfl (.tmp 38) (.tmp 41) rfl A3 ml c3 mn rfl rfl m0 ?_)
    | (at_builtin; refine wpList_pushG rfl (.tmp 37) (.tmp 42) 22 rfl _ w3.heap.size (some ⟨w3.heap.size, 0, none⟩) 1 1 mn [22] (mo.take mn) (.slice A3 mn c3) rfl HMT.out rfl rfl RL1.out SR1.out BL1.out.size (by omega) ?_; intro A4 c4 w4 hr4 hb4 _; have R4 := Lib.hid hr4; have E4 := Lib.hid (BL1.out.trans hb4); clear hr4 hb4 RL1 BL1 SR1))
  have HM4 : Hid (([22] ++ mo.take mn).length = 1 + mn) := Lib.hid (by rw [List.length_append, HMT.out]; rfl)
  have HMQ : Hid ([22] ++ mo.take mn ≠ []) := Lib.hid (by simp)
  generalize [22] ++ mo.take mn = M at *
  have B4 := Lib.hid (B3.out.trans (E4.out.mono B3.out.size))
  have R3b := Lib.hid (R3.out.below E4.out)
  have CS1 := Lib.hid (wsni HG.out B4.out (R3b.out.rb.take kk) (n := kk) (by rw [List.length_take, HN.out]; have := HKK.out; omega) [] 70 (P1.out kk HKK.out) (by have := HKK.out; omega))
  clear R3 E4 HM HMT P1 B3
  refine CS1.out.mono ?_
  rintro e w5 ⟨rfl, hb5⟩
  have R5 := Lib.hid (R3b.out.below hb5)
  have LT5 : Hid (g < w5.heap.size) := Lib.hid (R5.out.lt rfl).2
  have M5 := Lib.hid (R4.out.below hb5)
  have B5' := Lib.hid (B4.out.trans (hb5.mono B4.out.size))
  have CC1 := Lib.hid (copyB_any (n := n) R5.out.rb HN.out.symm (by rw [HN.out]; omega))
  clear CS1 hb5 R3b R4 B4
  go_wp2_with fail
  refine CC1.out.mono ?_
  rintro e w6 ⟨A6, c6, rfl, hr6, hb6⟩
  rw [HN.out]
  have R6 := Lib.hid hr6
  have S6 : Hid (Src Tryz.prog 1 22 (.slice A4 (1 + mn) c4) M.length (Lib.byteCells M) w6) := Lib.hid (by
    have := src_rb (M5.out.below hb6).rb
    rw [HM4.out] at this ⊢
    exact this)
  have Q6 := Lib.hid (R5.out.below hb6)
  have E6 := Lib.hid hb6
  have Z6 := Lib.hid hb6.size
  clear hr6 hb6 CC1 M5 R5
  go_wp2_with (at_builtin; refine wpList_pushGG (by rfl) (.tmp 51) (.tmp 52) 22 rfl w5.heap.size A6 c6 n (1 + mn) B M (.slice A4 (1 + mn) c4) HN.out HM4.out rfl rfl R6.out S6.out Z6.out (by omega) ?_; intro A7 c7 w7 hr7 hb7; have R7 := Lib.hid hr7; have E7 := Lib.hid (E6.out.trans hb7); have Q7 := Lib.hid hb7; clear hr7 hb7)
  have B7 := Lib.hid (B5'.out.trans (E7.out.mono B5'.out.size))
  have CS2 := Lib.hid (wsni HG.out B7.out R7.out.rb (n := n + (1 + mn)) (by rw [List.length_append, HN.out, HM4.out]) [] 70 (P2.out M HMQ.out) (by omega))
  have lt5 : Hid (∀ x, (some ⟨g, 0, none⟩ : Option Addr) = some ⟨x, 0, none⟩ → x < w5.heap.size) := Lib.hid fun x e => by cases e; exact LT5.out
  have Q7' : Hid (RowG w7 w2.heap.size (some ⟨g, 0, none⟩) c B) := Lib.hid (Q6.out.keep Q7.out.size fun x e => Q7.out.block x (lt5.out x e))
  clear R6 S6 Q6 E6 Z6 E7 Q7 R7 B5' HMQ HM4
  refine CS2.out.mono ?_
  rintro e w8 ⟨rfl, hb8⟩
  have R8 := Lib.hid (Q7'.out.below hb8)
  have B8 := Lib.hid (B7.out.trans (hb8.mono B7.out.size))
  have CC2 := Lib.hid (copyB_any (n := n) R8.out.rb HN.out.symm (by rw [HN.out]; omega))
  clear hb8 CS2 Q7' B7 lt5 LT5
  generalize M = M' at *
  go_wp2_with fail
  refine CC2.out.mono ?_
  rintro e w9 ⟨A9, c9, rfl, hr9, hb9⟩
  rw [HN.out]
  have R9 := Lib.hid hr9
  have Q9 := Lib.hid (R8.out.below hb9)
  have S9 : Hid (Src Tryz.prog 1 22 (.slice (some ⟨g, 0, none⟩) n c) B.length (Lib.byteCells B) w9) := Lib.hid (by
    have := src_rb Q9.out.rb
    rw [HN.out] at this ⊢
    exact this)
  have E9 := Lib.hid hb9
  have Z9 := Lib.hid hb9.size
  have LT8 : Hid (g < w8.heap.size) := Lib.hid (R8.out.lt rfl).2
  clear hr9 hb9 CC2 R8
  go_wp2_with (at_builtin; refine wpList_pushGG (by rfl) (.tmp 59) (.tmp 60) 22 rfl w8.heap.size A9 c9 n n B B (.slice (some ⟨g, 0, none⟩) n c) HN.out HN.out rfl rfl R9.out S9.out Z9.out (by omega) ?_; intro A10 c10 w10 hr10 hb10; have R10 := Lib.hid hr10; have E10 := Lib.hid (E9.out.trans hb10); have Q10 := Lib.hid hb10; clear hr10 hb10)
  have B10 := Lib.hid (B8.out.trans (E10.out.mono B8.out.size))
  have CS3 := Lib.hid (wsni HG.out B10.out R10.out.rb (n := n + n) (by rw [List.length_append, HN.out]) [] 70 (P2.out B (fun e => by have := HN.out; rw [e] at this; simp at this; omega)) (by omega))
  have Q10' : Hid (RowG w10 w2.heap.size (some ⟨g, 0, none⟩) c B) := Lib.hid (Q9.out.keep Q10.out.size fun x e => Q10.out.block x (by cases e; exact LT8.out))
  clear R9 S9 Q9 E9 Z9 E10 Q10 R10 LT8 B8 P2
  refine CS3.out.mono ?_
  rintro e w11 ⟨rfl, hb11⟩
  have R11 := Lib.hid (Q10'.out.below hb11)
  have B11 := Lib.hid (B10.out.trans (hb11.mono B10.out.size))
  clear hb11 CS3 Q10' B10 k1 k2 HKK B5 m0 m1 m2 m3 HMN hmn n6
  have hk0 := Int.emod_nonneg pos (show ((n : Int) - 5) ≠ 0 by omega)
  have hk1 := Int.emod_lt_of_pos pos (show (0 : Int) < (n : Int) - 5 by omega)
  have B9 := Lib.hid fun w => bring_any pos ((n : Int) - 5) w (by omega) (by omega)
  obtain ⟨r, hr⟩ : ∃ x : Nat, pos % ((n : Int) - 5) = (x : Int) := ⟨(pos % ((n : Int) - 5)).toNat, by omega⟩
  rw [hr] at B9
  have r1 : (r : Int) < (n : Int) - 5 := by omega
  have r2 : r < n - 5 := by omega
  have wn : IntKind.i64.wrap ((n : Int) - 5) = n - 5 := by have := wrap_i64_7 (n - 5) (by omega); rw [show ((n - 5 : Nat) : Int) = (n : Int) - 5 by omega] at this; exact this
  have wr5 : IntKind.i64.wrap ((5 : Int) + r) = 5 + r := by have := wrap_i64_7 (5 + r) (by omega); rw [show ((5 + r : Nat) : Int) = (5 : Int) + r by omega] at this; exact this
  clear hk0 hk1 hr
  go_wp2_with (go_at_call 21; refine (B9.out _).mono ?_; rintro e w' ⟨rfl, rfl⟩)
  have hgc : c ≤ maxLen := R11.out.most
  have rc1 : (0 : Int) ≤ 5 + r := by omega
  have rc2 : (5 : Int) + r ≤ c := by omega
  have rc3 : (5 : Int) ≤ 5 + r := by omega
  have rc4 : (5 : Int) + r ≤ n := by omega
  have rc5 : ¬ c = 5 := by omega
  have rc6 : ¬ c = 5 + r := by omega
  have hF3 : (B.take 3).length = 3 := by rw [List.length_take, HN.out]; omega
  have HF3 := Lib.hid hF3
  have HFL : Hid (((B.drop 5).take r).length = r) := Lib.hid (by rw [List.length_take, List.length_drop, HN.out]; omega)
  have HZL : Hid ((B.drop (5 + r)).length = n - (5 + r)) := Lib.hid (by rw [List.length_drop, HN.out])
  have HZP : Hid (0 < n - (5 + r)) := Lib.hid (by omega)
  have RD : Hid (RowG w11.drew w2.heap.size (some ⟨g, 0, none⟩) c B) := Lib.hid (R11.out.below (below_drewN (Below.refl _ _) 1))
  have BD : Hid (Below w.heap.size w w11.drew) := Lib.hid (below_drewN B11.out 1)
  have RF : Hid (∀ wx, Below w11.drew.heap.size w11.drew wx → Rb wx.heap.size wx (some ⟨g, 5, none⟩) (c - 5) ((B.drop 5).take r)) := Lib.hid fun wx hb => (rb_cut (RD.out.below hb).rb (k := 5) (by rw [HN.out]; omega) rc5).take r
  have RZ : Hid (∀ wx, Below w11.drew.heap.size w11.drew wx → Rb wx.heap.size wx (some ⟨g, 5 + r, none⟩) (c - (5 + r)) (B.drop (5 + r))) := Lib.hid fun wx hb => rb_cut (RD.out.below hb).rb (k := 5 + r) (by rw [HN.out]; omega) rc6
  have R3d : Hid (∀ wx, Below w11.drew.heap.size w11.drew wx → Rb wx.heap.size wx (some ⟨g, 0, none⟩) c (B.take 3)) := Lib.hid fun wx hb => (RD.out.below hb).rb.take 3
  have CC3 := Lib.hid (copyB_any (n := 3) (R3d.out _ (Below.refl _ _)) hF3.symm (by rw [hF3]; decide))
  go_region_law fail
  go_wp2_with fail
  have HZB : Hid (n - (5 + r) ≤ 16384 ∧ r ≤ 16384) := Lib.hid (by omega)
  refine CC3.out.mono ?_
  rintro e w12 ⟨A12, c12, rfl, hr12, hb12⟩
  rw [HF3.out]
  have HNO : Hid (∀ y, y ≠ [] → sniB (B.take 3 ++ [UInt8.ofNat (r / 256), UInt8.ofNat r] ++ (B.drop 5).take r ++ y) [] 70 = true) := Lib.hid fun y hy => sni_no (by
    have := gtwo_no (p := B.take 3) (x := (B.drop 5).take r) HF3.out (by rw [HFL.out]; omega) hy
    rw [HFL.out] at this
    exact this)
  have R12 := Lib.hid hr12
  have E12 := Lib.hid hb12
  generalize n - (5 + r) = zl at *
  generalize B.take 3 = P at *
  generalize (B.drop 5).take r = F at *
  generalize B.drop (5 + r) = Z at *
  generalize w11.drew = wd at *
  clear hr12 hb12 CC3 RD R11 B11 HN rc1 rc2 rc3 rc4 rc5 rc6 hF3
  have zb1 := HZB.out.1
  have zb2 := HZB.out.2
  have L1 := rowG_lit w12 w12.heap.size [UInt8.ofNat (r / 256), UInt8.ofNat r] [.int .u8 ((r : Int) / 256), .int .u8 ((r : Int) % 256)] (by simp [Lib.byteCells]; omega) (Nat.le_refl _) (by show 2 ≤ 1000000; decide)
  have hn1 := below_new w12 (.cells #[.int .u8 ((r : Int) / 256), .int .u8 ((r : Int) % 256)] 5)
  have SL1 := Lib.hid (src_rb L1.rb)
  have RL1 := Lib.hid (R12.out.below hn1)
  have EL1 := Lib.hid (E12.out.trans (hn1.mono E12.out.size))
  have HP3 : Hid ((P ++ [UInt8.ofNat (r / 256), UInt8.ofNat r]).length = 5) := Lib.hid (by rw [List.length_append, HF3.out]; rfl)
  clear L1 hn1 R12 E12
  go_wp2_with (first
    | (at_builtin; refine wpList_pushG rfl (.tmp 80) (.tmp 88) 22 rfl _ wd.heap.size A12 c12 3 2 P [UInt8.ofNat (r / 256), UInt8.ofNat r] _ HF3.out rfl rfl rfl RL1.out SL1.out EL1.out.size (by omega) ?_; intro A13 c13 w13 hr13 hb13 _; have R13 := Lib.hid hr13; have E13 := Lib.hid (EL1.out.trans hb13); have S13 := Lib.hid (src_rb (RF.out _ (EL1.out.trans hb13))); clear hr13 hb13 RL1 SL1 EL1)
    | (at_builtin; refine wpList_pushG rfl (.tmp 89) (.tmp 90) 22 rfl _ wd.heap.size A13 c13 5 r (P ++ [UInt8.ofNat (r / 256), UInt8.ofNat r]) F (.slice (some ⟨g, 5, none⟩) r (c - 5)) HP3.out HFL.out rfl rfl R13.out (by have := S13.out; rw [HFL.out] at this ⊢; exact this) E13.out.size (by omega) ?_; intro A14 c14 w14 hr14 hb14 _; have R14 := Lib.hid hr14; have E14 := Lib.hid (E13.out.trans hb14); have S14 := Lib.hid (src_rb (R3d.out _ (E13.out.trans hb14))); have HL14 : Hid ((P ++ [UInt8.ofNat (r / 256), UInt8.ofNat r] ++ F).length = 5 + r) := Lib.hid (by rw [List.length_append, HP3.out, HFL.out]); clear hr14 hb14 R13 E13 S13)
    | (at_builtin; refine wpList_pushG rfl (.tmp 92) (.tmp 94) 22 rfl _ wd.heap.size A14 c14 (5 + r) 3 (P ++ [UInt8.ofNat (r / 256), UInt8.ofNat r] ++ F) P (.slice (some ⟨g, 0, none⟩) 3 c) HL14.out HF3.out rfl rfl R14.out (by have := S14.out; rw [HF3.out] at this ⊢; exact this) E14.out.size (by omega) ?_; intro A15 c15 w15 hr15 hb15 _; have R15 := Lib.hid hr15; have E15 := Lib.hid (E14.out.trans hb15); have HL15 : Hid ((P ++ [UInt8.ofNat (r / 256), UInt8.ofNat r] ++ F ++ P).length = 5 + r + 3) := Lib.hid (by rw [List.length_append, HL14.out, HF3.out]); have L2 := rowG_lit w15 w15.heap.size [UInt8.ofNat (zl / 256), UInt8.ofNat zl] [.int .u8 ((zl : Int) / 256), .int .u8 ((zl : Int) % 256)] (by simp [Lib.byteCells]; omega) (Nat.le_refl _) (by show 2 ≤ 1000000; decide); have hn2 := below_new w15 (.cells #[.int .u8 ((zl : Int) / 256), .int .u8 ((zl : Int) % 256)] 5); have SL2 := Lib.hid (src_rb L2.rb); have RL2 := Lib.hid (R15.out.below hn2); have EL2 := Lib.hid (E15.out.trans (hn2.mono E15.out.size)); clear hr15 hb15 R14 E14 S14 L2 hn2)
    | (at_builtin; refine wpList_pushG rfl (.tmp 95) (.tmp 103) 22 rfl _ wd.heap.size A15 c15 (5 + r + 3) 2 (P ++ [UInt8.ofNat (r / 256), UInt8.ofNat r] ++ F ++ P) [UInt8.ofNat (zl / 256), UInt8.ofNat zl] _ HL15.out rfl rfl rfl RL2.out SL2.out EL2.out.size (by omega) ?_; intro A16 c16 w16 hr16 hb16 _; have R16 := Lib.hid hr16; have E16 := Lib.hid (EL2.out.trans hb16); have S16 := Lib.hid (src_rb (RZ.out _ (EL2.out.trans hb16))); have HL16 : Hid ((P ++ [UInt8.ofNat (r / 256), UInt8.ofNat r] ++ F ++ P ++ [UInt8.ofNat (zl / 256), UInt8.ofNat zl]).length = 5 + r + 3 + 2) := Lib.hid (by rw [List.length_append, HL15.out]; rfl); clear hr16 hb16 RL2 SL2 EL2 R15 E15)
    | (at_builtin; refine wpList_pushG rfl (.tmp 104) (.tmp 105) 22 rfl _ wd.heap.size A16 c16 (5 + r + 3 + 2) zl (P ++ [UInt8.ofNat (r / 256), UInt8.ofNat r] ++ F ++ P ++ [UInt8.ofNat (zl / 256), UInt8.ofNat zl]) Z (.slice (some ⟨g, 5 + r, none⟩) zl (c - (5 + r))) HL16.out HZL.out rfl rfl R16.out (by have := S16.out; rw [HZL.out] at this ⊢; exact this) E16.out.size (by omega) ?_; intro A17 c17 w17 hr17 hb17 _; have R17 := Lib.hid hr17; have E17 := Lib.hid (E16.out.trans hb17); clear hr17 hb17 R16 E16 S16))
  have B17 := Lib.hid (BD.out.trans (E17.out.mono BD.out.size))
  have CS4 := Lib.hid (wsni (v := true) HG.out B17.out R17.out.rb (n := 5 + r + 3 + 2 + zl) (by rw [List.length_append, HL16.out, HZL.out]) [] 70 (by
    have := HNO.out (P ++ [UInt8.ofNat (zl / 256), UInt8.ofNat zl] ++ Z) (fun e => by have := congrArg List.length e; simp at this)
    rw [← List.append_assoc, ← List.append_assoc] at this
    exact this) (by omega))
  clear HNO R17 E17
  refine CS4.out.mono ?_
  rintro e w18 ⟨rfl, hb18⟩
  have B18 := Lib.hid (B17.out.trans (hb18.mono B17.out.size))
  have CW := Lib.hid (works_any w18 (HG.out.below B18.out))
  clear hb18 CS4
  go_wp2_with fail
  refine CW.out.mono ?_
  rintro e w19 ⟨rfl, hb19⟩
  have B19 := Lib.hid (B18.out.trans (hb19.mono B18.out.size))
  clear hb19 CW
  go_wp2_with fail
  go_ret
  exact ⟨rfl, B19.out⟩
end Go.Proofs.YtiakbmllpnabnaaGreatDoor
