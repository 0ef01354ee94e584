/- The law LatticeKnown, walked. -/
import Derived.Test.YtaikhdmgcffflaaDoorYl
namespace Go.Proofs.YtaikhdmgcffflaaDoor
open Go Go.RowKit

def endL : List Int := [-9223372036854775808, -1, 0, 1, 2, 9, 10, 1023, 9223372036854775807]

theorem wpList_pushT {ops : Array Oper} {rest : List Oper} {o : Oper} {a : Act} {Q : Exit → Act → World → Prop} (hgd : o.guard = none) (s x : Operand)
    (ho : o.op = .call { callee := .builtin .append, args := #[s, x], argTypes := #[22, 22] }) (w : World) (base : Nat) (v : Value) (ws : List (List UInt8)) (y : ByteArray) (z : List UInt8) (hz : y = ⟨z.toArray⟩)
    (hs : a.eval s = v) (hown : w.ownsRow base 9 1 v ws.length (sv ws)) (hx : a.eval x = .slice (some ⟨w.heap.size, 0, none⟩) 1 1) (hbase : base ≤ w.heap.size) (hlen : ws.length ≤ 1000000000) (m : Nat) (hm : ws.length + 1 = m)
    (h : ∀ A c w', m ≤ c → Rd w' A (sv (ws ++ [z])) → Below base w w' → wpList Tryd.prog ops Q rest (a.put o.dst (.slice A m c)) w') :
    wpList Tryd.prog ops Q (o :: rest) a (w.alloc (.cells #[.string y] 9)) := by
  refine wpList_pushS hgd s x ho w base v ws y z hz hs hown hx hbase hlen ?_
  intro v' w' hown' hb
  obtain ⟨A, c, rfl, hc, hr⟩ := own_cap hown'
  have e : (ws ++ [z]).length = m := by rw [List.length_append]; exact hm
  rw [e] at hc ⊢
  exact h A c w' hc hr hb
/-- A slice of texts. -/
def TxS (w : World) (v : Value) : Prop := ∃ A n c N, v = .slice A n c ∧ N.length = n ∧ n ≤ c ∧ Rd w A (sv N) ∧ n ≤ 1000 ∧ ∀ y ∈ N, y.length ≤ maxLen
theorem TxS.below {w w' : World} {v : Value} (h : TxS w v) (hb : Below w.heap.size w w') : TxS w' v := by
  obtain ⟨A, n, c, N, e, h1, h2, h3, h4, h5⟩ := h
  exact ⟨A, n, c, N, e, h1, h2, h3.below hb, h4, h5⟩
theorem TxS.made (w : World) (s : Nat) (hs : w.heap.size = s) (N : List (List UInt8)) (n : Nat) (hn : N.length = n) (hl : n ≤ 1000) (hN : N.all (fun y => decide (y.length ≤ 100)) = true) (t : TypeId) : TxS (w.alloc (.cells (sv N).toArray t)) (.slice (some ⟨s, 0, none⟩) n n) := by
  subst hs
  refine ⟨_, n, n, N, rfl, hn, Nat.le_refl _, Rd.made w (sv N) t, hl, fun y hy => ?_⟩
  rw [List.all_eq_true] at hN
  have := hN y hy
  rw [decide_eq_true_eq] at this
  unfold maxLen
  omega
/-- The five rows of texts that are no names. -/
structure Odd5 (w : World) (s : Nat) (W : World) : Prop where
  r1 : TxS W (.slice (some ⟨s, 0, none⟩) 1 1)
  r2 : TxS W (.slice (some ⟨s + 1, 0, none⟩) 1 1)
  r3 : TxS W (.slice (some ⟨s + 1 + 1, 0, none⟩) 3 3)
  r4 : TxS W (.slice (some ⟨s + 1 + 1 + 1, 0, none⟩) 1 1)
  r5 : TxS W (.slice (some ⟨s + 1 + 1 + 1 + 1, 0, none⟩) 1 1)
  bel : Below w.heap.size w W
theorem Odd5.below {w W W' : World} {s : Nat} (h : Odd5 w s W) (hb : Below W.heap.size W W') : Odd5 w s W' :=
  ⟨h.r1.below hb, h.r2.below hb, h.r3.below hb, h.r4.below hb, h.r5.below hb, Below.and h.bel hb⟩
theorem odd_five (w : World) : Odd5 w w.heap.size (((((w.alloc (.cells #[.string ⟨#[]⟩] 9)).alloc (.cells #[.string ⟨#[65]⟩] 9)).alloc (.cells #[.string ⟨#[97]⟩, .string ⟨#[98]⟩, .string ⟨#[97]⟩] 9)).alloc (.cells #[.string ⟨#[97, 32, 98]⟩] 9)).alloc (.cells #[.string ⟨#[97, 98, 99, 100, 101, 102, 103, 104, 105, 106, 107, 108, 109]⟩] 9)) := by
  have a1 := TxS.made w _ rfl [[]] 1 rfl (by decide) rfl 9
  have b1 := below_new w (.cells #[.string ⟨#[]⟩] 9)
  have z1 : (w.alloc (.cells #[.string ⟨#[]⟩] 9)).heap.size = w.heap.size + 1 := World.size_alloc _ _
  have a2 := TxS.made (w.alloc (.cells #[.string ⟨#[]⟩] 9)) _ z1 [[65]] 1 rfl (by decide) rfl 9
  change TxS (w.alloc (.cells #[.string ⟨#[]⟩] 9)) _ at a1
  change TxS ((w.alloc (.cells #[.string ⟨#[]⟩] 9)).alloc (.cells #[.string ⟨#[65]⟩] 9)) _ at a2
  generalize w.alloc (.cells #[.string ⟨#[]⟩] 9) = w1 at *
  have b2 := below_new w1 (.cells #[.string ⟨#[65]⟩] 9)
  have z2 : (w1.alloc (.cells #[.string ⟨#[65]⟩] 9)).heap.size = w.heap.size + 1 + 1 := by rw [World.size_alloc, z1]
  have a3 := TxS.made (w1.alloc (.cells #[.string ⟨#[65]⟩] 9)) _ z2 [[97], [98], [97]] 3 rfl (by decide) rfl 9
  change TxS ((w1.alloc (.cells #[.string ⟨#[65]⟩] 9)).alloc (.cells #[.string ⟨#[97]⟩, .string ⟨#[98]⟩, .string ⟨#[97]⟩] 9)) _ at a3
  generalize w1.alloc (.cells #[.string ⟨#[65]⟩] 9) = w2 at *
  have b3 := below_new w2 (.cells #[.string ⟨#[97]⟩, .string ⟨#[98]⟩, .string ⟨#[97]⟩] 9)
  have z3 : (w2.alloc (.cells #[.string ⟨#[97]⟩, .string ⟨#[98]⟩, .string ⟨#[97]⟩] 9)).heap.size = w.heap.size + 1 + 1 + 1 := by rw [World.size_alloc, z2]
  have a4 := TxS.made (w2.alloc (.cells #[.string ⟨#[97]⟩, .string ⟨#[98]⟩, .string ⟨#[97]⟩] 9)) _ z3 [[97, 32, 98]] 1 rfl (by decide) rfl 9
  change TxS ((w2.alloc (.cells #[.string ⟨#[97]⟩, .string ⟨#[98]⟩, .string ⟨#[97]⟩] 9)).alloc (.cells #[.string ⟨#[97, 32, 98]⟩] 9)) _ at a4
  generalize w2.alloc (.cells #[.string ⟨#[97]⟩, .string ⟨#[98]⟩, .string ⟨#[97]⟩] 9) = w3 at *
  have b4 := below_new w3 (.cells #[.string ⟨#[97, 32, 98]⟩] 9)
  have z4 : (w3.alloc (.cells #[.string ⟨#[97, 32, 98]⟩] 9)).heap.size = w.heap.size + 1 + 1 + 1 + 1 := by rw [World.size_alloc, z3]
  have a5 := TxS.made (w3.alloc (.cells #[.string ⟨#[97, 32, 98]⟩] 9)) _ z4 [[97, 98, 99, 100, 101, 102, 103, 104, 105, 106, 107, 108, 109]] 1 rfl (by decide) rfl 9
  change TxS ((w3.alloc (.cells #[.string ⟨#[97, 32, 98]⟩] 9)).alloc (.cells #[.string ⟨#[97, 98, 99, 100, 101, 102, 103, 104, 105, 106, 107, 108, 109]⟩] 9)) _ at a5
  generalize w3.alloc (.cells #[.string ⟨#[97, 32, 98]⟩] 9) = w4 at *
  have b5 := below_new w4 (.cells #[.string ⟨#[97, 98, 99, 100, 101, 102, 103, 104, 105, 106, 107, 108, 109]⟩] 9)
  exact ⟨(((a1.below b2).below b3).below b4).below b5, ((a2.below b3).below b4).below b5, (a3.below b4).below b5, a4.below b5, a5, Below.and (Below.and (Below.and (Below.and b1 b2) b3) b4) b5⟩

def oddV (s : Nat) (A : Option Addr) (c : Nat) : List Value := [.slice none 0 0, .slice (some ⟨s, 0, none⟩) 1 1, .slice (some ⟨s + 1, 0, none⟩) 1 1, .slice (some ⟨s + 1 + 1, 0, none⟩) 3 3, .slice (some ⟨s + 1 + 1 + 1, 0, none⟩) 1 1, .slice (some ⟨s + 1 + 1 + 1 + 1, 0, none⟩) 1 1, .slice A 11 c]
theorem tx_last {w : World} {A : Option Addr} {c : Nat} (hc : 11 ≤ c) (hr : Rd w A (sv (nmL 10 ++ [[120]]))) : TxS w (.slice A 11 c) := by
  refine ⟨A, 11, c, nmL 10 ++ [[120]], rfl, by rw [List.length_append, nmL_len]; rfl, hc, hr, by decide, fun y hy => ?_⟩
  rcases List.mem_append.1 hy with h | h
  · exact nm_small 10 y h
  · simp at h
    subst h
    unfold maxLen
    simp
theorem odd_all {w W W' : World} {s : Nat} {A : Option Addr} {c : Nat} (h : Odd5 w s W) (hl : TxS W (.slice A 11 c)) (hb : Below W.heap.size W W') : ∀ v ∈ oddV s A c, TxS W' v := by
  intro v hv
  simp only [oddV, List.mem_cons, List.not_mem_nil, or_false] at hv
  rcases hv with rfl | rfl | rfl | rfl | rfl | rfl | rfl
  · exact ⟨none, 0, 0, [], rfl, rfl, Nat.le_refl _, Rd.nil _ _, by decide, by simp⟩
  · exact h.r1.below hb
  · exact h.r2.below hb
  · exact h.r3.below hb
  · exact h.r4.below hb
  · exact h.r5.below hb
  · exact hl.below hb

theorem NoL.fresh {w W : World} {p : Option Addr} (h : NoL w p W) : NoL w (some ⟨W.heap.size, 0, none⟩) (W.alloc (.cells Tryd.zeroCells76 76)) := by
  have hb := below_new W (.cells Tryd.zeroCells76 76)
  exact ⟨h.tab.below hb h.tab.lt, h.bel.trans (hb.mono h.bel.size), h.pos, .inr ⟨_, rfl, h.bel.size, lat_zero W⟩⟩

/-! The lattice of one label. -/
def oN : List (List UInt8) := [[111, 110, 108, 121]]
def oA : Nat → Nat := ofL (natL [])
theorem only_mk : mkE oN [] = 0 := by decide +kernel
theorem theOnly_any (w : World) (hT : Tab w) : Calls Tryd.prog 7 #[.slice (some ⟨w.heap.size, 0, none⟩) 1 1, .slice none 0 0] (w.alloc (.cells #[.string ⟨#[111, 110, 108, 121]⟩] 9)) fun e W' => ∃ b, e = .returned (.tuple #[.pointer (some ⟨b, 0, none⟩), .int .i64 0]) ∧ LtS w b 1 oN oA W' := by
  have hb := below_new w (.cells #[.string ⟨#[111, 110, 108, 121]⟩] 9)
  have con := make_any (some ⟨w.heap.size, 0, none⟩) 1 oN none 0 [] (w.alloc (.cells #[.string ⟨#[111, 110, 108, 121]⟩] 9)) (hT.below hb hT.lt) (Rd.made w (sv oN) 9) (by decide) (by decide) (w_len oN rfl) (Rd.nil _ _) (by decide)
  refine Calls.mono (show Calls _ _ _ _ _ from con) ?_
  rintro e W' ⟨hb2, ⟨h, _⟩ | ⟨_, K, b, rfl, hge, P⟩⟩
  · exact absurd only_mk h
  · have hbw := hb.trans (hb2.mono hb.size)
    exact ⟨b, rfl, hT.below hbw hT.lt, P, hbw, Nat.le_trans hb.size hge⟩
section
variable {w W : World} {b : Nat} (S : LtS w b 1 oN oA W)
include S
theorem onlyMany : Calls Tryd.prog 19 #[.pointer (some ⟨b, 0, none⟩)] W fun e W' => e = .returned (.int .i64 1) ∧ W = W' := by
  obtain ⟨d, j, m, l⟩ := S.lat.some
  exact latMany_any b 1 W l.many
theorem onlyLow : Calls Tryd.prog 20 #[.pointer (some ⟨b, 0, none⟩)] W fun e W' => e = .returned (.int .i64 0) ∧ W = W' := by
  obtain ⟨d, j, m, l⟩ := S.lat.some
  have e : loL 1 oA = 0 := by decide +kernel
  have h := l.low
  rw [e] at h
  exact latLow_any b 0 W h
theorem onlyHigh : Calls Tryd.prog 21 #[.pointer (some ⟨b, 0, none⟩)] W fun e W' => e = .returned (.int .i64 0) ∧ W = W' := by
  obtain ⟨d, j, m, l⟩ := S.lat.some
  have e : hiL 1 oA = 0 := by decide +kernel
  have h := l.high
  rw [e] at h
  exact latHigh_any b 0 W h
theorem onlyJoin (h0 : 0 < w.heap.size) : Calls Tryd.prog 22 #[.pointer (some ⟨b, 0, none⟩), .int .i64 0, .int .i64 0] W fun e W' => e = .returned (.int .i64 0) ∧ LtS w b 1 oN oA W' := by
  have e : joinI 1 oA 0 0 = 0 := by decide +kernel
  have t : Took 1 (natL []) := Took.nil
  have con := latJoin_any S.lat (fun _ => ⟨t.good (by decide) (by decide), t.anti (by decide) (by decide)⟩) (by decide) 0 0
  rw [e] at con
  exact con.mono fun _ _ ⟨he, hg, hl⟩ => ⟨he, S.turn h0 hg hl⟩
theorem onlyCode : Calls Tryd.prog 23 #[.pointer (some ⟨b, 0, none⟩), .int .i64 0] W fun e W' => e = .returned (.int .i64 1) ∧ W = W' := by
  obtain ⟨d, j, m, l⟩ := S.lat.some
  have e : codeI 1 oA 0 = 1 := by decide +kernel
  have con := latCode_any l (by decide) 0
  rw [e] at con
  exact con
end

set_option maxHeartbeats 4000000 in
set_option maxRecDepth 100000 in
theorem latticeKnown_any (w : World) (hT : Tab w) : Calls Tryd.prog 5 #[] w fun e w' => e = .returned (.bool true) ∧ Below w.heap.size w w' := by
  have HT := Lib.hid hT
  have con := Lib.hid (names_len 10 (by decide) 10 rfl w)
  clear hT
  go_enter Tryd.func5, Tryd.ntmps5
  go_wp2_with fail
  refine Calls.mono con.out ?_
  rintro e w1 ⟨vt, rfl, hvt, hb1⟩
  rw [nmL_len] at hvt
  obtain ⟨At, ct, rfl, hct, hrt⟩ := own_cap hvt
  have HRT := Lib.hid hrt
  have HB1 := Lib.hid hb1
  clear hvt hrt con hb1
  go_wp2_with fail
  go_loopw [2, 3] (fun u i wr => ∃ k : Nat, k ≤ 9 ∧ i = .int .i64 k ∧ wr.ownsRow w1.heap.size 41 2 u (chainL k).length (pvI (chainL k)) ∧ Below w1.heap.size w1 wr) (fun _ i _ => 9 - (intOf i).toNat)
  case atStart => exact ⟨0, Nat.zero_le _, rfl, World.ownsRow_nil _ _ _ _, Below.refl _ _⟩
  case round =>
    obtain ⟨k, hk, rfl, hu, hb⟩ := hrel
    by_cases hlt : k < 9
    · have hsu := Lib.hid (chainL_succ k)
      have hlen := chainL_len k
      have HU := Lib.hid hu
      have hkk : ((k : Int) + 1) = ((k + 1 : Nat) : Int) := by simp
      have HKK := Lib.hid hkk
      clear hu hkk
      go_wp2_with (at_builtin; refine wpList_pushP rfl (.tmp 21) (.tmp 26) rfl wr w1.heap.size u2 (chainL k) k ((k : Int) + 1) rfl HU.out rfl hb.size (by omega) ?_; intro v3 w3 hown3 hb3 _ _)
      rw [HKK.out, ← hsu.out] at hown3
      go_roundw
      case rel => exact ⟨k + 1, by omega, by go_num, hown3, hb.trans hb3⟩
      case measure => simp [intOf]; omega
    · have hk9 : k = 9 := by omega
      rw [hk9] at hu
      have hlt9 : ¬ (k : Int) < 9 := by omega
      clear hk hlt hk9
      obtain ⟨Ac, cc, rfl, hcc, hrc⟩ := own_cap hu
      obtain ⟨gc, oc, rfl, _⟩ := hrc.pair 0 (by decide)
      rw [chainL_len] at hcc
      rw [chainL_len]
      have HE := Lib.hid (show Rd (wr.alloc (.cells (lv endL).toArray 3)) (some ⟨wr.heap.size, 0, none⟩) (lv endL) from Rd.made wr (lv endL) _)
      have HB2 := Lib.hid (Below.and hb (below_new wr (.cells (lv endL).toArray 3)))
      have HRC := Lib.hid (hrc.below (below_new wr (.cells (lv endL).toArray 3)))
      clear hu hrc hb
      go_wp2_with fail
      generalize wr.heap.size = eb at *
      go_loopw [5] (fun i wr => ∃ k : Nat, k ≤ 9 ∧ i = .int .i64 k ∧ Rd wr (some ⟨eb, 0, none⟩) (lv endL) ∧ Rd wr (some ⟨gc, oc, none⟩) (pvI (chainL 9)) ∧ Below w1.heap.size w1 wr) (fun i _ => 9 - (intOf i).toNat)
      case atStart => exact ⟨0, Nat.zero_le _, rfl, HE.out, HRC.out, HB2.out⟩
      case round =>
        obtain ⟨k, hk, rfl, RE, RC, hb⟩ := hrel
        clear HE HRC HB2
        by_cases hlt : k < 9
        · obtain ⟨bb, off, hbb, hbl, hcell⟩ := RE.lab k hlt
          cases hbb
          rw [Nat.zero_add] at hcell
          generalize endL[k] = e0 at *
          have k1 : (0 : Int) ≤ k := by omega
          have k2 : (k : Int) < 9 := by omega
          have bd := Lib.hid (Below.refl wr.heap.size wr).drew
          have bw := Lib.hid (HB1.out.trans (hb.mono HB1.out.size))
          have RT := Lib.hid (HRT.out.below hb)
          have HRE := Lib.hid RE
          have HRC := Lib.hid RC
          have hbl2 := Lib.hid hbl
          have RC8 := Lib.hid (show Rd wr (some ⟨gc, oc, none⟩) (pvI ((chainL 9).take 8)) by rw [← pvI_take]; exact RC.cut (8 * 2))
          have RT1 := Lib.hid (show Rd wr At (sv ((nmL 10).take 1)) by rw [← sv_take]; exact RT.out.cut 1)
          have q8 : (8 : Int) ≤ cc := by omega
          have q1 : (1 : Int) ≤ ct := by omega
          clear RE RC hbl
          go_wp2_with fail
          go_region_held3 (fun w' => w'.cell? ⟨eb, k, none⟩ = some (.int .i64 e0)) (first | go_keep | exact c5 | exact c6 | exact c7 | exact c8)
            (first
              | (go_at_call 3; have ba := b7.trans ((below_new w7 (.cells #[.int .i64 e0, .int .i64 0] 41)).mono b7.size); refine (makes_len At ct ((nmL 10).take 1) 1 (by simp [nmL]) (some ⟨w7.heap.size, 0, none⟩) 1 [(e0, 0)] 1 rfl 1 _ (HT.out.below (bw.out.trans (ba.mono bw.out.size)) HT.out.lt) (RT1.out.below ba) (by omega) (fun y hy => nm_small 10 y (List.mem_of_mem_take hy)) (Rd.made w7 (pvI [(e0, 0)]) _) (Nat.le_refl _)).mono ?_; rintro e w8 ⟨rfl, hb8⟩; have b8 := ba.trans (hb8.mono ba.size); have c8 := (b8.cell (p := ⟨eb, k, none⟩) hbl2.out).trans hcell)
              | (refine step_append_full _ (by rfl) (.tmp 46) (.tmp 52) rfl gc oc ((chainL 9).take 8) 8 9 (by simp [chainL]) rfl ((RC8.out.below b5).below (below_new w5 _)) (by decide) w5.heap.size e0 9 rfl rfl (by simp) (by simp) ?_; intro Aa ca w6 hca hra hb6; have b6 := b5.trans (((below_new w5 (.cells #[.int .i64 e0, .int .i64 9] 41)).mono b5.size).trans (hb6.mono (by have := b5.size; simp; omega))); have c6 := (b6.cell (p := ⟨eb, k, none⟩) hbl2.out).trans hcell)
              | (go_at_call 3; refine (makes_len At ct (nmL 10) 10 (nmL_len _) Aa ca ((chainL 9).take 8 ++ [(e0, 9)]) 9 (by simp [chainL]) 7 _ (HT.out.below (bw.out.trans (b6.mono bw.out.size)) HT.out.lt) (RT.out.below b6) hct (nm_small _) hra hca).mono ?_; rintro e w7 ⟨rfl, hb7⟩; have b7 := b6.trans (hb7.mono b6.size); have c7 := (b7.cell (p := ⟨eb, k, none⟩) hbl2.out).trans hcell)
              | (go_at_call 3; refine (makes_len At ct (nmL 10) 10 (nmL_len _) (some ⟨gc, oc, none⟩) cc (chainL 9) 9 (chainL_len _) e0 _ (HT.out.below (bw.out.trans (bd.out.mono bw.out.size)) HT.out.lt) (RT.out.below bd.out) hct (nm_small _) (HRC.out.below bd.out) hcc).mono ?_; rintro e w5 ⟨rfl, hb5⟩; have b5 := bd.out.trans hb5; have c5 := (b5.cell (p := ⟨eb, k, none⟩) hbl2.out).trans hcell))
          have RE8 := HRE.out.below b8
          have RCX := HRC.out.below b8
          have hb8' := Below.and hb b8
          clear b5 b6 b7 b8 c5 c6 c7 c8 ba hb5 hb6 hb7 hb8 hra hca HRE HRC RC8 RT RT1 hcell
          go_wp2_with fail
          go_roundw
          case rel => exact ⟨k + 1, by omega, by go_num, RE8, RCX, hb8'⟩
          case measure => simp [intOf]; omega
        · have hlt9 : ¬ (k : Int) < 9 := by omega
          clear hk hlt
          have bw := HB1.out.trans (hb.mono HB1.out.size)
          clear RE RC hb HB1 HRT
          have x1 := odd_five wr
          have con := Lib.hid (fun W => names_len 10 (by decide) 10 rfl W)
          go_wp2_with fail
          refine Calls.mono (con.out _) ?_
          rintro e w2 ⟨vt, rfl, hvt, hb2⟩
          have hb2s := hb2.size
          have HX1 := Lib.hid x1
          have HB2 := Lib.hid hb2
          clear x1 con hb2
          go_wp2_with (at_builtin; refine wpList_pushT rfl (.tmp 74) (.tmp 75) rfl w2 _ vt (nmL 10) ⟨#[120]⟩ [120] rfl rfl hvt rfl hb2s (by rw [nmL_len]; decide) 11 (by rw [nmL_len]) ?_; intro A3 c3 w3 hc3 hr3 hb3)
          have hb23 := HB2.out.trans hb3
          have x3 := HX1.out.below hb23
          have bw3 := bw.trans ((HX1.out.bel.trans (hb23.mono HX1.out.bel.size)).mono bw.size)
          have HX := Lib.hid (odd_all x3 (tx_last hc3 hr3) (below_new w3 (.cells (oddV wr.heap.size A3 c3).toArray 22)))
          have RO := Lib.hid (show Rd (w3.alloc (.cells (oddV wr.heap.size A3 c3).toArray 22)) (some ⟨w3.heap.size, 0, none⟩) (oddV wr.heap.size A3 c3) from Rd.made w3 _ _)
          have BW := Lib.hid (bw3.trans ((below_new w3 (.cells (oddV wr.heap.size A3 c3).toArray 22)).mono bw3.size))
          clear HX1 HB2 hb23 x3 bw3 hb3 hr3 hvt hb2s bw
          generalize w3.heap.size = ob at *
          generalize wr.heap.size = s0 at *
          go_loopw [7] (fun i wr => ∃ k : Nat, k ≤ 7 ∧ i = .int .i64 k ∧ Rd wr (some ⟨ob, 0, none⟩) (oddV s0 A3 c3) ∧ (∀ v ∈ oddV s0 A3 c3, TxS wr v) ∧ Below w.heap.size w wr) (fun i _ => 7 - (intOf i).toNat)
          case atStart => exact ⟨0, Nat.zero_le _, rfl, RO.out, HX.out, BW.out⟩
          case round =>
            obtain ⟨k, hk, rfl, RO, HX, bw⟩ := hrel
            by_cases hlt : k < 7
            · have hlt' : k < (oddV s0 A3 c3).length := hlt
              obtain ⟨bb, off, hbb, hbl, hcell⟩ := RO k hlt'
              cases hbb
              rw [Nat.zero_add] at hcell
              obtain ⟨A, n, c, N, hv, hn, hnc, hrd, hn1, hsm⟩ := HX _ (List.getElem_mem hlt')
              rw [hv] at hcell
              have k1 : (0 : Int) ≤ k := by omega
              have k2 : (k : Int) < 7 := by omega
              have con := Lib.hid (makes_len A c N n hn none 0 [] 0 rfl k wr (HT.out.below bw HT.out.lt) hrd hnc hsm (Rd.nil _ _) (Nat.le_refl _))
              have HRD := Lib.hid hrd
              have HRO := Lib.hid RO
              have HHX := Lib.hid HX
              clear hv hrd RO HX hlt'
              go_wp2_with fail
              refine Calls.mono con.out ?_
              rintro e w5 ⟨rfl, hb5⟩
              have hcell5 := (hb5.cell (p := ⟨ob, k, none⟩) hbl).trans hcell
              have bw5 := bw.trans (hb5.mono bw.size)
              have bn := below_new w5 (.cells #[.int .i64 5, .int .i64 5] 41)
              have bw6 := bw5.trans (bn.mono bw5.size)
              have con2 := Lib.hid (makes_len A c N n hn (some ⟨w5.heap.size, 0, none⟩) 1 [(5, 5)] 1 rfl k _ (HT.out.below bw6 HT.out.lt) ((HRD.out.below hb5).below bn) hnc hsm (Rd.made w5 (pvI [(5, 5)]) 41) (Nat.le_refl _))
              clear con
              go_wp2_with fail
              refine Calls.mono con2.out ?_
              rintro e w6 ⟨rfl, hb6⟩
              have b6 := Below.and (Below.and hb5 bn) hb6
              have RO6 := HRO.out.below b6
              have HX6 := Lib.hid (fun v hv => (HHX.out v hv).below b6)
              have bw7 := bw.trans (b6.mono bw.size)
              clear con2 HRO HHX HRD hcell hcell5 hb5 hb6 bn bw5 bw6 b6
              go_wp2_with fail
              go_roundw
              case rel => exact ⟨k + 1, by omega, by go_num, RO6, HX6.out, bw7⟩
              case measure => simp [intOf]; omega
            · clear RO HX hk
              have hlt7 : ¬ (k : Int) < 7 := by omega
              go_wp2_with fail
              have con := Lib.hid (theOnly_any wr (HT.out.below bw HT.out.lt))
              have BWr := Lib.hid bw
              clear bw HX BW RO hlt
              refine Calls.mono con.out ?_
              rintro e w5 ⟨b, rfl, S⟩
              have HS := Lib.hid S
              have m5 := onlyMany S
              have l5 := onlyLow S
              have h5 := onlyHigh S
              have j5 := onlyJoin S (Nat.lt_of_lt_of_le HT.out.lt BWr.out.size)
              have M5 := Lib.hid m5
              have L5 := Lib.hid l5
              have H5 := Lib.hid h5
              have J5 := Lib.hid j5
              clear con m5 l5 h5 j5 S
              go_wp2_with fail
              refine Calls.mono M5.out ?_
              rintro e w' ⟨rfl, rfl⟩
              go_wp2_with fail
              refine Calls.mono L5.out ?_
              rintro e w' ⟨rfl, rfl⟩
              go_wp2_with fail
              refine Calls.mono H5.out ?_
              rintro e w' ⟨rfl, rfl⟩
              go_wp2_with fail
              refine Calls.mono J5.out ?_
              rintro e w6 ⟨rfl, S6⟩
              have con := Lib.hid (onlyCode S6)
              have bw6 := BWr.out.trans (S6.bel.mono BWr.out.size)
              have NO := Lib.hid (show NoL w none w6 from ⟨HT.out.below bw6 HT.out.lt, bw6, HT.out.lt, .inl rfl⟩)
              clear S6 HS M5 L5 H5 J5 bw6 BWr
              go_wp2_with fail
              refine Calls.mono con.out ?_
              rintro e w' ⟨rfl, rfl⟩
              clear con
              go_wp2_with fail
              go_loopw [10, 11] (fun u i wr => ∃ (k : Nat) (p : Option Addr), k ≤ 2 ∧ i = .int .i64 k ∧ u = .pointer p ∧ NoL w p wr) (fun _ i _ => 2 - (intOf i).toNat)
              case atStart => exact ⟨0, none, Nat.zero_le _, rfl, rfl, NO.out⟩
              case round =>
                obtain ⟨k, p, hk, rfl, rfl, X⟩ := hrel
                clear NO
                by_cases hlt : k < 2
                · have k1 : (0 : Int) ≤ k := by omega
                  have k2 : (k : Int) < 2 := by omega
                  have con := Lib.hid (noFind X [97])
                  clear X
                  go_wp2_with fail
                  refine Calls.mono con.out ?_
                  rintro e w7 ⟨rfl, X⟩
                  have con := Lib.hid (noDecode X 1)
                  clear X
                  go_wp2_with fail
                  refine Calls.mono con.out ?_
                  rintro e w8 ⟨rfl, X⟩
                  have con := Lib.hid (noMany X)
                  clear X
                  go_wp2_with fail
                  refine Calls.mono con.out ?_
                  rintro e w9 ⟨rfl, X⟩
                  have con := Lib.hid (noLeq X)
                  clear X
                  go_wp2_with fail
                  refine Calls.mono con.out ?_
                  rintro e w10 ⟨rfl, X⟩
                  have con := Lib.hid (noJoin X)
                  clear X
                  go_wp2_with fail
                  refine Calls.mono con.out ?_
                  rintro e w11 ⟨rfl, X⟩
                  have con := Lib.hid (noMeet X)
                  clear X
                  go_wp2_with fail
                  refine Calls.mono con.out ?_
                  rintro e w12 ⟨rfl, X⟩
                  have con := Lib.hid (fun t => noAll X t)
                  clear X
                  go_wp2_with fail
                  refine Calls.mono (con.out _) ?_
                  rintro e w13 ⟨rfl, X⟩
                  have con := Lib.hid (noLow X)
                  clear X
                  go_wp2_with fail
                  refine Calls.mono con.out ?_
                  rintro e w14 ⟨rfl, X⟩
                  have con := Lib.hid (noHigh X)
                  clear X
                  go_wp2_with fail
                  refine Calls.mono con.out ?_
                  rintro e w15 ⟨rfl, X⟩
                  have con := Lib.hid (noName X)
                  clear X
                  go_wp2_with fail
                  refine Calls.mono con.out ?_
                  rintro e w16 ⟨rfl, X⟩
                  have con := Lib.hid (noCode X)
                  clear X
                  go_wp2_with fail
                  refine Calls.mono con.out ?_
                  rintro e w17 ⟨rfl, X⟩
                  have Y := Lib.hid X.fresh
                  clear X con
                  go_wp2_with fail
                  go_roundw
                  case rel => exact ⟨k + 1, _, by omega, by go_num, rfl, Y.out⟩
                  case measure => simp [intOf]; omega
                · have hlt2 : ¬ (k : Int) < 2 := by omega
                  have con := Lib.hid (works_any wr X.tab)
                  have BX := Lib.hid X.bel
                  clear X hlt hk
                  go_wp2_with fail
                  refine Calls.mono con.out ?_
                  rintro e w6 ⟨rfl, hb6⟩
                  clear con
                  go_wp2_with fail
                  go_ret
                  exact ⟨rfl, BX.out.trans (hb6.mono BX.out.size)⟩
end Go.Proofs.YtaikhdmgcffflaaDoor
