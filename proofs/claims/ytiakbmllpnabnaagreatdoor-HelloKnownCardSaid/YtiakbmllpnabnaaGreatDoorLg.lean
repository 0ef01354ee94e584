/- The chapter's Sni; what both sides tell of bytes, in one form. HelloParses. -/
import Derived.Test.YtiakbmllpnabnaaGreatDoorLc
import Derived.Test.YtiakbmllpnabnaaGreatDoorLd
import Derived.Test.YtiakbmllpnabnaaGreatDoorKzn
namespace Go.Proofs.YtiakbmllpnabnaaGreatDoor
open Go Go.RowKit

def zG : Grt := ⟨0, List.replicate 32 0, [], [], [], [], 0, []⟩
def zA : Adr := ⟨none, 0, none, 0, none, 0, none, 0⟩
theorem z_arr : grtA zG zA = gArr 0 := rfl
def G7 (b : List UInt8) : Grt := (parG b).getD zG
def E7 (b : List UInt8) : Int := match parG b with
  | none => 70
  | some _ => 0
def S7 (b : List UInt8) : List UInt8 := match parG b with
  | none => []
  | some G => lowV G.host
theorem parG_parseG (b : List UInt8) : parG b = parseG b := (par_prog b).trans (prog_eq b)
/-- what Parse tells -/
def PrsU (b : List UInt8) (w : World) (e : Ending) (w' : World) : Prop := ∃ a : Adr, e = .returned (.tuple #[.agg (grtA (G7 b) a), .int .i64 (E7 b)]) ∧ Below w.heap.size w w' ∧ GrS (New w.heap.size w') w' (G7 b) a
theorem zG_in (S : Nat → Prop) (w : World) : GrS S w zG zA :=
  ⟨⟨Nat.le_refl _, fun _ => rfl, fun i hi => absurd hi (Nat.not_lt_zero i)⟩, fun i hi => absurd hi (Nat.not_lt_zero i), ⟨Nat.le_refl _, fun _ => rfl, fun i hi => absurd hi (Nat.not_lt_zero i)⟩, fun i hi => absurd hi (Nat.not_lt_zero i), by decide, by decide, by decide, by decide, by decide, rfl⟩
theorem prsU_of {b : List UInt8} {w w' : World} {e : Ending} (h : (parG b = none → e = .returned (.tuple #[.agg (gArr 0), .int .i64 70]) ∧ Below w.heap.size w w') ∧ ∀ G, parG b = some G → ∃ a : Adr, e = .returned (.tuple #[.agg (grtA G a), .int .i64 0]) ∧ Below w.heap.size w w' ∧ GrS (New w.heap.size w') w' G a ∧ ∀ x ∈ G.exts, x.2.length ≤ 1000000) : PrsU b w e w' := by
  unfold PrsU G7 E7
  cases hg : parG b with
  | none =>
    obtain ⟨rfl, hb⟩ := h.1 hg
    exact ⟨zA, rfl, hb, zG_in _ _⟩
  | some G =>
    obtain ⟨a, rfl, hb, hgr, _⟩ := h.2 G hg
    exact ⟨a, rfl, hb, hgr⟩
theorem parse_u {w : World} {A : Option Addr} {c : Nat} {b : List UInt8} (h : Rb w.heap.size w A c b) (hl : b.length ≤ 1000000) (hG : Gl w) :
    Calls Tryz.prog 11 #[.slice A b.length c] w (PrsU b w) := (parse_prog (c := c) h (Nat.le_refl _) hl hG).mono fun _ _ hh => prsU_of hh
theorem rparse_u {w : World} {A : Option Addr} {c : Nat} {b : List UInt8} (h : Rb w.heap.size w A c b) (hl : b.length ≤ 1000000) :
    Calls Tryz.prog 12 #[.slice A b.length c] w (PrsU b w) := (parse_ref7 (c := c) h hl).mono fun _ _ hh => prsU_of (by rw [parG_parseG]; exact hh)
/-- what Sni tells -/
def SniU (b : List UInt8) (w : World) (e : Ending) (w' : World) : Prop := e = .returned (.tuple #[.string ⟨(S7 b).toArray⟩, .int .i64 (E7 b)]) ∧ Below w.heap.size w w'
theorem sni_u {w : World} {A : Option Addr} {c : Nat} {b : List UInt8} (h : Rb w.heap.size w A c b) (hl : b.length ≤ 1000000) (hG : Gl w) :
    Calls Tryz.prog 13 #[.slice A b.length c] w (SniU b w) := (sni_prog (c := c) h (Nat.le_refl _) hl hG).mono fun e w' hh => by
  unfold SniU S7 E7
  cases hg : parG b with
  | none => exact ⟨hh.1 hg, hh.2.2⟩
  | some G => exact ⟨hh.2.1 G hg, hh.2.2⟩
theorem sniU_none {b : List UInt8} {w w' : World} (h : parseG b = none) (hb : Below w.heap.size w w') : SniU b w (.returned (.tuple #[.string ⟨#[]⟩, .int .i64 70])) w' := by
  unfold SniU S7 E7
  rw [parG_parseG, h]
  exact ⟨rfl, hb⟩
theorem sniU_some {b : List UInt8} {G : Grt} {w w' : World} (h : parseG b = some G) (hb : Below w.heap.size w w') : SniU b w (.returned (.tuple #[.string ⟨(lowV G.host).toArray⟩, .int .i64 0])) w' := by
  unfold SniU S7 E7
  rw [parG_parseG, h]
  exact ⟨rfl, hb⟩
set_option maxRecDepth 100000 in
set_option maxHeartbeats 1000000 in
theorem rsni_u {w : World} {A : Option Addr} {c : Nat} {b : List UInt8} (h : Rb w.heap.size w A c b) (hl : b.length ≤ 1000000) :
    Calls Tryz.prog 14 #[.slice A b.length c] w (SniU b w) := by
  have CP := Lib.hid (parse_ref7 (c := c) h hl)
  clear h hl
  go_enter Tryz.func14, Tryz.ntmps14
  go_wp2_with fail
  refine CP.out.mono ?_
  intro e w1 hh
  cases hg : parseG b with
  | none =>
    obtain ⟨rfl, hb⟩ := hh.1 hg
    have HX := Lib.hid hg
    have B1 := Lib.hid (hb.trans ((below_new w1 (.cells (gArr 0) 28)).mono hb.size))
    clear hh CP hg hb
    go_wp2_with (first
      | (refine wpList_alloc7 rfl rfl w1.heap.size rfl ?_)
      | (refine wpList_store_row rfl 28 (.tmp 4) (.tmp 12) rfl w1.heap.size (gArr 0) rfl rfl 28 _ (heap_alloc_new w1 _) (gArr_info 0) rfl (gArr_one 0) ?_; rw [World.setRow_alloc_new]))
    go_ret2
    exact sniU_none HX.out B1.out
  | some G =>
    obtain ⟨a, rfl, hb, hgr, hxl⟩ := hh.2 G hg
    have hH := (mayG_iff (write_some (write_of_parse hg).1).1).2.2.2.2.1
    have hB2 := hb.trans ((below_new w1 (.cells (grtA G a) 28)).mono hb.size)
    have B2 := Lib.hid hB2
    have d36 : (w1.alloc (.cells (grtA G a) 28)).cell? ⟨w1.heap.size, 36, none⟩ = some (.string ⟨G.host.toArray⟩) := (cs_alloc w1 (grtA G a) 28).cell 36 (by show 36 < 39; decide)
    have D36 := Lib.hid d36
    have hno : 58 ∉ G.host := fun hm => by rw [isH_colon hm] at hH; cases hH
    have cn := norm_ref ⟨G.host.toArray⟩ (w1.alloc (.cells (grtA G a) 28)) hgr.hl
    unfold NormP at cn
    rw [show (⟨G.host.toArray⟩ : ByteArray).data.toList = G.host from rfl, isH_norm hno, if_pos hH, ← lowV_some hH] at cn
    unfold normV at cn
    have CL := Lib.hid cn
    have HGI := Lib.hid (infoGA G a)
    have HGO := Lib.hid (grtA_one G a)
    have HX : Hid (∀ w', Below w.heap.size w w' → SniU b w (.returned (.tuple #[.string ⟨(lowV G.host).toArray⟩, .int .i64 0])) w') := Lib.hid fun w' hb => sniU_some hg hb
    clear hh CP hg hb hgr hxl hB2 d36 cn hH hno
    generalize lowV G.host = lw at *
    go_wp2_with (first
      | (refine wpList_alloc7 rfl rfl w1.heap.size rfl ?_)
      | (refine wpList_store_row rfl 28 (.tmp 4) (.tmp 12) rfl w1.heap.size (grtA G a) rfl rfl 28 _ (heap_alloc_new w1 _) HGI.out rfl HGO.out ?_; rw [World.setRow_alloc_new]; have d36 := D36.out; generalize w1.alloc (.cells (grtA G a) 28) = w2 at *; generalize w1.heap.size = g at *))
    refine Calls.mono CL.out ?_
    rintro e w3 ⟨rfl, hb⟩
    have B3 := Lib.hid (B2.out.trans (hb.mono B2.out.size))
    clear hb CL d36
    go_wp2_with fail
    go_ret2
    exact HX.out _ B3.out
end Go.Proofs.YtiakbmllpnabnaaGreatDoor
namespace Go.Proofs.YtiakbmllpnabnaaGreatDoor
open Go Go.RowKit

/-- what stands beside the copy: its bytes may be others -/
structure Hps (w wr : World) (n : Nat) (A : Option Addr) (c n4 n6 : Nat) (G : Grt) (a a' : Adr) : Prop where
  bel : Below w.heap.size w wr
  row : ∃ l : List UInt8, l.length = n ∧ RowG wr w.heap.size A c l
  b4 : wr.heap[n4]? = some (.cells (grtA G a) 28 (0, 0))
  b6 : wr.heap[n6]? = some (.cells (grtA G a') 28 (0, 0))
  g4 : GrS (fun k => k < wr.heap.size ∧ A ≠ some ⟨k, 0, none⟩) wr G a
  g6 : GrS (fun k => k < wr.heap.size ∧ A ≠ some ⟨k, 0, none⟩) wr G a'
  ne4 : A ≠ some ⟨n4, 0, none⟩
  ne6 : A ≠ some ⟨n6, 0, none⟩
theorem Hps.put {w wr : World} {n g c n4 n6 : Nat} {G : Grt} {a a' : Adr} (h : Hps w wr n (some ⟨g, 0, none⟩) c n4 n6 G a a') (j : Nat) (v : Int) (y : UInt8) (hv : v = (y.toNat : Int)) (hj : j < n) :
    Hps w (wr.setCell ⟨g, j, none⟩ (.int .u8 v)) n (some ⟨g, 0, none⟩) c n4 n6 G a a' := by
  obtain ⟨l, hl, hr⟩ := h.row
  have hlt := hr.lt rfl
  have hq : ∀ k, k ≠ g → (wr.setCell ⟨g, j, none⟩ (.int .u8 v)).heap[k]? = wr.heap[k]? := fun k hk => Below.heap_setCell _ _ _ _ hk
  have hs : (wr.setCell ⟨g, j, none⟩ (.int .u8 v)).heap.size = wr.heap.size := by simp [World.setCell]
  have hS : ∀ k, (k < wr.heap.size ∧ (some ⟨g, 0, none⟩ : Option Addr) ≠ some ⟨k, 0, none⟩) → (wr.setCell ⟨g, j, none⟩ (.int .u8 v)).heap[k]? = wr.heap[k]? ∧ (k < (wr.setCell ⟨g, j, none⟩ (.int .u8 v)).heap.size ∧ (some ⟨g, 0, none⟩ : Option Addr) ≠ some ⟨k, 0, none⟩) := fun k hk => ⟨hq k (fun e => hk.2 (by rw [e])), by rw [hs]; exact hk.1, hk.2⟩
  exact ⟨h.bel.setCell (p := ⟨g, j, none⟩) hlt.1 _, ⟨l.set j y, by rw [List.length_set]; exact hl, (hr.put j (by omega) y v hv).1⟩, (hq _ fun e => h.ne4 (by rw [e])).trans h.b4, (hq _ fun e => h.ne6 (by rw [e])).trans h.b6, h.g4.keep hS, h.g6.keep hS, h.ne4, h.ne6⟩
theorem Hps.low {w wr wx : World} {n c n4 n6 : Nat} {A : Option Addr} {G : Grt} {a a' : Adr} (h : Hps w wr n A c n4 n6 G a a') (hb : Below wr.heap.size wr wx) : Hps w wx n A c n4 n6 G a a' := by
  obtain ⟨l, hl, hr⟩ := h.row
  have hS : ∀ k, (k < wr.heap.size ∧ A ≠ some ⟨k, 0, none⟩) → wx.heap[k]? = wr.heap[k]? ∧ (k < wx.heap.size ∧ A ≠ some ⟨k, 0, none⟩) := fun k hk => ⟨hb.block k hk.1, Nat.lt_of_lt_of_le hk.1 hb.size, hk.2⟩
  exact ⟨h.bel.trans (hb.mono h.bel.size), ⟨l, hl, hr.below hb⟩, (hb.block _ (lt_of_block h.b4)).trans h.b4, (hb.block _ (lt_of_block h.b6)).trans h.b6, h.g4.keep hS, h.g6.keep hS, h.ne4, h.ne6⟩
set_option maxRecDepth 100000 in
set_option maxHeartbeats 2000000 in
theorem helloParses_any {w : World} {A : Option Addr} {c n : Nat} {B : List UInt8} (h : Rb w.heap.size w A c B) (hn : n = B.length) (hG : Gl w) :
    Calls Tryz.prog 3 #[.slice A n c] w (BoolP true w) := by
  subst hn
  obtain ⟨m, hm⟩ : ∃ x, x = min B.length 1500 := ⟨_, rfl⟩
  have HMN : Hid (min (B.length : Int) 1500 = m) := Lib.hid (by omega)
  have hcap := h.cap
  have m0 : m ≤ c := by omega
  have m1 : m ≤ 1500 := by omega
  have htl : (B.take m).length = m := by rw [List.length_take]; omega
  have HT := Lib.hid (h.take m)
  have HG := Lib.hid hG
  have CC := Lib.hid (copyB_any (n := m) (h.take m) htl.symm (by omega))
  have HTL := Lib.hid htl
  clear h hG hm hcap htl
  generalize B.length = bl at *
  generalize B.take m = X at *
  unfold MadeP at CC
  have hmn := HMN.out
  go_enter Tryz.func3, Tryz.ntmps3
  go_wp2_with (refine wpList_sliceB rfl (.tmp 13) (.tmp 16) rfl A bl c m rfl rfl m0 ?_)
  clear hmn
  refine CC.out.mono ?_
  rintro e w1 ⟨A1, c1, rfl, hr1, hb1⟩
  have R1 := Lib.hid hr1
  have B1 := Lib.hid hb1
  have CP := Lib.hid (parse_u (c := c1) hr1.rb (by rw [HTL.out]; omega) (HG.out.below hb1))
  unfold PrsU at CP
  rw [HTL.out] at CP ⊢
  clear hr1 hb1 CC
  go_wp2_with fail
  refine CP.out.mono ?_
  rintro e w2 ⟨a4, rfl, hb2, hg2⟩
  generalize hG7 : G7 X = G at *
  have HRP := Lib.hid fun (wx : World) (hb : Below w.heap.size w wx) => rparse_u (c := c) (w := wx) ((HT.out.keep (w' := wx) fun k hk => hb.block k hk).mono hb.size) (by rw [HTL.out]; omega)
  have HSP := Lib.hid fun (wx : World) (hb : Below w1.heap.size w1 wx) => sni_u (c := c1) (w := wx) ((R1.out.rb.keep (w' := wx) fun k hk => hb.block k hk).mono hb.size) (by rw [HTL.out]; omega) (HG.out.below (B1.out.trans (hb.mono B1.out.size)))
  have HSR := Lib.hid fun (wx : World) (hb : Below w.heap.size w wx) => rsni_u (c := c) (w := wx) ((HT.out.keep (w' := wx) fun k hk => hb.block k hk).mono hb.size) (by rw [HTL.out]; omega)
  have HEQ := Lib.hid fun (wx : World) (h1 : Below w.heap.size w wx) (hb : Below w1.heap.size w1 wx) => eqBytes_rb (w := wx) ((R1.out.rb.keep (w' := wx) fun k hk => hb.block k hk).mono hb.size) ((HT.out.keep (w' := wx) fun k hk => h1.block k hk).mono h1.size)
  unfold PrsU SniU at *
  simp only [hG7, HTL.out, beq_self_eq_true] at HRP HSP HSR HEQ
  have HGO := Lib.hid (grtA_one G)
  have HGI := Lib.hid (infoGA G)
  have B2 : Hid (Below w1.heap.size w1 (w2.alloc (.cells (grtA G a4) 28))) := Lib.hid (hb2.trans ((below_new w2 _).mono hb2.size))
  have Q4 : Hid ((w2.alloc (.cells (grtA G a4) 28)).heap[w2.heap.size]? = some (.cells (grtA G a4) 28 (0, 0)) ∧ GrS (New w1.heap.size (w2.alloc (.cells (grtA G a4) 28))) (w2.alloc (.cells (grtA G a4) 28)) G a4 ∧ w1.heap.size ≤ w2.heap.size) := Lib.hid ⟨heap_alloc_new w2 _, hg2.keep fun k hk => ⟨(below_new w2 _).block k hk.2, hk.1, Nat.lt_of_lt_of_le hk.2 (below_new w2 _).size⟩, hb2.size⟩
  clear hb2 hg2 CP hG7 HT
  generalize E7 X = z at *
  generalize S7 X = sn at *
  have CR := Lib.hid (HRP.out _ (B1.out.trans (B2.out.mono B1.out.size)))
  go_wp2_with (first
    | (refine wpList_alloc7 rfl rfl w2.heap.size rfl ?_)
    | (refine wpList_store_row rfl 28 (.tmp 4) (.tmp 23) rfl w2.heap.size (grtA G a4) rfl rfl 28 _ (heap_alloc_new w2 _) (HGI.out a4) rfl (HGO.out a4) ?_; rw [World.setRow_alloc_new]; generalize w2.alloc (.cells (grtA G a4) 28) = w2b at *; generalize w2.heap.size = n4 at *))
  refine CR.out.mono ?_
  rintro e w3 ⟨a6, rfl, hb3, hg3⟩
  have B3 : Hid (Below w1.heap.size w1 (w3.alloc (.cells (grtA G a6) 28))) := Lib.hid ((B2.out.trans (hb3.mono B2.out.size)).trans ((below_new w3 _).mono (Nat.le_trans B2.out.size hb3.size)))
  have P3 : Hid (Hps w (w3.alloc (.cells (grtA G a6) 28)) m A1 c1 n4 w3.heap.size G a4 a6) := Lib.hid (by
    have hb3' := hb3.trans ((below_new w3 (.cells (grtA G a6) 28)).mono hb3.size)
    have hlt4 := lt_of_block Q4.out.1
    have hno : ∀ k, w1.heap.size ≤ k → A1 ≠ some ⟨k, 0, none⟩ := fun k hk e => by have := (R1.out.lt e).2; omega
    have hs2 := B2.out.size
    have hs3 := hb3.size
    refine ⟨B1.out.trans (B3.out.mono B1.out.size), ⟨X, HTL.out, R1.out.below B3.out⟩, (hb3'.block _ hlt4).trans Q4.out.1, heap_alloc_new w3 _, Q4.out.2.1.keep fun k hk => ⟨hb3'.block k hk.2, Nat.lt_of_lt_of_le hk.2 hb3'.size, hno k hk.1⟩, hg3.keep fun k hk => ⟨(below_new w3 _).block k hk.2, Nat.lt_of_lt_of_le hk.2 (below_new w3 _).size, hno k (Nat.le_trans hs2 hk.1)⟩, hno _ Q4.out.2.2, hno _ (by omega)⟩)
  clear hb3 hg3 CR B2 Q4 HRP
  have CS := Lib.hid (HSP.out _ B3.out)
  go_wp2_with (first
    | (refine wpList_alloc7 rfl rfl w3.heap.size rfl ?_)
    | (refine wpList_store_row rfl 28 (.tmp 6) (.tmp 28) rfl w3.heap.size (grtA G a6) rfl rfl 28 _ (heap_alloc_new w3 _) (HGI.out a6) rfl (HGO.out a6) ?_; rw [World.setRow_alloc_new]; generalize w3.alloc (.cells (grtA G a6) 28) = w3b at *; generalize w3.heap.size = n6 at *))
  refine CS.out.mono ?_
  rintro e w4 ⟨rfl, hb4⟩
  have B4 := Lib.hid (B3.out.trans (hb4.mono B3.out.size))
  have P4 := Lib.hid (P3.out.low hb4)
  have CT := Lib.hid (HSR.out _ P4.out.bel)
  clear hb4 CS B3 P3
  go_wp2_with fail
  refine CT.out.mono ?_
  rintro e w5 ⟨rfl, hb5⟩
  have P5 := Lib.hid (P4.out.low hb5)
  have CE := Lib.hid (HEQ.out _ P5.out.bel (B4.out.trans (hb5.mono B4.out.size)))
  clear hb5 CT B4 P4 HSP HSR HEQ
  go_wp2_with (go_at_call 15; refine (CE.out).mono ?_; rintro e w' ⟨rfl, rfl⟩)
  clear CE HTL HMN m0
  rename World => w6
  go_loopw [12] (fun v wr => ∃ j : Nat, j ≤ m ∧ v = .int .i64 j ∧ Hid (Hps w wr m A1 c1 n4 n6 G a4 a6)) (fun v _ => m - (intOf v).toNat)
  case atStart => exact ⟨0, Nat.zero_le _, rfl, P5⟩
  case round =>
    obtain ⟨j, hj, rfl, hst⟩ := hrel
    clear P5
    by_cases hlt : j < m
    · obtain ⟨l, hl, hr⟩ := hst.out.row
      obtain ⟨g, rfl⟩ := hr.some' (by omega)
      have q0 : (0 : Int) ≤ j := by omega
      have q1 : (j : Int) < m := by omega
      obtain ⟨y, hy⟩ := xor_byte (l[j]'(by omega)).toNat 90
      obtain ⟨_, p2, p3⟩ := hr.put j (by omega) y _ hy
      have HE := Lib.hid (hst.out.put j _ y hy hlt)
      generalize hxx : ((l[j]'(by omega)).toNat : Int) = xx at *
      clear hr hy hl hxx
      go_wp2_with fail
      go_roundw
      case rel => exact ⟨j + 1, by omega, by go_num, HE⟩
      case measure => simp [intOf]; omega
    · obtain rfl : j = m := by omega
      have q1 : ¬ (j : Int) < j := by omega
      have b4 := Lib.hid hst.out.b4
      have b6 := Lib.hid hst.out.b6
      have CS := Lib.hid (rsame_any (hst.out.g4.grV fun k hk => hk.1) (hst.out.g6.grV fun k hk => hk.1))
      have HB := Lib.hid hst.out.bel
      unfold BoolP at CS
      clear hst hj hlt R1 B1
      go_wp2_with (first
        | (refine wpList_load_row rfl 28 (.tmp 4) rfl n4 rfl 28 _ (0, 0) _ b4.out Tryz.underlying28 rfl (HGI.out a4) ?_)
        | (refine wpList_load_row rfl 28 (.tmp 6) rfl n6 rfl 28 _ (0, 0) _ b6.out Tryz.underlying28 rfl (HGI.out a6) ?_)
        | (go_at_call 16; refine (CS.out).mono ?_; rintro e w7 ⟨rfl, hb⟩; have HB7 := Lib.hid (HB.out.trans (hb.mono HB.out.size)); clear hb)
        | (go_at_call 17; refine (works_any _ (HG.out.below HB7.out)).mono ?_; rintro e w8 ⟨rfl, hb⟩; have HB8 := Lib.hid (HB7.out.trans (hb.mono HB7.out.size)); clear hb))
      go_ret
      exact ⟨rfl, HB8.out⟩
end Go.Proofs.YtiakbmllpnabnaaGreatDoor
