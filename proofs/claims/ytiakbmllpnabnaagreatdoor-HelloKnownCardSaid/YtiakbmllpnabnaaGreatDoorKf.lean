/- The program's writer: contents. -/
import Derived.Test.YtiakbmllpnabnaaGreatDoorKe
namespace Go.Proofs.YtiakbmllpnabnaaGreatDoor
open Go Go.RowKit

theorem box_cell (w wx : World) (cs : Array Value) (t : TypeId) (hb : Below (w.alloc (.cells cs t)).heap.size (w.alloc (.cells cs t)) wx) (j : Nat) : wx.cell? ⟨w.heap.size, j, none⟩ = cs[j]? := by
  have hl : w.heap.size < (w.alloc (.cells cs t)).heap.size := by simp
  exact (hb.cell (p := ⟨w.heap.size, j, none⟩) hl).trans (World.cell?_alloc_at _ _ _ _ rfl)
theorem rnd_cell (g : Grt) (a : Adr) (hr : g.rnd.length = 32) (i : Nat) (hi : i < g.rnd.length) : (grtA g a)[1 + i]? = some (.int .u8 (g.rnd[i].toNat : Int)) := by
  have h : ∀ i, i < 32 → (grtA g a)[1 + i]? = some (cellR g.rnd i) := by
    intro i hi
    have : i = 0 ∨ i = 1 ∨ i = 2 ∨ i = 3 ∨ i = 4 ∨ i = 5 ∨ i = 6 ∨ i = 7 ∨ i = 8 ∨ i = 9 ∨ i = 10 ∨ i = 11 ∨ i = 12 ∨ i = 13 ∨ i = 14 ∨ i = 15 ∨ i = 16 ∨ i = 17 ∨ i = 18 ∨ i = 19 ∨ i = 20 ∨ i = 21 ∨ i = 22 ∨ i = 23 ∨ i = 24 ∨ i = 25 ∨ i = 26 ∨ i = 27 ∨ i = 28 ∨ i = 29 ∨ i = 30 ∨ i = 31 := by omega
    rcases this with rfl | rfl | rfl | rfl | rfl | rfl | rfl | rfl | rfl | rfl | rfl | rfl | rfl | rfl | rfl | rfl | rfl | rfl | rfl | rfl | rfl | rfl | rfl | rfl | rfl | rfl | rfl | rfl | rfl | rfl | rfl | rfl <;> rfl
  rw [h i (by omega)]
  unfold cellR
  rw [List.getD_eq_getElem?_getD, List.getElem?_eq_getElem hi]; rfl
theorem rnd_rb (w wx : World) (g : Grt) (a : Adr) (hr : g.rnd.length = 32) (hb : Below (w.alloc (.cells (grtA g a) 28)).heap.size (w.alloc (.cells (grtA g a) 28)) wx) : Rb (w.heap.size + 1) wx (some ⟨w.heap.size, 1, none⟩) 32 g.rnd :=
  ⟨Nat.le_of_eq hr, (fun e => by cases e), fun i hi => ⟨w.heap.size, 1, rfl, Nat.lt_succ_self _, by rw [box_cell w wx _ _ hb, rnd_cell g a hr i hi]⟩⟩
/-- the extensions with the host's among them -/
def withX (g : Grt) : List (Int × List UInt8) := g.exts.take g.pos.toNat ++ (0, encN g.host) :: g.exts.drop g.pos.toNat
theorem enc_withX (g : Grt) : encX (withX g) = allX g := by
  unfold withX allX
  rw [encX_app, encX_cons, List.append_assoc]; rfl
theorem insX {L : List Xc} {D D' : Nat} {w : World} {g : Grt} {An : Option Addr} {cn : Nat} (hx : Xr D w L g.exts) (hD : D ≤ D') (hn : Rb D' w An cn (encN g.host)) (hp : g.pos.toNat ≤ g.exts.length) :
    insV (xcV L) g.pos.toNat (.int .i64 0) (.slice An (encN g.host).length cn) = xcV (L.take g.pos.toNat ++ ⟨0, An, cn, encN g.host⟩ :: L.drop g.pos.toNat) ∧ Xr D' w (L.take g.pos.toNat ++ ⟨0, An, cn, encN g.host⟩ :: L.drop g.pos.toNat) (withX g) := by
  have hl := hx.len
  constructor
  · unfold insV
    rw [xcV_take L _ (by omega), xcV_drop L _ (by omega), show (⟨0, An, cn, encN g.host⟩ : Xc) :: L.drop g.pos.toNat = [⟨0, An, cn, encN g.host⟩] ++ L.drop g.pos.toNat from rfl, xcV_app, xcV_app, xcV_one]
  · refine ⟨?_, fun x hx' => ?_⟩
    · unfold withX
      rw [List.map_append, List.map_cons, List.map_take, List.map_drop, hx.eq]; rfl
    · rcases List.mem_append.1 hx' with h | h
      · exact (hx.rb x (List.mem_of_mem_take h)).mono hD
      · rcases List.mem_cons.1 h with rfl | h
        · exact hn
        · exact (hx.rb x (List.mem_of_mem_drop h)).mono hD
theorem below_step {B : Nat} {a w w' : World} (h : Below B a w) (hB : B ≤ a.heap.size) (k : Below w.heap.size w w') : Below B a w' := h.trans (k.mono (Nat.le_trans hB h.size))
theorem extBox_new (w : World) (x0 x1 : Value) : ExtBox (w.alloc (.cells #[x0, x1] 62)) w.heap.size x0 x1 := heap_alloc_new w _
theorem ExtBox.below {w w' : World} {g : Nat} {x0 x1 : Value} (h : ExtBox w g x0 x1) (hb : Below w.heap.size w w') : ExtBox w' g x0 x1 := by
  unfold ExtBox at h ⊢
  rw [hb.block g (Array.getElem?_eq_some_iff.1 h).1]; exact h
set_option maxRecDepth 100000 in
set_option maxHeartbeats 1000000 in
theorem contents_prog {w : World} {g : Grt} {a : Adr} (h : GrV w.heap.size w g a) (hok : okG g = true) : Calls Tryz.prog 63 #[.agg (grtA g a)] w (MadeP (bodyG g) w) := by
  have hm : mayG g = true ∧ (msgG g).length ≤ 16384 := by
    unfold okG at hok
    rwa [Bool.and_eq_true, decide_eq_true_iff] at hok
  obtain ⟨hmay, hml⟩ := hm
  obtain ⟨⟨m0, m4⟩, hs, ⟨u1, u2⟩, hme, hh, hx, hsu⟩ := mayG_iff hmay
  have hbl := bodyG_len g
  rw [msgG_len, hbl] at hml
  unfold extsOk at hx
  rw [Bool.and_eq_true, Bool.and_eq_true, decide_eq_true_iff, decide_eq_true_iff] at hx
  obtain ⟨⟨x0, x1⟩, ht⟩ := hx
  have hmem := typesOk_all ht
  have hel := encX_many g.exts
  have hrl := h.rl
  have hW0 : (w.alloc (.cells (grtA g a) 28)).heap.size = w.heap.size + 1 := by simp
  have hB0 := below_new w (.cells (grtA g a) 28)
  -- the box
  have HK : Hid (∀ wx, Below (w.heap.size + 1) (w.alloc (.cells (grtA g a) 28)) wx → ∀ j, wx.cell? ⟨w.heap.size, j, none⟩ = (grtA g a)[j]?) := Lib.hid fun wx hb => box_cell w wx _ _ (by rw [hW0]; exact hb)
  have HRb : Hid (∀ wx, Below (w.heap.size + 1) (w.alloc (.cells (grtA g a) 28)) wx → Rb (w.heap.size + 1) wx (some ⟨w.heap.size, 1, none⟩) 32 g.rnd) := Lib.hid fun wx hb => rnd_rb w wx g a hrl (by rw [hW0]; exact hb)
  have HV : Hid (∀ wx, Below (w.heap.size + 1) (w.alloc (.cells (grtA g a) 28)) wx → GrV (w.heap.size + 1) wx g a) := Lib.hid fun wx hb => h.keep (fun k hk => (hb.block k (by omega)).trans (hB0.block k hk)) (by omega)
  have hB0' : Hid (Below w.heap.size w (w.alloc (.cells (grtA g a) 28))) := Lib.hid hB0
  have hsz : w.heap.size + 1 ≤ (w.alloc (.cells (grtA g a) 28)).heap.size := Nat.le_of_eq hW0.symm
  have b32 : rowB 771 2 = [3, 3] := by rw [row2]; rfl
  have C1 : Hid (Calls Tryz.prog 84 #[.slice none 0 0, .int .i64 2, .int .i64 771] (w.alloc (.cells (grtA g a) 28)) fun e w' => ∃ (A' : Option Addr) (c' : Nat), e = .returned (.slice A' 2 c') ∧ RowG w' (w.heap.size + 1) A' c' [3, 3] ∧ Below (w.heap.size + 1) (w.alloc (.cells (grtA g a) 28)) w') :=
    Lib.hid ((number_prog (A := none) (c := 0) (q := 0) (l := []) 771 2 (RowG.nil _ _) rfl hsz (by decide) (by decide)).mono fun e w' hg => by
      obtain ⟨A', c', rfl, h1, h2⟩ := hg
      rw [List.nil_append, b32] at h1
      exact ⟨A', c', by rw [rowB_len]; rfl, h1, h2.below⟩)
  -- what each part is
  have HL2 : Hid ([3, 3] ++ g.rnd = [3, 3] ++ g.rnd) := Lib.hid rfl
  have hbody : Hid (bodyG g = [3, 3] ++ g.rnd ++ fillB g.ses 1 ++ fillB (encS g.suites) 2 ++ fillB g.meth 1 ++ fillB (allX g) 2) := Lib.hid (by unfold bodyG; simp)
  have CP : Hid (∀ (k : Nat) (A1 : Option Addr) (c1 q m : Nat) (l z : List UInt8) (F : Option Addr) (fc : Nat) (wx : World), l.length = q → z.length = m → RowG wx (w.heap.size + 1) A1 c1 l → Below (w.heap.size + 1) (w.alloc (.cells (grtA g a) 28)) wx → l.length ≤ 100000 → z.length ≤ 100000 → k ≤ 3 → Safe A1 wx F fc z →
      Calls Tryz.prog 62 #[.slice A1 q c1, .int .i64 k, .slice F m fc] wx fun e w' => ∃ (A' : Option Addr) (c' : Nat), e = .returned (.slice A' (l ++ fillB z k).length c') ∧ RowG w' (w.heap.size + 1) A' c' (l ++ fillB z k) ∧ Below (w.heap.size + 1) (w.alloc (.cells (grtA g a) 28)) w' ∧ ∀ k, k < wx.heap.size → A1 ≠ some ⟨k, 0, none⟩ → w'.heap[k]? = wx.heap[k]?) :=
    Lib.hid fun k A1 c1 q m l z F fc wx hq hm hR hb hl hz hk hF => (part_prog k hR hq hm (Nat.le_trans hsz hb.size) (by omega) (by omega) hk hF).mono fun e w' hg => by
      obtain ⟨A', c', rfl, h1, h2⟩ := hg
      exact ⟨A', c', by rw [List.length_append], h1, hb.trans h2.below, h2.old⟩
  have CS : Hid (∀ wx, Below (w.heap.size + 1) (w.alloc (.cells (grtA g a) 28)) wx → Calls Tryz.prog 85 #[.slice a.a2 g.suites.length a.c2] wx (MadeP (encS g.suites) wx)) := Lib.hid fun wx hb =>
    suiteBytes_prog ((HV.out wx hb).sui.keep (fun _ _ => rfl) (Nat.le_trans hsz hb.size)) rfl (by omega) (fun z hz => by
      have := List.all_eq_true.1 hsu z hz
      rw [Bool.and_eq_true, decide_eq_true_iff] at this
      exact this.1)
  have CD : Hid (∀ wx, Calls Tryz.prog 86 #[.string ⟨g.host.toArray⟩] wx (MadeP (encN g.host) wx)) := Lib.hid fun wx => dataOf_prog wx g.host h.hl
  have CC : Hid (∀ wx, Below (w.heap.size + 1) (w.alloc (.cells (grtA g a) 28)) wx → Calls Tryz.prog 89 #[.slice a.a4 g.exts.length a.c4] wx (CloneP (w.heap.size + 1) g.exts wx)) := Lib.hid fun wx hb =>
    clone_prog (HV.out wx hb).ext (Nat.le_trans hsz hb.size) rfl h.xl
  have hap : g.pos = ((g.pos.toNat : Nat) : Int) := by omega
  have hpos : g.pos.toNat ≤ g.exts.length := by omega
  have hesl := encS_len g.suites
  have hnl := encN_len g.host
  have hH60 := isH_len hh
  have hfl : ∀ (z : List UInt8) (k : Nat), (fillB z k).length = z.length + k := fun z k => by unfold fillB; rw [List.length_append, rowB_len]; omega
  have HLN : Hid (([3, 3] ++ g.rnd).length = 34 ∧ g.ses.length ≤ 100000 ∧ (encS g.suites).length ≤ 100000 ∧ g.meth.length ≤ 100000 ∧ (allX g).length ≤ 100000 ∧ ([3, 3] ++ g.rnd ++ fillB g.ses 1).length ≤ 100000 ∧ ([3, 3] ++ g.rnd ++ fillB g.ses 1 ++ fillB (encS g.suites) 2).length ≤ 100000 ∧ ([3, 3] ++ g.rnd ++ fillB g.ses 1 ++ fillB (encS g.suites) 2 ++ fillB g.meth 1).length ≤ 100000) := Lib.hid (by
    have q1 : ([3, 3] ++ g.rnd).length = 34 := by rw [List.length_append, hrl]; rfl
    simp only [List.length_append, hfl, List.length_cons, List.length_nil] at q1 ⊢
    clear m4 m0 hel hH60 x0 x1 hmem ht hsu
    refine ⟨by omega, by omega, by omega, by omega, by omega, by omega, by omega, by omega⟩)
  have CI : Hid (∀ (wy : World) (Ac : Option Addr) (cc : Nat) (L : List Xc) (An : Option Addr) (cn d gE : Nat), RowV 2 wy d Ac g.exts.length cc (xcV L) → Xr (w.heap.size + 1) wy L g.exts → w.heap.size + 1 ≤ d → d ≤ wy.heap.size → Ac ≠ some ⟨gE, 0, none⟩ → ExtBox wy gE (.int .i64 0) (.slice An (encN g.host).length cn) → Rb d wy An cn (encN g.host) →
      Calls Tryz.prog 88 #[.slice Ac g.exts.length cc, .int .i64 g.pos, .slice (some ⟨gE, 0, none⟩) 1 1] wy fun e w' => ∃ (A' : Option Addr) (c' : Nat), e = .returned (.slice A' (g.exts.length + 1) c') ∧ ExtsIn w'.heap.size w' A' (withX g) ∧ Below d wy w') := Lib.hid fun wy Ac cc L An cn d gE hR hX hd hdw hA hE hN => by
    have := ins_prog hR hdw h.xl hpos hA hE (xcV_cell L) rfl rfl
    rw [hap]
    refine this.mono fun e w' hg => ?_
    obtain ⟨A', c', rfl, h1, h2⟩ := hg
    have hX' : Xr d w' L g.exts := (hX.keep (fun k hk => h2.block k (by omega)) hd)
    obtain ⟨i1, i2⟩ := insX hX' (Nat.le_refl d) (hN.keep fun k hk => h2.block k hk) hpos
    rw [i1] at h1
    exact ⟨A', c', rfl, h1.exts (i2.keep (fun _ _ => rfl) (Nat.le_trans hdw h2.size)), h2⟩
  have hwl : (withX g).length = g.exts.length + 1 := by
    unfold withX
    rw [List.length_append, List.length_cons, List.length_take, List.length_drop]; omega
  have CX : Hid (∀ (wy : World) (A' : Option Addr) (c' : Nat), ExtsIn wy.heap.size wy A' (withX g) → Calls Tryz.prog 87 #[.slice A' (g.exts.length + 1) c'] wy (MadeP (allX g) wy)) := Lib.hid fun wy A' c' hE => by
    rw [← enc_withX, ← hwl]
    refine extBytes_prog hE rfl (by rw [enc_withX]; have := HLN.out.2.2.2.2.1; omega) (fun x hx => ?_)
    unfold withX at hx
    rcases List.mem_append.1 hx with hx | hx
    · have := (hmem x (List.mem_of_mem_take hx)).1; omega
    · rcases List.mem_cons.1 hx with rfl | hx
      · exact Int.le_refl _
      · have := (hmem x (List.mem_of_mem_drop hx)).1; omega
  have HS1 : Hid (∀ wx, Below (w.heap.size + 1) (w.alloc (.cells (grtA g a) 28)) wx → Rb (w.heap.size + 1) wx a.a1 a.c1 g.ses ∧ Rb (w.heap.size + 1) wx a.a3 a.c3 g.meth) := Lib.hid fun wx hb => ⟨(HV.out wx hb).ses, (HV.out wx hb).met⟩
  have HSZ := Lib.hid hsz
  clear h hok hmay hml m0 m4 hs u1 u2 hme hh hsu hbl x0 x1 ht hmem hel hW0 hB0 hsz b32 HL2 hesl hnl hH60 hfl hwl hpos hap HV
  unfold MadeP CloneP at *
  obtain ⟨mi, rnd, ses, su, me, ho, pos, ex⟩ := g
  obtain ⟨a1, k1, a2, k2, a3, k3, a4, k4⟩ := a
  dsimp only at *
  generalize bodyG ⟨mi, rnd, ses, su, me, ho, pos, ex⟩ = BODY at *
  generalize allX ⟨mi, rnd, ses, su, me, ho, pos, ex⟩ = AX at *
  generalize withX ⟨mi, rnd, ses, su, me, ho, pos, ex⟩ = WX at *
  go_enter Tryz.func63, Tryz.ntmps63
  go_wp2_with (first
    | (go_at_call 84; refine C1.out.mono ?_; rintro e w1 ⟨A1, c1, rfl, hr1, hb1⟩; have R1 := Lib.hid hr1; have B1 := Lib.hid hb1; have S1 := Lib.hid (src_rb (HRb.out w1 hb1)); clear hr1 hb1)
    | (at_builtin; refine wpList_pushW rfl (.tmp 6) (.tmp 8) 22 rfl w1 (w.heap.size + 1) A1 c1 2 32 [3, 3] rnd (.slice (some ⟨w.heap.size, 1, none⟩) 32 32) rfl hrl rfl rfl R1.out (by have := S1.out; rw [hrl] at this ⊢; exact this) (Nat.le_trans HSZ.out B1.out.size) (by decide) ?_; intro A2 c2 w2 hr2 hb2; have R2 := Lib.hid hr2; have B2 := Lib.hid (B1.out.trans hb2.below); have d33 : w2.cell? ⟨w.heap.size, 33, none⟩ = some (.slice a1 ses.length k1) := HK.out w2 B2.out 33; clear hr2 hb2)
    | (go_at_call 62; refine (CP.out 1 A2 c2 34 ses.length _ ses a1 k1 w2 HLN.out.1 rfl R2.out B2.out (by rw [HLN.out.1]; decide) HLN.out.2.1 (by decide) (safe_old R2.out (HS1.out w2 B2.out).1 (Nat.le_trans HSZ.out B2.out.size))).mono ?_; rintro e w3 ⟨A3, c3, rfl, hr3, hb3, _⟩; have R3 := Lib.hid hr3; have B3 := Lib.hid hb3; have d34 : w3.cell? ⟨w.heap.size, 34, none⟩ = some (.slice a2 su.length k2) := HK.out w3 B3.out 34; clear hr3 hb3 d33; generalize [3, 3] ++ rnd ++ fillB ses 1 = l3 at *))
  clear C1 R1 B1 S1 R2 B2
  refine (CS.out w3 B3.out).mono ?_
  rintro e w4 ⟨F4, fc4, rfl, hr4, hb4⟩
  have B4 := Lib.hid (B3.out.trans (hb4.mono (Nat.le_trans HSZ.out B3.out.size)))
  have R4 := Lib.hid (R3.out.below hb4)
  have S4 := Lib.hid (safe_row (A := A3) hr4 fun g e => (R3.out.lt e).2)
  clear hr4 hb4 d34 CS
  have C5 := Lib.hid (CP.out 2 A3 c3 l3.length (encS su).length l3 (encS su) F4 fc4 w4 rfl rfl R4.out B4.out HLN.out.2.2.2.2.2.1 HLN.out.2.2.1 (by decide) S4.out)
  generalize l3 ++ fillB (encS su) 2 = l5 at *
  go_wp2_with fail
  refine C5.out.mono ?_
  rintro e w5 ⟨A5, c5, rfl, hr5, hb5, _⟩
  have d35 : w5.cell? ⟨w.heap.size, 35, none⟩ = some (.slice a3 me.length k3) := HK.out w5 hb5 35
  have C6 := Lib.hid (CP.out 1 A5 c5 l5.length me.length l5 me a3 k3 w5 rfl rfl hr5 hb5 HLN.out.2.2.2.2.2.2.1 HLN.out.2.2.2.1 (by decide) (safe_old hr5 (HS1.out w5 hb5).2 (Nat.le_trans HSZ.out hb5.size)))
  generalize l5 ++ fillB me 1 = l6 at *
  clear hr5 hb5 C5 R3 B3 R4 B4 S4
  go_wp2_with fail
  refine C6.out.mono ?_
  rintro e w6 ⟨A6, c6, rfl, hr6, hb6, _⟩
  have d36 : w6.cell? ⟨w.heap.size, 36, none⟩ = some (.string ⟨ho.toArray⟩) := HK.out w6 hb6 36
  have R6 := Lib.hid hr6
  have B6 := Lib.hid hb6
  clear hr6 hb6 C6 d35
  go_wp2_with fail
  refine (CD.out w6).mono ?_
  rintro e w7 ⟨An, cn, rfl, hr7, hb7⟩
  have R7 := Lib.hid (R6.out.below hb7)
  have N7 := Lib.hid hr7
  have B7 := Lib.hid (B6.out.trans (hb7.mono (Nat.le_trans HSZ.out B6.out.size)))
  have Z7 : Hid (w6.heap.size ≤ w7.heap.size) := Lib.hid hb7.size
  clear hr7 hb7 R6 CD d36
  go_wp2_with fail
  have BN := below_new w7 (.cells #[.int .i64 0, .slice An (encN ho).length cn] 62)
  have R8 := Lib.hid (R7.out.below BN)
  have N8 : Hid (Rb w7.heap.size (w7.alloc (.cells #[.int .i64 0, .slice An (encN ho).length cn] 62)) An cn (encN ho)) := Lib.hid (N7.out.rb.keep fun k hk => BN.block k hk)
  have B8 := Lib.hid (B7.out.trans (BN.mono (Nat.le_trans HSZ.out B7.out.size)))
  have c0 : (w7.alloc (.cells #[.int .i64 0, .slice An (encN ho).length cn] 62)).cell? ⟨w7.heap.size, 0, none⟩ = some (.int .i64 0) := by rw [World.cell?_alloc_at _ _ _ _ rfl]; rfl
  have c1' : (w7.alloc (.cells #[.int .i64 0, .slice An (encN ho).length cn] 62)).cell? ⟨w7.heap.size, 1, none⟩ = some (.slice An (encN ho).length cn) := by rw [World.cell?_alloc_at _ _ _ _ rfl]; rfl
  have Z8 : Hid (w7.heap.size < (w7.alloc (.cells #[.int .i64 0, .slice An (encN ho).length cn] 62)).heap.size ∧ w.heap.size + 1 ≤ w7.heap.size) := Lib.hid ⟨by simp, Nat.le_trans HSZ.out B7.out.size⟩
  have HGN : Hid (A6 ≠ some ⟨w7.heap.size, 0, none⟩) := Lib.hid fun e => by have := (R7.out.lt e).2; omega
  clear R7 N7 B7 BN Z7
  generalize w7.alloc (.cells #[.int .i64 0, .slice An (encN ho).length cn] 62) = w8 at *
  generalize w7.heap.size = gN at *
  have HSS : Hid (∀ wy, Below w8.heap.size w8 wy → wy.cell? ⟨w.heap.size, 38, none⟩ = some (.slice a4 ex.length k4) ∧ wy.cell? ⟨w.heap.size, 37, none⟩ = some (.int .i64 pos) ∧ wy.cell? ⟨gN, 0, none⟩ = some (.int .i64 0) ∧ wy.cell? ⟨gN, 1, none⟩ = some (.slice An (encN ho).length cn)) := Lib.hid fun wy hy => by
    have hz := Z8.out
    have hy' := B8.out.trans (hy.mono (by omega))
    exact ⟨HK.out wy hy' 38, HK.out wy hy' 37, (hy.cell (p := ⟨gN, 0, none⟩) hz.1).trans c0, (hy.cell (p := ⟨gN, 1, none⟩) hz.1).trans c1'⟩
  clear c0 c1'
  have E0 : Hid (Below w8.heap.size w8 w8.drew) := Lib.hid (below_drewN (Below.refl _ _) 1)
  have HS0 := Lib.hid (HSS.out _ E0.out)
  have CC' : Hid (∀ wx, Below w8.heap.size w8 wx → Calls Tryz.prog 89 #[.slice a4 ex.length k4] wx fun e w' => ∃ (A : Option Addr) (c : Nat) (L : List Xc), e = .returned (.slice A ex.length c) ∧ RowV 2 w' wx.heap.size A ex.length c (xcV L) ∧ Xr (w.heap.size + 1) w' L ex ∧ Below wx.heap.size wx w') := Lib.hid fun wx hx => CC.out wx (B8.out.trans (hx.mono (by have := Z8.out; omega)))
  have CI' : Hid (∀ (wy : World) (Ac : Option Addr) (cc : Nat) (L : List Xc) (gE : Nat), RowV 2 wy w8.heap.size Ac ex.length cc (xcV L) → Xr (w.heap.size + 1) wy L ex → Below w8.heap.size w8 wy → Ac ≠ some ⟨gE, 0, none⟩ → ExtBox wy gE (.int .i64 0) (.slice An (encN ho).length cn) →
      Calls Tryz.prog 88 #[.slice Ac ex.length cc, .int .i64 pos, .slice (some ⟨gE, 0, none⟩) 1 1] wy fun e w' => ∃ (A' : Option Addr) (c' : Nat), e = .returned (.slice A' (ex.length + 1) c') ∧ ExtsIn w'.heap.size w' A' WX ∧ Below w8.heap.size w8 w') := Lib.hid fun wy Ac cc L gE hR hX hb hA hE =>
    (CI.out wy Ac cc L An cn w8.heap.size gE hR hX (by have := Z8.out; omega) hb.size hA hE ((N8.out.keep fun k hk => hb.block k (by have := Z8.out; omega)).mono (by have := Z8.out; omega))).mono fun e w' hg => by
      obtain ⟨A', c', rfl, h1, h2⟩ := hg
      exact ⟨A', c', rfl, h1, hb.trans h2⟩
  have CP' : Hid (∀ (wy : World) (F : Option Addr) (fc : Nat) (b2 : Nat), Below w8.heap.size w8 wy → RowG wy b2 F fc AX → w8.heap.size ≤ b2 → Calls Tryz.prog 62 #[.slice A6 l6.length c6, .int .i64 2, .slice F AX.length fc] wy fun e w' => ∃ (A' : Option Addr) (c' : Nat), e = .returned (.slice A' (l6 ++ fillB AX 2).length c') ∧ RowG w' (w.heap.size + 1) A' c' (l6 ++ fillB AX 2) ∧ Below (w.heap.size + 1) (w.alloc (.cells (grtA ⟨mi, rnd, ses, su, me, ho, pos, ex⟩ ⟨a1, k1, a2, k2, a3, k3, a4, k4⟩) 28)) w' ∧ (w'.cell? ⟨w.heap.size, 38, none⟩ = some (.slice a4 ex.length k4) ∧ w'.cell? ⟨w.heap.size, 37, none⟩ = some (.int .i64 pos) ∧ w'.cell? ⟨gN, 0, none⟩ = some (.int .i64 0) ∧ w'.cell? ⟨gN, 1, none⟩ = some (.slice An (encN ho).length cn))) := Lib.hid fun wy F fc b2 hb hR hb2 =>
    (CP.out 2 A6 c6 l6.length AX.length l6 AX F fc wy rfl rfl (R8.out.below hb) (B8.out.trans (hb.mono (by have := Z8.out; omega))) HLN.out.2.2.2.2.2.2.2 HLN.out.2.2.2.2.1 (by decide) (safe_row hR fun g e => Nat.lt_of_lt_of_le (R8.out.lt e).2 hb2)).mono fun e w' hg => by
      obtain ⟨A', c', rfl, h1, h2, h3⟩ := hg
      obtain ⟨_, _, s3, s4⟩ := HSS.out wy hb
      have hz := Z8.out
      have hbs := hb.size
      have hgn : w'.heap[gN]? = wy.heap[gN]? := h3 gN (by omega) HGN.out
      have hc : ∀ j, w'.cell? ⟨gN, j, none⟩ = wy.cell? ⟨gN, j, none⟩ := fun j => by unfold World.cell?; rw [hgn]
      exact ⟨A', c', rfl, h1, h2, HK.out w' h2 38, HK.out w' h2 37, (hc 0).trans s3, (hc 1).trans s4⟩
  clear CC CI CP HS1 HRb HK
  go_region_held3 (fun w' => w'.cell? ⟨w.heap.size, 38, none⟩ = some (.slice a4 ex.length k4) ∧ w'.cell? ⟨w.heap.size, 37, none⟩ = some (.int .i64 pos) ∧ w'.cell? ⟨gN, 0, none⟩ = some (.int .i64 0) ∧ w'.cell? ⟨gN, 1, none⟩ = some (.slice An (encN ho).length cn))
    (first | exact HS0.out | exact HS9.out | exact HS10.out | exact HS11.out | exact HS12.out | exact HSS.out _ (below_drewN (below_new w8 _) 1) | go_keep)
    ((first
      | (go_at_call 89; refine Calls.mono (CC'.out _ (by first | exact E0.out | exact E0.out.alloc (Nat.le_refl _) _ | exact below_drewN (below_new w8 _) 1)) ?_; rintro e w9 ⟨Ac, cc, L, rfl, hr9, hx9, hb9⟩; have B9 := Lib.hid (below_step (by first | exact E0.out | exact E0.out.alloc (Nat.le_refl _) _ | exact below_drewN (below_new w8 _) 1) (Nat.le_refl _) hb9); have HS9 := Lib.hid (HSS.out _ B9.out); have X9 := Lib.hid hx9; (try have Q9 : Hid (ExtBox w9 w8.heap.size (.int .i64 0) (.slice An (encN ho).length cn) ∧ Ac ≠ some ⟨w8.heap.size, 0, none⟩) := Lib.hid ⟨ExtBox.below (by exact extBox_new w8 _ _) hb9, fun e => by have := (hr9.lt e).1; simp at this; omega⟩); have R9 := Lib.hid (hr9.up (base' := w8.heap.size) (by first | exact Nat.le_refl _ | simp)); clear hr9 hx9 hb9)
      | (go_at_call 88; refine Calls.mono (by first | exact CI'.out _ Ac cc L _ R9.out X9.out B9.out Q9.out.2 Q9.out.1 | exact CI'.out _ Ac cc L _ (R9.out.below (below_new _ _)) (X9.out.keep (fun k hk => (below_new w9 _).block k (Nat.lt_of_lt_of_le hk (Nat.le_trans (by have := Z8.out; omega) B9.out.size))) (Nat.le_refl _)) (B9.out.alloc B9.out.size _) (fun e => by have := (R9.out.lt e).2; omega) (extBox_new _ _ _)) ?_; rintro e w10 ⟨A10, c10, rfl, hx10, hb10⟩; have B10 := Lib.hid hb10; have X10 := Lib.hid hx10; have HS10 := Lib.hid (HSS.out _ hb10); clear hb10 hx10)
      | (go_at_call 87; refine Calls.mono (CX.out w10 A10 c10 X10.out) ?_; rintro e w11 ⟨F11, f11, rfl, hr11, hb11⟩; have B11 := Lib.hid (below_step B10.out (Nat.le_refl _) hb11); have R11 := Lib.hid hr11; have HS11 := Lib.hid (HSS.out _ B11.out); clear hb11 hr11)
      | (go_at_call 62; refine Calls.mono (CP'.out w11 F11 f11 w10.heap.size B11.out R11.out B10.out.size) ?_; rintro e w12 ⟨A12, c12, rfl, hr12, hb12, hs12⟩; have HS12 := Lib.hid hs12; have R12 := Lib.hid hr12; have B12 := Lib.hid hb12; clear hr12 hb12 hs12)))
  all_goals
    go_wp2_with fail
    go_ret
    rw [hbody.out]
    exact ⟨A12, c12, (by rw [List.length_append]; rfl), R12.out.up (Nat.le_succ _), hB0'.out.trans (B12.out.mono (Nat.le_succ _))⟩
end Go.Proofs.YtiakbmllpnabnaaGreatDoor
