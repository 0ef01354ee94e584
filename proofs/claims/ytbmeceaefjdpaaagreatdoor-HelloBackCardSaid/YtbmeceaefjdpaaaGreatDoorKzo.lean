/- HelloBack. -/
import Derived.Test.YtbmeceaefjdpaaaGreatDoorKzn
import Derived.Test.YtbmeceaefjdpaaaGreatDoorKzl
namespace Go.Proofs.YtbmeceaefjdpaaaGreatDoor
open Go Go.RowKit

set_option maxRecDepth 100000 in
set_option maxHeartbeats 1000000 in
theorem helloBack_any {w : World} (hG : Gl w) {s : Sed} (h : SedV w.heap.size w s) :
    Calls Tryz.prog 5 #[.agg (sedA s)] w (BoolP true w) := by
  have x0 := below_new w (.cells (sedA s) 46)
  have CW0 := Lib.hid (works_any _ (hG.below x0))
  have HX : Hid (∀ wx, Below (w.alloc (.cells (sedA s) 46)).heap.size (w.alloc (.cells (sedA s) 46)) wx → wx.heap[w.heap.size]? = some (.cells (sedA s) 46 (0, 0)) ∧ Below w.heap.size w wx) := Lib.hid fun wx hb => ⟨(hb.block _ (by simp)).trans (heap_alloc_new w _), x0.trans (hb.mono x0.size)⟩
  have HGI := Lib.hid (infoSd s)
  have HG := Lib.hid hG
  have HS := Lib.hid h
  clear x0 h hG
  go_enter Tryz.func5, Tryz.ntmps5
  go_wp2_with fail
  refine CW0.out.mono ?_
  rintro e w0 ⟨rfl, hb0⟩
  obtain ⟨hr0, hb0⟩ := HX.out w0 hb0
  have HR := Lib.hid hr0
  have B0 := Lib.hid hb0
  have CM := Lib.hid (made_any (HS.out.below hb0))
  clear CW0 HX hr0 hb0
  go_wp2_with (refine wpList_load_row rfl 46 (.tmp 1) rfl w.heap.size rfl 46 _ (0, 0) _ HR.out Tryz.underlying46 rfl HGI.out ?_)
  refine CM.out.mono ?_
  rintro e w1 ⟨G, ad, hh, rfl, hok, hlow, hne, hgr, hd, hb⟩
  have hb1 := below_new w1 (.cells (grtA G ad) 28)
  have B1 := B0.out.trans (hb.mono B0.out.size)
  have B2 := Lib.hid (B1.trans (hb1.mono B1.size))
  have CW := Lib.hid (write_prog7 (hgr.below hb1) (HG.out.below B2.out) hd)
  have HGI2 := Lib.hid (infoGA G ad)
  have HGO := Lib.hid (grtA_one G ad)
  have HR2 := Lib.hid (heap_alloc_new w1 (.cells (grtA G ad) 28))
  have HGR := Lib.hid (hgr.below hb1)
  have HOK := Lib.hid hok
  have HLW := Lib.hid hlow
  have HW1 : Hid (w1.heap.size < (w1.alloc (.cells (grtA G ad) 28)).heap.size) := Lib.hid (by simp)
  clear hok hlow hne hgr hd hb hb1 B1 CM HR HGI B0
  go_wp2_with (first
    | (refine wpList_alloc7 rfl rfl w1.heap.size rfl ?_)
    | (refine wpList_store_row rfl 28 (.tmp 3) (.tmp 14) rfl w1.heap.size (grtA G ad) rfl rfl 28 _ (heap_alloc_new w1 _) HGI2.out rfl HGO.out ?_; rw [World.setRow_alloc_new])
    | (refine wpList_load_row rfl 28 (.tmp 3) rfl w1.heap.size rfl 28 _ (0, 0) _ HR2.out Tryz.underlying28 rfl HGI2.out ?_))
  refine CW.out.mono ?_
  rintro e w3 ⟨hw1, _⟩
  obtain ⟨A, c, rfl, hr, hb3⟩ := hw1 HOK.out
  generalize hgq : w1.heap.size = g1 at *
  clear hgq
  generalize w1.alloc (.cells (grtA G ad) 28) = w2 at *
  have R3 := Lib.hid hr
  have LE23 : Hid (w2.heap.size ≤ w3.heap.size) := Lib.hid hb3.size
  have B3 := Lib.hid (B2.out.trans (hb3.mono B2.out.size))
  have HR3 := Lib.hid ((hb3.block g1 HW1.out).trans HR2.out)
  have G3 := Lib.hid (HGR.out.below hb3)
  have HRL := Lib.hid (rec_len HOK.out)
  have HPG := Lib.hid (parG_of G3.out.rl HOK.out)
  have CP := Lib.hid (parse_prog (c := c) R3.out.rb (Nat.le_refl _) (by have := HRL.out; omega) (HG.out.below B3.out))
  clear hr hb3 hw1 CW HR2 HGR
  go_wp2_with fail
  refine CP.out.mono ?_
  rintro e w4 ⟨_, hp⟩
  obtain ⟨a2, rfl, hb4, hg4, hx4⟩ := hp G HPG.out
  have B4 := Lib.hid (B3.out.trans (hb4.mono B3.out.size))
  have hb5 := below_new w4 (.cells (grtA G a2) 28)
  have B5 := Lib.hid (B4.out.trans (hb5.mono B4.out.size))
  have G5 := Lib.hid ((G3.out.below hb4).below hb5)
  have H5 := Lib.hid ((hg4.grV fun _ hk => hk.2 : GrV w4.heap.size w4 G a2).below hb5)
  have HR5 := Lib.hid ((hb5.block g1 (Nat.lt_of_lt_of_le (Nat.lt_of_lt_of_le HW1.out (show w2.heap.size ≤ w3.heap.size from LE23.out)) hb4.size)).trans ((hb4.block g1 (Nat.lt_of_lt_of_le HW1.out (show w2.heap.size ≤ w3.heap.size from LE23.out))).trans HR3.out))
  have HR6 := Lib.hid (heap_alloc_new w4 (.cells (grtA G a2) 28))
  have HGI3 := Lib.hid (infoGA G a2)
  have HGO3 := Lib.hid (grtA_one G a2)
  have R5 := Lib.hid ((R3.out.below hb4).below hb5)
  have CS := Lib.hid (lsame_any G5.out H5.out)
  clear CP hp hb4 hg4 hx4 hb5 R3 G3 HR3 B3 B4
  go_wp2_with (first
    | (refine wpList_alloc7 rfl rfl w4.heap.size rfl ?_)
    | (refine wpList_store_row rfl 28 (.tmp 7) (.tmp 24) rfl w4.heap.size (grtA G a2) rfl rfl 28 _ (heap_alloc_new w4 _) HGI3.out rfl HGO3.out ?_; rw [World.setRow_alloc_new])
    | (refine wpList_load_rowG (by first | rfl | kernel_rfl) 28 (.tmp 3) rfl g1 rfl 28 _ (0, 0) _ HR5.out Tryz.underlying28 rfl HGI2.out ?_)
    | (refine wpList_load_rowG (by first | rfl | kernel_rfl) 28 (.tmp 7) rfl w4.heap.size rfl 28 _ (0, 0) _ HR6.out Tryz.underlying28 rfl HGI3.out ?_))
  refine CS.out.mono ?_
  generalize w4.alloc (.cells (grtA G a2) 28) = w5 at *
  rintro e w6 ⟨rfl, hb6⟩
  have R6 := Lib.hid (R5.out.below hb6)
  have B6 := Lib.hid (B5.out.trans (hb6.mono B5.out.size))
  have CN := Lib.hid (wsni HG.out B6.out R6.out.rb (n := (recG G).length) rfl hh 0 (sni_yes HPG.out HLW.out) (by have := HRL.out; omega))
  clear CS hb6 R5 B5
  go_wp2_with fail
  refine CN.out.mono ?_
  rintro e w7 ⟨rfl, hb7⟩
  have B7 := Lib.hid (B6.out.trans (hb7.mono B6.out.size))
  clear hb7 CN
  go_wp2_with fail
  go_ret
  exact ⟨rfl, B7.out⟩
end Go.Proofs.YtbmeceaefjdpaaaGreatDoor
