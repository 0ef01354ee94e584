/- Two greetings that are alike: Same, of the chapter. -/
import Derived.Test.YtiakbmllpnabnaaGreatDoorKzl
namespace Go.Proofs.YtiakbmllpnabnaaGreatDoor
open Go Go.RowKit

set_option maxRecDepth 100000 in
set_option maxHeartbeats 1000000 in
theorem rsame_any {w : World} {g : Grt} {a b : Adr} (h1 : GrV w.heap.size w g a) (h2 : GrV w.heap.size w g b) :
    Calls Tryz.prog 16 #[.agg (grtA g a), .agg (grtA g b)] w (BoolP true w) := by
  have x0 := below_new w (.cells (grtA g a) 28)
  have x1 := below_new (w.alloc (.cells (grtA g a) 28)) (.cells (grtA g b) 28)
  have xs : (w.alloc (.cells (grtA g a) 28)).heap.size = w.heap.size + 1 := by simp
  have xz : ((w.alloc (.cells (grtA g a) 28)).alloc (.cells (grtA g b) 28)).heap.size = w.heap.size + 2 := by simp
  have BB : Hid (Below w.heap.size w ((w.alloc (.cells (grtA g a) 28)).alloc (.cells (grtA g b) 28))) := Lib.hid (x0.trans (x1.mono (by omega)))
  have HA : Hid (∀ wx, Below (w.heap.size + 2) ((w.alloc (.cells (grtA g a) 28)).alloc (.cells (grtA g b) 28)) wx → BxG wx w.heap.size g a) := Lib.hid fun wx hb => bx_of ((hb.block _ (by omega)).trans ((x1.block _ (by omega)).trans (heap_alloc_new w _))) h1.rl
  have HB : Hid (∀ wx, Below (w.heap.size + 2) ((w.alloc (.cells (grtA g a) 28)).alloc (.cells (grtA g b) 28)) wx → BxG wx (w.heap.size + 1) g b) := Lib.hid fun wx hb => bx_of ((hb.block _ (by omega)).trans (by rw [← xs]; exact heap_alloc_new _ _)) h1.rl
  have HV1 := Lib.hid fun (wx : World) (hb : Below w.heap.size w wx) => h1.below hb
  have HV2 := Lib.hid fun (wx : World) (hb : Below w.heap.size w wx) => h2.below hb
  have hEQ := rnd_same g.rnd h1.rl
  have HI : Hid ((Tryz.prog.info? 24).map (·.size) = some (g.rnd.map Extern.Stop.cell).length) := Lib.hid (by rw [List.length_map, h1.rl]; kernel_rfl)
  have hul := h1.ul
  have hxl := h1.xl
  have XS := Lib.hid xz
  clear h1 h2 x0 x1 xs xz
  obtain ⟨mi, rnd, ses, su, me, ho, pos, ex⟩ := g
  obtain ⟨a1, k1, a2, k2, a3, k3, a4, k4⟩ := a
  obtain ⟨b1, j1, b2, j2, b3, j3, b4, j4⟩ := b
  go_enter Tryz.func16, Tryz.ntmps16
  go_upto_region 1 with fail
  generalize (w.alloc (.cells (grtA ⟨mi, rnd, ses, su, me, ho, pos, ex⟩ ⟨a1, k1, a2, k2, a3, k3, a4, k4⟩) 28)).alloc (.cells (grtA ⟨mi, rnd, ses, su, me, ho, pos, ex⟩ ⟨b1, j1, b2, j2, b3, j3, b4, j4⟩) 28) = w2 at *
  have HS2 : Hid (w.heap.size + 2 ≤ w2.heap.size) := Lib.hid (Nat.le_of_eq XS.out.symm)
  obtain ⟨p0, p33, p34, p35, p36, p37, p38, pr⟩ := HA.out w2 (Below.refl _ _)
  obtain ⟨q0, q33, q34, q35, q36, q37, q38, qr⟩ := HB.out w2 (Below.refl _ _)
  have PR := Lib.hid pr
  have QR := Lib.hid qr
  have CE1 := Lib.hid (eqSame (HV1.out _ BB.out).ses (HV2.out _ BB.out).ses)
  have CI := Lib.hid (eqInts7 (c := k2) (d := j2) (HV1.out _ BB.out).sui (HV2.out _ BB.out).sui hul)
  have CE2 : Hid (∀ wx, Below w.heap.size w wx → Calls Tryz.prog 15 #[.slice a3 me.length k3, .slice b3 me.length j3] wx fun e w' => e = .returned (.bool true) ∧ w' = wx) := Lib.hid fun wx hb => eqSame (HV1.out _ hb).met (HV2.out _ hb).met
  clear pr qr
  dsimp only at p0 p33 p34 p35 p36 p37 p38 q0 q33 q34 q35 q36 q37 q38 CE1 CI hEQ HI PR QR hxl
  go_wp2_with (first
    | (refine wpList_load_midG (by rfl) 24 (.tmp 12) rfl w.heap.size 1 rfl (rnd.map Extern.Stop.cell) _ PR.out Tryz.underlying24 rfl HI.out ?_)
    | (refine wpList_load_midG (by rfl) 24 (.tmp 14) rfl (w.heap.size + 1) 1 rfl (rnd.map Extern.Stop.cell) _ QR.out Tryz.underlying24 rfl HI.out ?_)
    | (go_at_call 39; refine (CI.out).mono ?_; rintro e w3 ⟨rfl, hb⟩; have B3 := Lib.hid hb; clear p0 p33 p34 p35 p36 p37 p38 q0 q33 q34 q35 q36 q37 q38 hb; obtain ⟨_, _, _, p35, p36, p37, p38, _⟩ := HA.out w3 (B3.out.mono HS2.out); obtain ⟨_, _, _, q35, q36, q37, q38, _⟩ := HB.out w3 (B3.out.mono HS2.out); dsimp only at p35 p36 p37 p38 q35 q36 q37 q38)
    | (go_at_call 15; refine (CE1.out).mono ?_; rintro e w' ⟨rfl, rfl⟩)
    | (go_at_call 15; refine (CE2.out _ (BB.out.trans (B3.out.mono BB.out.size))).mono ?_; rintro e w' ⟨rfl, rfl⟩))
  rename World => w3
  have B4 := Lib.hid (BB.out.trans (B3.out.mono BB.out.size))
  have XT := Lib.hid (And.intro (HV1.out _ B4.out).ext (HV2.out _ B4.out).ext)
  dsimp only at XT
  clear p35 p36 p37 q35 q36 q37 CE1 CE2 CI PR QR HI hEQ hul HA HB HV1 HV2 B3 HS2 XS BB
  go_loopw [5] (fun v wr => ∃ i m : Nat, i ≤ ex.length ∧ v = .int .i64 i ∧ wr = w3.drewN m) (fun v _ => ex.length - (intOf v).toNat)
  case atStart => exact ⟨0, 0, Nat.zero_le _, rfl, rfl⟩
  case round =>
    obtain ⟨i, m, hi, rfl, rfl⟩ := hrel
    by_cases hlt : i < ex.length
    · obtain ⟨b, off, Ad, cd, rfl, hbl, e0, e1, hd⟩ := XT.out.1 i hlt
      obtain ⟨b', off', Ad', cd', rfl, hbl', e0', e1', hd'⟩ := XT.out.2 i hlt
      have CE := Lib.hid (eqSame (w := (w3.drewN m).drew) (hd.keep fun _ _ => rfl) (hd'.keep fun _ _ => rfl))
      have q1 : (i : Int) < ex.length := by omega
      have q0 : (0 : Int) ≤ i := by omega
      generalize ex[i].1 = y0 at *
      generalize ex[i].2.length = dl at *
      clear hd hd' XT
      go_wp2_with fail
      go_region_held3 (fun w' => w'.cell? ⟨w.heap.size, 38, none⟩ = some (.slice (some ⟨b, off, none⟩) ex.length k4) ∧ w'.cell? ⟨w.heap.size + 1, 38, none⟩ = some (.slice (some ⟨b', off', none⟩) ex.length j4) ∧ w'.cell? ⟨b, off + i * 2, none⟩ = some (.int .i64 y0) ∧ w'.cell? ⟨b, off + i * 2 + 1, none⟩ = some (.slice Ad dl cd) ∧ w'.cell? ⟨b', off' + i * 2, none⟩ = some (.int .i64 y0) ∧ w'.cell? ⟨b', off' + i * 2 + 1, none⟩ = some (.slice Ad' dl cd')) (exact ⟨p38, q38, e0, e1, e0', e1'⟩) ((go_at_call 15; refine (CE.out).mono ?_; rintro e w' ⟨rfl, rfl⟩))
      go_wp2_with fail
      go_roundw
      case rel => exact ⟨i + 1, m + 1, by omega, by go_num, rfl⟩
      case measure => simp [intOf]; omega
    · obtain rfl : i = ex.length := by omega
      have q1 : ¬ (ex.length : Int) < ex.length := by omega
      go_wp2_with fail
      go_ret
      exact ⟨rfl, below_drewN B4.out m⟩
end Go.Proofs.YtiakbmllpnabnaaGreatDoor
