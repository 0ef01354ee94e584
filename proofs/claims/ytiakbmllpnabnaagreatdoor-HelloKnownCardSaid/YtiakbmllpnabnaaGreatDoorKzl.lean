/- Two greetings that are alike: same, of the laws and of the chapter. -/
import Derived.Test.YtiakbmllpnabnaaGreatDoorKzj
import Derived.Stop.BytesEq
import Derived.Deep.MidRow
namespace Go.Proofs.YtiakbmllpnabnaaGreatDoor
open Go Go.RowKit

theorem xor_byte (a b : Int) : ∃ y : UInt8, Go.bits .xor .u8 a b = (y.toNat : Int) := by
  have h := bits_within .xor .u8 a b
  have h1 : 0 ≤ Go.bits .xor .u8 a b := h.1
  have h2 : Go.bits .xor .u8 a b ≤ 255 := h.2
  refine ⟨UInt8.ofNat (Go.bits .xor .u8 a b).toNat, ?_⟩
  rw [UInt8.toNat_ofNat']
  omega
theorem retB {b c : Bool} (h : b = c) : Ending.returned (.bool b) = .returned (.bool c) := by rw [h]
set_option maxHeartbeats 400000 in
theorem eqInts7 {w : World} {A B : Option Addr} {c d : Nat} {xs : List Int} (hx : NumsIn w.heap.size w A xs) (hy : NumsIn w.heap.size w B xs) (hm : xs.length ≤ 1000000) :
    Calls Tryz.prog 39 #[.slice A xs.length c, .slice B xs.length d] w (BoolP true w) := by
  have HX := Lib.hid hx
  have HY := Lib.hid hy
  clear hx hy
  unfold BoolP
  go_enter Tryz.func39, Tryz.ntmps39
  go_wp2
  go_loopw [5] (fun i wr => ∃ k n : Nat, k ≤ xs.length ∧ i = .int .i64 k ∧ wr = w.drewN n) (fun i _ => xs.length - (intOf i).toNat)
  case atStart => exact ⟨0, 0, Nat.zero_le _, rfl, rfl⟩
  case round =>
    obtain ⟨k, n, hk, rfl, rfl⟩ := hrel
    by_cases hlt : k < xs.length
    · obtain ⟨b, o, rfl, hbl, hcell⟩ := HX.out k hlt
      obtain ⟨b2, o2, rfl, hbl2, hcell2⟩ := HY.out k hlt
      have c1 : (0 : Int) ≤ k := by omega
      have c2 : (k : Int) < xs.length := by omega
      generalize xs[k] = x at hcell hcell2
      go_wp2
      go_quiet (fail)
      go_wp2
      go_roundw
      case rel => exact ⟨k + 1, _, by omega, by go_num, rfl⟩
      case measure => simp [intOf]; omega
    · go_wp2
      go_ret
      exact ⟨rfl, below_drewN (Below.refl _ _) _⟩
theorem rnd_arrG {rnd : List UInt8} (hr : rnd.length = 32) : (rnd.map Extern.Stop.cell).toArray = #[cellR rnd 0, cellR rnd 1, cellR rnd 2, cellR rnd 3, cellR rnd 4, cellR rnd 5, cellR rnd 6, cellR rnd 7, cellR rnd 8, cellR rnd 9, cellR rnd 10, cellR rnd 11, cellR rnd 12, cellR rnd 13, cellR rnd 14, cellR rnd 15, cellR rnd 16, cellR rnd 17, cellR rnd 18, cellR rnd 19, cellR rnd 20, cellR rnd 21, cellR rnd 22, cellR rnd 23, cellR rnd 24, cellR rnd 25, cellR rnd 26, cellR rnd 27, cellR rnd 28, cellR rnd 29, cellR rnd 30, cellR rnd 31] := by
  have h := gCells_grt ⟨0, rnd, [], [], [], [], 0, []⟩ ⟨none, 0, none, 0, none, 0, none, 0⟩ hr
  have h2 := congrArg (fun l => ((l.drop 1).take 32).toArray) h
  refine Eq.trans ?_ h2
  unfold gCells
  show _ = (((rnd.map fun c => Value.int .u8 (c.toNat : Int)) ++ _).take 32).toArray
  rw [List.take_left' (by rw [List.length_map]; exact hr)]
  rfl
theorem grt_ext (g : Grt) (a : Adr) : (grtA g a).extract 1 (1 + 32) = #[cellR g.rnd 0, cellR g.rnd 1, cellR g.rnd 2, cellR g.rnd 3, cellR g.rnd 4, cellR g.rnd 5, cellR g.rnd 6, cellR g.rnd 7, cellR g.rnd 8, cellR g.rnd 9, cellR g.rnd 10, cellR g.rnd 11, cellR g.rnd 12, cellR g.rnd 13, cellR g.rnd 14, cellR g.rnd 15, cellR g.rnd 16, cellR g.rnd 17, cellR g.rnd 18, cellR g.rnd 19, cellR g.rnd 20, cellR g.rnd 21, cellR g.rnd 22, cellR g.rnd 23, cellR g.rnd 24, cellR g.rnd 25, cellR g.rnd 26, cellR g.rnd 27, cellR g.rnd 28, cellR g.rnd 29, cellR g.rnd 30, cellR g.rnd 31] := by kernel_rfl
/-- a greeting's box -/
structure BxG (w : World) (n : Nat) (g : Grt) (a : Adr) : Prop where
  c0 : w.cell? ⟨n, 0, none⟩ = some (.int .i64 g.minor)
  c33 : w.cell? ⟨n, 33, none⟩ = some (.slice a.a1 g.ses.length a.c1)
  c34 : w.cell? ⟨n, 34, none⟩ = some (.slice a.a2 g.suites.length a.c2)
  c35 : w.cell? ⟨n, 35, none⟩ = some (.slice a.a3 g.meth.length a.c3)
  c36 : w.cell? ⟨n, 36, none⟩ = some (.string ⟨g.host.toArray⟩)
  c37 : w.cell? ⟨n, 37, none⟩ = some (.int .i64 g.pos)
  c38 : w.cell? ⟨n, 38, none⟩ = some (.slice a.a4 g.exts.length a.c4)
  rr : w.rangeAt n 1 (g.rnd.map Extern.Stop.cell)
theorem bx_of {w : World} {n : Nat} {g : Grt} {a : Adr} (h : w.heap[n]? = some (.cells (grtA g a) 28 (0, 0))) (hr : g.rnd.length = 32) : BxG w n g a := by
  have hh : ∀ j, w.cell? ⟨n, j, none⟩ = (grtA g a)[j]? := fun j => by unfold World.cell?; rw [h]; rfl
  refine ⟨hh 0, hh 33, hh 34, hh 35, hh 36, hh 37, hh 38, ?_⟩
  have := World.rangeAt_of_block h 1 32
  rw [grt_ext, ← rnd_arrG hr] at this
  exact this
theorem wpList_load_midG {P : Program} {ops : Array Oper} {rest : List Oper} {o : Oper} {a : Act} {w : World} {Q : Exit → Act → World → Prop} (hw : Region.wanted o (yielded ops a.tmps) = true) (ty : TypeId) (x : Operand) (ho : o.op = .load ty x)
    (b k : Nat) (hx : a.eval x = .pointer (some ⟨b, k, none⟩)) (cs : List Value) (d : TypeDesc) (hc : w.rangeAt b k cs) (hu : P.underlying ty = some d) (hd : d.isRow = true) (hi : (P.info? ty).map (·.size) = some cs.length)
    (h : wpList P ops Q rest (a.put o.dst (.agg cs.toArray)) w) : wpList P ops Q (o :: rest) a w := by
  refine wpList_step fun K hK => ?_
  rw [if_pos hw]
  exact wp_load_mid ty x ho b k hx cs d hc hu hd hi (hK _ _ h)
/-- the random bytes of two blocks that are alike are alike -/
theorem rnd_same (x : List UInt8) (h : x.length = 32) (w : World) : (Op.equalIn 10000 24 (.agg (x.map Extern.Stop.cell).toArray) (.agg (x.map Extern.Stop.cell).toArray)).run Tryz.prog w = .ok true w := by
  have := run_equalIn_bytes (P := Tryz.prog) w 9998 24 5 32 Tryz.underlying24 Tryz.underlying5 (fun w => by
    obtain ⟨i0, hi, _, hz1, _⟩ := info_parts info5
    simp [sizeOf, typeInfo, hi, hz1]) x x h h
  rw [this]
  simp
theorem eqSame {w : World} {A B : Option Addr} {c d : Nat} {x : List UInt8} (h1 : Rb w.heap.size w A c x) (h2 : Rb w.heap.size w B d x) :
    Calls Tryz.prog 15 #[.slice A x.length c, .slice B x.length d] w fun e w' => e = .returned (.bool true) ∧ w' = w := by
  have := eqBytes_rb (c := c) (d := d) h1 h2
  rw [show (x == x) = true by simp] at this
  exact this
set_option maxRecDepth 100000 in
set_option maxHeartbeats 1000000 in
theorem lsame_any {w : World} {g : Grt} {a b : Adr} (h1 : GrV w.heap.size w g a) (h2 : GrV w.heap.size w g b) :
    Calls Tryz.prog 23 #[.agg (grtA g a), .agg (grtA g b)] w (BoolP true w) := by
  have x0 := below_new w (.cells (grtA g a) 28)
  have x1 := below_new (w.alloc (.cells (grtA g a) 28)) (.cells (grtA g b) 28)
  have xs : (w.alloc (.cells (grtA g a) 28)).heap.size = w.heap.size + 1 := by simp
  have xz : ((w.alloc (.cells (grtA g a) 28)).alloc (.cells (grtA g b) 28)).heap.size = w.heap.size + 2 := by simp
  have BB : Hid (Below w.heap.size w ((w.alloc (.cells (grtA g a) 28)).alloc (.cells (grtA g b) 28))) := Lib.hid (x0.trans (x1.mono (by omega)))
  have HA : Hid (∀ wx, Below (w.heap.size + 2) ((w.alloc (.cells (grtA g a) 28)).alloc (.cells (grtA g b) 28)) wx → BxG wx w.heap.size g a) := Lib.hid fun wx hb => bx_of ((hb.block _ (by omega)).trans ((x1.block _ (by omega)).trans (heap_alloc_new w _))) h1.rl
  have HB : Hid (∀ wx, Below (w.heap.size + 2) ((w.alloc (.cells (grtA g a) 28)).alloc (.cells (grtA g b) 28)) wx → BxG wx (w.heap.size + 1) g b) := Lib.hid fun wx hb => bx_of ((hb.block _ (by omega)).trans (by rw [← xs]; exact heap_alloc_new _ _)) h1.rl
  have HV1 := Lib.hid fun (wx : World) (hb : Below w.heap.size w wx) => h1.below hb
  have HV2 := Lib.hid fun (wx : World) (hb : Below w.heap.size w wx) => h2.below hb
  have hEQ := rnd_same g.rnd h1.rl
  have HI : Hid ((Tryz.prog.info? 24).map (·.size) = some (g.rnd.map Extern.Stop.cell).length) := Lib.hid (by rw [List.length_map, h1.rl]; kernel_rfl)
  have hul := h1.ul
  have hxl := h1.xl
  have XS := Lib.hid xz
  clear h1 h2 x0 x1 xs xz
  obtain ⟨mi, rnd, ses, su, me, ho, pos, ex⟩ := g
  obtain ⟨a1, k1, a2, k2, a3, k3, a4, k4⟩ := a
  obtain ⟨b1, j1, b2, j2, b3, j3, b4, j4⟩ := b
  go_enter Tryz.func23, Tryz.ntmps23
  go_upto_region 1 with fail
  generalize (w.alloc (.cells (grtA ⟨mi, rnd, ses, su, me, ho, pos, ex⟩ ⟨a1, k1, a2, k2, a3, k3, a4, k4⟩) 28)).alloc (.cells (grtA ⟨mi, rnd, ses, su, me, ho, pos, ex⟩ ⟨b1, j1, b2, j2, b3, j3, b4, j4⟩) 28) = w2 at *
  have HS2 : Hid (w.heap.size + 2 ≤ w2.heap.size) := Lib.hid (Nat.le_of_eq XS.out.symm)
  obtain ⟨p0, p33, p34, p35, p36, p37, p38, pr⟩ := HA.out w2 (Below.refl _ _)
  obtain ⟨q0, q33, q34, q35, q36, q37, q38, qr⟩ := HB.out w2 (Below.refl _ _)
  have PR := Lib.hid pr
  have QR := Lib.hid qr
  have CE1 := Lib.hid (eqSame (HV1.out _ BB.out).ses (HV2.out _ BB.out).ses)
  have CI := Lib.hid (eqInts7 (c := k2) (d := j2) (HV1.out _ BB.out).sui (HV2.out _ BB.out).sui hul)
  have CE2 : Hid (∀ wx, Below w.heap.size w wx → Calls Tryz.prog 15 #[.slice a3 me.length k3, .slice b3 me.length j3] wx fun e w' => e = .returned (.bool true) ∧ w' = wx) := Lib.hid fun wx hb => eqSame (HV1.out _ hb).met (HV2.out _ hb).met
  clear pr qr
  dsimp only at p0 p33 p34 p35 p36 p37 p38 q0 q33 q34 q35 q36 q37 q38 CE1 CI hEQ HI PR QR hxl
  go_wp2_with (first
    | (refine wpList_load_midG (by rfl) 24 (.tmp 12) rfl w.heap.size 1 rfl (rnd.map Extern.Stop.cell) _ PR.out Tryz.underlying24 rfl HI.out ?_)
    | (refine wpList_load_midG (by rfl) 24 (.tmp 14) rfl (w.heap.size + 1) 1 rfl (rnd.map Extern.Stop.cell) _ QR.out Tryz.underlying24 rfl HI.out ?_)
    | (go_at_call 39; refine (CI.out).mono ?_; rintro e w3 ⟨rfl, hb⟩; have B3 := Lib.hid hb; clear p0 p33 p34 p35 p36 p37 p38 q0 q33 q34 q35 q36 q37 q38 hb; obtain ⟨_, _, _, p35, p36, p37, p38, _⟩ := HA.out w3 (B3.out.mono HS2.out); obtain ⟨_, _, _, q35, q36, q37, q38, _⟩ := HB.out w3 (B3.out.mono HS2.out); dsimp only at p35 p36 p37 p38 q35 q36 q37 q38)
    | (go_at_call 15; refine (CE1.out).mono ?_; rintro e w' ⟨rfl, rfl⟩)
    | (go_at_call 15; refine (CE2.out _ (BB.out.trans (B3.out.mono BB.out.size))).mono ?_; rintro e w' ⟨rfl, rfl⟩))
  rename World => w3
  have B4 := Lib.hid (BB.out.trans (B3.out.mono BB.out.size))
  have XT := Lib.hid (And.intro (HV1.out _ B4.out).ext (HV2.out _ B4.out).ext)
  dsimp only at XT
  clear p35 p36 p37 q35 q36 q37 CE1 CE2 CI PR QR HI hEQ hul HA HB HV1 HV2 B3 HS2 XS BB
  go_loopw [5] (fun v wr => ∃ i m : Nat, i ≤ ex.length ∧ v = .int .i64 i ∧ wr = w3.drewN m) (fun v _ => ex.length - (intOf v).toNat)
  case atStart => exact ⟨0, 0, Nat.zero_le _, rfl, rfl⟩
  case round =>
    obtain ⟨i, m, hi, rfl, rfl⟩ := hrel
    by_cases hlt : i < ex.length
    · obtain ⟨b, off, Ad, cd, rfl, hbl, e0, e1, hd⟩ := XT.out.1 i hlt
      obtain ⟨b', off', Ad', cd', rfl, hbl', e0', e1', hd'⟩ := XT.out.2 i hlt
      have CE := Lib.hid (eqSame (w := (w3.drewN m).drew) (hd.keep fun _ _ => rfl) (hd'.keep fun _ _ => rfl))
      have q1 : (i : Int) < ex.length := by omega
      have q0 : (0 : Int) ≤ i := by omega
      generalize ex[i].1 = y0 at *
      generalize ex[i].2.length = dl at *
      clear hd hd' XT
      go_wp2_with fail
      go_region_held3 (fun w' => w'.cell? ⟨w.heap.size, 38, none⟩ = some (.slice (some ⟨b, off, none⟩) ex.length k4) ∧ w'.cell? ⟨w.heap.size + 1, 38, none⟩ = some (.slice (some ⟨b', off', none⟩) ex.length j4) ∧ w'.cell? ⟨b, off + i * 2, none⟩ = some (.int .i64 y0) ∧ w'.cell? ⟨b, off + i * 2 + 1, none⟩ = some (.slice Ad dl cd) ∧ w'.cell? ⟨b', off' + i * 2, none⟩ = some (.int .i64 y0) ∧ w'.cell? ⟨b', off' + i * 2 + 1, none⟩ = some (.slice Ad' dl cd')) (exact ⟨p38, q38, e0, e1, e0', e1'⟩) ((go_at_call 15; refine (CE.out).mono ?_; rintro e w' ⟨rfl, rfl⟩))
      go_wp2_with fail
      go_roundw
      case rel => exact ⟨i + 1, m + 1, by omega, by go_num, rfl⟩
      case measure => simp [intOf]; omega
    · obtain rfl : i = ex.length := by omega
      have q1 : ¬ (ex.length : Int) < ex.length := by omega
      go_wp2_with fail
      go_ret
      exact ⟨rfl, below_drewN B4.out m⟩
end Go.Proofs.YtiakbmllpnabnaaGreatDoor
