/- The chapter's lattice, whole, in memory; a walk of its Make. -/
import Derived.Test.YtaikhdmgcffflaaDoorYg
import Derived.Test.YtaikhdmgcffflaaDoorVi
namespace Go.Proofs.YtaikhdmgcffflaaDoor
open Go Go.RowKit

/-- Block b is the chapter's lattice, of names N and pairs L: its order in block o (pairs in a row from base on), its names in a row from bn on. -/
structure RefS (W : World) (b o base bn : Nat) (v2 : Value) (An : Option Addr) (cn : Nat) (N : List (List UInt8)) (L : List (Nat × Nat)) : Prop where
  lat : LatR W b o N.length (.slice An N.length cn) (leT N.length (ofL L)) (jR N.length (ofL L)) (mR N.length (ofL L))
  ord : Ref W base o N.length v2 L
  nms : W.ownsRow bn 9 1 (.slice An N.length cn) N.length (sv N)
section
variable {W W' : World} {b o base bn : Nat} {v2 : Value} {An : Option Addr} {cn : Nat} {N : List (List UInt8)} {L : List (Nat × Nat)}
theorem RefS.rd (h : RefS W b o base bn v2 An cn N L) : Rd W An (sv N) := by
  obtain ⟨A, c, e, hr⟩ := Rd.own h.nms
  cases e
  exact hr
theorem RefS.below (h : RefS W b o base bn v2 An cn N L) (hb : Below W.heap.size W W') : RefS W' b o base bn v2 An cn N L :=
  ⟨h.lat.below hb, h.ord.below hb, h.nms.kept (grownBy_below hb none) (Classical.em _)⟩
theorem RefS.kept (h : RefS W b o base bn v2 An cn N L) {row : Option Nat} (hg : W.grownBy W' row) (h1 : some b ≠ row) (h2 : some o ≠ row) (h3 : v2.ownBlock = none ∨ v2.ownBlock ≠ row) (h4 : (Value.slice An N.length cn).ownBlock = none ∨ (Value.slice An N.length cn).ownBlock ≠ row) : RefS W' b o base bn v2 An cn N L := by
  refine ⟨⟨h.lat.blk.kept hg h1, ?_⟩, ⟨(hg.block o h.ord.lt h2).trans h.ord.blk, h.ord.row.kept hg h3⟩, h.nms.kept hg h4⟩
  rw [World.cell?_of_block (hg.block o h.ord.lt h2)]
  exact h.lat.many
/-- What another block's turning leaves. -/
theorem RefS.turn (h : RefS W b o base bn v2 An cn N L) {c m : Nat} {f : Nat → Value} (hc : Blk W c 76 m f) (hg : W.grownBy W' (some c)) : RefS W' b o base bn v2 An cn N L := by
  refine h.kept hg ?_ ?_ (.inr (row_ne h.ord.row hc (by decide))) (.inr (row_ne h.nms hc (by decide)))
  · intro e
    cases e
    have h1 : W.heap[b]? = _ := h.lat.blk
    have h2 : W.heap[b]? = _ := hc
    rw [h1] at h2
    injection h2 with h2
    injection h2 with _ h2 _
    cases h2
  · intro e
    cases e
    have h1 : W.heap[o]? = _ := h.ord.blk
    have h2 : W.heap[o]? = _ := hc
    rw [h1] at h2
    injection h2 with h2
    injection h2 with _ h2 _
    cases h2
end

theorem refIs_yesI (b n : Nat) (a : Int) (w : World) (h : w.cell? ⟨b, 0, none⟩ = some (.int .i64 n)) (ha : 0 ≤ a ∧ a < n) : Calls Tryd.prog 34 #[.pointer (some ⟨b, 0, none⟩), .int .i64 a] w fun e w' => e = .returned (.bool true) ∧ w = w' :=
  (refIs_any b n a w h).mono fun _ _ ⟨he, hw⟩ => ⟨he.trans (ret_bool (by simpa using ha)), hw⟩

theorem jR_at {n : Nat} {A : Nat → Nat} (hn : n ≤ 10) (a c : Nat) (ha : a < n) (hc : c < n) : jR n A (a * 10 + c) = joinZ n (leT n A) a c := zU_at hn ha hc
theorem mR_at {n : Nat} {A : Nat → Nat} (hn : n ≤ 10) (a c : Nat) (ha : a < n) (hc : c < n) : mR n A (a * 10 + c) = meetZ n (leT n A) a c := zU_at hn ha hc
theorem jR_neg {n : Nat} {A : Nat → Nat} (hn : n ≤ 10) {a c : Nat} (ha : a < n) (hc : c < n) : decide (jR n A (a * 10 + c) < 0) = !(joinO n A a c).isSome := by rw [jR_at hn a c ha hc, joinZ_at hn ha hc, optI_neg]
theorem mR_neg {n : Nat} {A : Nat → Nat} (hn : n ≤ 10) {a c : Nat} (ha : a < n) (hc : c < n) : decide (mR n A (a * 10 + c) < 0) = !(meetO n A a c).isSome := by rw [mR_at hn a c ha hc, meetZ_at hn ha hc, optI_neg]
def okR (n : Nat) (A : Nat → Nat) (a c : Nat) : Bool := (joinO n A a c).isSome && (meetO n A a c).isSome
theorem isR_of {n : Nat} {A : Nat → Nat} (h : ∀ a, a < n → ∀ c, c < n → okR n A a c = true) : isR n A = true := isR_iff.2 fun a c ha hc => by
  have := h a ha c hc
  unfold okR at this
  rwa [Bool.and_eq_true] at this
theorem isR_no {n : Nat} {A : Nat → Nat} {a c : Nat} (ha : a < n) (hc : c < n) (h : okR n A a c = false) : isR n A = false := by
  cases hp : isR n A with
  | false => rfl
  | true =>
    have := isR_iff.1 hp a c ha hc
    unfold okR at h
    rw [this.1, this.2] at h
    cases h
theorem Blk.newSet2 (w : World) {m : Nat} {t : TypeId} {f : Nat → Value} {cs : Array Value} (v0 v1 : Value) (hc : cs = ((List.range m).map f).toArray) : Blk (w.alloc (.cells ((cs.setIfInBounds 0 v0).setIfInBounds 1 v1) t)) w.heap.size t m (fun j => if j = 1 then v1 else if j = 0 then v0 else f j) := by
  refine Blk.new w ?_
  subst hc
  apply Array.ext
  · simp
  · intro j h1 h2
    simp only [List.setIfInBounds_toArray, List.getElem_toArray, List.getElem_set, List.getElem_map, List.getElem_range]
    by_cases e1 : j = 1
    · subst e1; simp
    · by_cases e0 : j = 0
      · subst e0; simp
      · rw [if_neg (fun e : 1 = j => e1 e.symm), if_neg (fun e : 0 = j => e0 e.symm), if_neg e1, if_neg e0]

/-- What the chapter's Make leaves. -/
def RMakePost (N : List (List UInt8)) (L : List (Int × Int)) (w : World) (e : Ending) (w' : World) : Prop := Below w.heap.size w w' ∧
  ((mkE N L ≠ 0 ∧ e = .returned (.tuple #[.pointer none, .int .i64 (mkE N L)])) ∨
   (mkE N L = 0 ∧ LatOK N L ∧ ∃ b o bn v2 An cn, e = .returned (.tuple #[.pointer (some ⟨b, 0, none⟩), .int .i64 0]) ∧ w.heap.size ≤ bn ∧ RefS w' b o w.heap.size bn v2 An cn N (natL L)))

theorem zero91 : Tryd.zeroCells91 = ((List.range 302).map (fun i => if i < 1 then Value.slice none 0 0 else if i < 2 then .pointer none else refF (.slice none 0 0) 0 (fun _ => false) (fun _ => 0) (fun _ => 0) i)).toArray := by kernel_rfl

set_option maxHeartbeats 1000000 in
set_option maxRecDepth 100000 in
theorem refMake_any (A0 : Option Addr) (c0 : Nat) (N : List (List UInt8)) (A1 : Option Addr) (c1 : Nat) (L : List (Int × Int)) (w : World) (hR : Rd w A0 (sv N)) (hnl : N.length ≤ 1000000) (hL : ∀ y ∈ N, y.length ≤ maxLen) (hP : Rd w A1 (pvI L)) (hll : L.length ≤ 1000) :
    Calls Tryd.prog 8 #[.slice A0 N.length c0, .slice A1 L.length c1] w (RMakePost N L w) := by
  by_cases h1 : N.length < 1
  · have e : mkE N L = 2 := by unfold mkE; rw [if_pos (.inl h1)]
    have hfin : Hid (RMakePost N L w (.returned (.tuple #[.pointer none, .int .i64 2])) w) := ⟨Below.refl _ _, .inl ⟨by rw [e]; decide, by rw [e]⟩⟩
    have h1' : (N.length : Int) < 1 := by omega
    clear e hR hP hL
    go_enter Tryd.func8, Tryd.ntmps8
    go_wp2_with fail
    go_ret2
    exact hfin.out
  by_cases h2 : 10 < N.length
  · have e : mkE N L = 2 := by unfold mkE; rw [if_pos (.inr h2)]
    have hfin : Hid (RMakePost N L w (.returned (.tuple #[.pointer none, .int .i64 2])) w) := ⟨Below.refl _ _, .inl ⟨by rw [e]; decide, by rw [e]⟩⟩
    clear e hR hP hL
    go_enter Tryd.func8, Tryd.ntmps8
    go_wp2_with fail
    go_ret2
    exact hfin.out
  have hn1 : 1 ≤ N.length := by omega
  have hn2 : N.length ≤ 10 := by omega
  have con := refFine_any A0 c0 N w hR hnl hL
  cases hf : fineB N with
  | false =>
    have e : mkE N L = 31 := by unfold mkE; rw [if_neg (by omega), hf]; rfl
    have hfin : Hid (∀ q, RMakePost N L w (.returned (.tuple #[.pointer none, .int .i64 31])) (w.drewN q)) := fun q => ⟨below_drewN (Below.refl _ _) q, .inl ⟨by rw [e]; decide, by rw [e]⟩⟩
    rw [hf] at con
    have CON := Lib.hid con
    clear e hR hP hL con h1 h2
    go_enter Tryd.func8, Tryd.ntmps8
    go_wp2_with (go_at_call 32; refine Calls.mono CON.out ?_; rintro e w' ⟨rfl, q, rfl⟩)
    go_ret2
    exact hfin.out _
  | true =>
    rw [hf] at con
    have CON := Lib.hid con
    have HR := Lib.hid hR
    have HP := Lib.hid hP
    have hE : Hid (mkE N L = if ordE N.length L = 0 then if isP N.length (ofL (natL L)) then 0 else 30 else ordE N.length L) := by
      show _ = _
      unfold mkE
      rw [if_neg (by omega), hf]
      simp only [if_true]
    have HF := Lib.hid hf
    clear hR hP hL con h1 h2 hf
    go_enter Tryd.func8, Tryd.ntmps8
    go_wp2_with (go_at_call 32; refine Calls.mono CON.out ?_; rintro e w' ⟨rfl, q, rfl⟩)
    have hb0 : Below w.heap.size w (w.drewN q) := below_drewN (Below.refl _ _) q
    generalize w.drewN q = w0 at *
    refine (refNew_any N.length hn1 (by omega) w0).mono ?_
    rintro e w1 ⟨rfl, rfl⟩
    have R1 := refNew_ref w0 N.length (base := w.heap.size)
    have hb1 := Below.and hb0 (below_new w0 (.cells #[.int .i64 N.length, .slice none 0 0] 93))
    have hob := hb0.size
    generalize w0.heap.size = o at *
    generalize w0.alloc (.cells #[.int .i64 N.length, .slice none 0 0] 93) = w1 at *
    clear hb0 CON
    have hm1 := R1.many
    have HR1 := Lib.hid R1
    have HB1 := Lib.hid hb1
    clear R1
    go_wp2_with fail
    go_loop [8] (fun i => ∃ k : Nat, k ≤ L.length ∧ i = .int .i64 k ∧ Hid (allIn N.length (L.take k) = true)) (fun i => L.length - (intOf i).toNat)
    case atStart => exact ⟨0, Nat.zero_le _, rfl, rfl⟩
    case round =>
      obtain ⟨k, hk, rfl, hall⟩ := hrel
      by_cases hlt : k < L.length
      · obtain ⟨bb, off, rfl, hbl, e10, e20⟩ := HP.out.pair k hlt
        have e1 := (hb1.cell (p := ⟨bb, off + k * 2, none⟩) hbl).trans e10
        have e2 := (hb1.cell (p := ⟨bb, off + k * 2 + 1, none⟩) hbl).trans e20
        have HA := Lib.hid (allIn_false (n := N.length) hlt)
        have HB := Lib.hid (allIn_take (n := N.length) hlt)
        generalize L[k] = p at *
        obtain ⟨x, y⟩ := p
        dsimp only at e1 e2
        clear e10 e20
        have k1 : (0 : Int) ≤ k := by omega
        have k2 : (k : Int) < L.length := by omega
        have fin : inP N.length (x, y) = false → Hid (ordE N.length L = 9) := fun hp => by
          show _ = _
          unfold ordE
          rw [HA.out hp]
          rfl
        by_cases c1 : 0 ≤ x ∧ x < N.length
        · have con1 := Lib.hid (refIs_yesI o N.length x w1 hm1 c1)
          by_cases c2 : 0 ≤ y ∧ y < N.length
          · have con2 := Lib.hid (refIs_yesI o N.length y w1 hm1 c2)
            have hall' := Lib.hid (HB.out hall.out (by simp [inP]; omega))
            clear fin hall c1 c2 HA HB
            go_wp2_with fail
            refine Calls.mono con1.out ?_
            rintro e w' ⟨rfl, rfl⟩
            go_wp2_with fail
            refine Calls.mono con2.out ?_
            rintro e w' ⟨rfl, rfl⟩
            go_wp2_with fail
            go_round
            case rel => exact ⟨k + 1, by omega, by go_num, hall'⟩
            case measure => simp [intOf]; omega
          · have con2 := Lib.hid (refIs_no o N.length y w1 hm1 c2)
            have hfin := fin (by simp [inP]; omega)
            clear fin hall c1 c2 HA HB
            go_wp2_with fail
            refine Calls.mono con1.out ?_
            rintro e w' ⟨rfl, rfl⟩
            go_wp2_with fail
            refine Calls.mono con2.out ?_
            rintro e w' ⟨rfl, rfl⟩
            go_wp2_with fail
            go_ret2
            have hq : mkE N L = 9 := by rw [hE.out, hfin.out]; rfl
            exact ⟨HB1.out, .inl ⟨by rw [hq]; decide, by rw [hq]; rfl⟩⟩
        · have con1 := Lib.hid (refIs_no o N.length x w1 hm1 c1)
          have hfin := fin (by simp [inP]; omega)
          clear fin hall c1 HA HB
          go_wp2_with fail
          refine Calls.mono con1.out ?_
          rintro e w' ⟨rfl, rfl⟩
          go_wp2_with fail
          go_ret2
          have hq : mkE N L = 9 := by rw [hE.out, hfin.out]; rfl
          exact ⟨HB1.out, .inl ⟨by rw [hq]; decide, by rw [hq]; rfl⟩⟩
      · have hal : Hid (allIn N.length L = true) := by
          have := hall.out
          rwa [List.take_of_length_le (by omega)] at this
        clear hall hm1
        go_wp2_with fail
        clear hb1
        go_loopw [9, 10] (fun i z wr => ∃ (k : Nat) (v : Value), k ≤ L.length ∧ i = .int .i64 k ∧ Hid (Took N.length (natL (L.take k))) ∧ Ref wr w.heap.size o N.length v (natL (L.take k)) ∧ Below w.heap.size w wr) (fun i _ _ => L.length - (intOf i).toNat)
        case atStart => exact ⟨0, _, Nat.zero_le _, rfl, Took.nil, HR1.out, HB1.out⟩
        case round =>
          obtain ⟨k, v, hk, rfl, hTk, M, hb⟩ := hrel
          clear HR1 HB1
          by_cases hlt : k < L.length
          · obtain ⟨bb, off, rfl, hbl, e10, e20⟩ := HP.out.pair k hlt
            obtain ⟨x, y, hxy, hx, hy⟩ := allIn_at hal.out hlt
            have e1 := (hb.cell (p := ⟨bb, off + k * 2, none⟩) hbl).trans e10
            have e2 := (hb.cell (p := ⟨bb, off + k * 2 + 1, none⟩) hbl).trans e20
            rw [hxy] at e10 e20 e1 e2
            dsimp only at e10 e20 e1 e2
            have E1 := Lib.hid e10
            have E2 := Lib.hid e20
            have HXY := Lib.hid hxy
            have f : Fine N.length (natL (L.take k)) := ⟨hn1, by omega, hTk.out.mem, by rw [natL_len, List.length_take]; omega⟩
            have k1 : (0 : Int) ≤ k := by omega
            have k2 : (k : Int) < L.length := by omega
            have Md := M.below (Below.refl wr.heap.size wr).drew
            have hbd := Lib.hid (below_drewN hb 1)
            clear e10 e20 hxy
            cases hle : le (ofL (natL (L.take k))) y x with
            | true =>
              have hfin : Hid (mkE N L = 20) := by
                have h3 : tookB (natL L) = false := tookB_false (by rw [natL_len]; exact hlt) (natL_at hlt HXY.out) (by rw [← natL_take]; exact hle)
                show _ = _
                rw [hE.out]
                unfold ordE
                rw [hal.out, h3]
                rfl
              have con := Lib.hid (refAdd_cycle w.heap.size o N.length v _ x y _ Md f hx hy hle)
              clear M Md hTk hle f hb
              go_wp2_with fail
              go_region_held3 (fun w' => w'.cell? ⟨bb, off + k * 2, none⟩ = some (.int .i64 (x : Nat)) ∧ w'.cell? ⟨bb, off + k * 2 + 1, none⟩ = some (.int .i64 (y : Nat))) (first | go_keep | exact ⟨d1, d2⟩)
                ((go_at_call 35; refine Calls.mono con.out ?_; rintro e w5 ⟨rfl, hb5⟩; have b5 := hbd.out.trans (hb5.mono hbd.out.size); have d1 := (b5.cell (p := ⟨bb, off + k * 2, none⟩) hbl).trans E1.out; have d2 := (b5.cell (p := ⟨bb, off + k * 2 + 1, none⟩) hbl).trans E2.out))
              go_wp2_with fail
              go_ret2
              exact ⟨b5, .inl ⟨by rw [hfin.out]; decide, by rw [hfin.out]; rfl⟩⟩
            | false =>
              have con := Lib.hid (refAdd_ok w.heap.size o N.length v _ x y _ Md f hob hx hy hle)
              have HTN : Hid (Took N.length (natL (L.take (k + 1)))) := by
                show Took _ _
                rw [natL_snoc hlt HXY.out]
                exact hTk.out.snoc_of hx hy hle
              have HSN := Lib.hid (natL_snoc hlt HXY.out)
              clear M Md hTk hle f hb
              go_wp2_with fail
              go_region_held3 (fun w' => w'.cell? ⟨bb, off + k * 2, none⟩ = some (.int .i64 (x : Nat)) ∧ w'.cell? ⟨bb, off + k * 2 + 1, none⟩ = some (.int .i64 (y : Nat))) (first | go_keep | exact ⟨d1, d2⟩)
                ((go_at_call 35; refine Calls.mono con.out ?_; rintro e w5 ⟨rfl, hM5, hT5⟩; have b5 := hbd.out.trans hT5.bel; have d1 := (b5.cell (p := ⟨bb, off + k * 2, none⟩) hbl).trans E1.out; have d2 := (b5.cell (p := ⟨bb, off + k * 2 + 1, none⟩) hbl).trans E2.out; have HM5 := Lib.hid hM5; clear hM5 hT5))
              go_wp2_with fail
              go_roundw
              case rel =>
                obtain ⟨v5, M5⟩ := HM5.out
                exact ⟨k + 1, v5, by omega, by go_num, HTN, by rw [HSN.out]; exact M5, b5⟩
              case measure => simp [intOf]; omega
          · have hk' : L.take k = L := List.take_of_length_le (by omega)
            rw [hk'] at hTk M
            have hE0 : Hid (mkE N L = if isP N.length (ofL (natL L)) = true then 0 else 30) := by
              show _ = _
              rw [hE.out]
              unfold ordE
              rw [hal.out, hTk.out.tookB]
              rfl
            have con := Lib.hid (copyTexts_any A0 c0 N wr (HR.out.below hb) hnl)
            have HM := Lib.hid M
            clear M hk' hE hal
            go_wp2_with fail
            refine Calls.mono con.out ?_
            rintro e w3 ⟨vn, rfl, hown, hb3⟩
            obtain ⟨An, cn, rfl, _⟩ := Rd.own hown
            have M3 := HM.out.below hb3
            have bw3 := hb.trans (hb3.mono hb.size)
            have hbn := hb.size
            generalize wr.heap.size = bn at *
            clear con hb3 hb HM
            go_wp2_with fail
            have B0 : Blk (w3.alloc (.cells ((Tryd.zeroCells91.setIfInBounds 0 (.slice An N.length cn)).setIfInBounds 1 (.pointer (some ⟨o, 0, none⟩))) 91)) w3.heap.size 91 302 (refF (.slice An N.length cn) o (fun _ => false) (fun _ => 0) (fun _ => 0)) :=
              Blk.congr (Blk.newSet2 w3 _ _ zero91) fun i hi => by
                unfold refF
                by_cases e1 : i = 1
                · subst e1; simp
                · by_cases e0 : i = 0
                  · subst e0; simp
                  · simp only [if_neg e0, if_neg e1, if_neg (show ¬ i < 1 by omega), if_neg (show ¬ i < 2 by omega)]
            have hal := below_new w3 (.cells ((Tryd.zeroCells91.setIfInBounds 0 (.slice An N.length cn)).setIfInBounds 1 (.pointer (some ⟨o, 0, none⟩))) 91)
            generalize w3.alloc (.cells ((Tryd.zeroCells91.setIfInBounds 0 (.slice An N.length cn)).setIfInBounds 1 (.pointer (some ⟨o, 0, none⟩))) 91) = w4 at *
            have M4 := M3.below hal
            have N4 := hown.kept (grownBy_below hal none) (Classical.em _)
            have bw4 := bw3.trans (hal.mono bw3.size)
            have hbw := bw3.size
            generalize w3.heap.size = b at *
            clear M3 hown hal bw3
            have f : Fine N.length (natL L) := ⟨hn1, by omega, hTk.out.mem, by rw [natL_len]; omega⟩
            have g := f.good
            have t := hTk.out.anti hn1 (by omega)
            have L4 : LatR w4 b o N.length (.slice An N.length cn) (fun _ => false) (fun _ => 0) (fun _ => 0) := ⟨B0, M4.many⟩
            have con := Lib.hid (lrTables_any L4 M4 f g hn2)
            have hob2 := lat_ord_ne B0 M4 (by decide)
            have hr1 := row_ne M4.row B0 (by decide)
            have hr2 := row_ne N4 B0 (by decide)
            have HM := Lib.hid M4
            have HN := Lib.hid N4
            clear L4 B0 M4 N4
            refine Calls.mono con.out ?_
            rintro e w5 ⟨rfl, hg5, L5⟩
            have S5 : RefS w5 b o w.heap.size bn v An cn N (natL L) := ⟨L5, ⟨(hg5.block o HM.out.lt (by simp; omega)).trans HM.out.blk, HM.out.row.kept hg5 (.inr hr1)⟩, HN.out.kept hg5 (.inr hr2)⟩
            have bw5 := bw4.grown hg5 bw4.size (fun k e => by cases e; exact hbw)
            have h2 := L5.many
            have HS := Lib.hid S5
            have HB := Lib.hid bw5
            have HPR := Lib.hid (isP_isR (A := ofL (natL L)) g t)
            clear L5 S5 bw5 bw4 con HM HN hg5 hr1 hr2 t
            go_wp2_with fail
            go_loop [12] (fun i => ∃ a : Nat, a ≤ N.length ∧ i = .int .i64 a ∧ Hid (∀ x, x < a → ∀ y, y < N.length → okR N.length (ofL (natL L)) x y = true)) (fun i => N.length - (intOf i).toNat)
            case atStart => exact ⟨0, Nat.zero_le _, rfl, fun x hx => by omega⟩
            case round =>
              obtain ⟨a, ha, rfl, hall⟩ := hrel
              by_cases hla : a < N.length
              · have i1 : (0 : Int) ≤ a := by omega
                have i2 : (a : Int) < 10 := by omega
                go_wp2_with fail
                go_loop [13] (fun i => ∃ c : Nat, c ≤ N.length ∧ i = .int .i64 c ∧ Hid (∀ y, y < c → okR N.length (ofL (natL L)) a y = true)) (fun i => N.length - (intOf i).toNat)
                case atStart => exact ⟨0, Nat.zero_le _, rfl, fun y hy => by omega⟩
                case round =>
                  obtain ⟨c, hc, rfl, hin⟩ := hrel
                  by_cases hlc : c < N.length
                  · have j1 : (0 : Int) ≤ c := by omega
                    have j2 : (c : Int) < 10 := by omega
                    have q1 := HS.out.lat.join (x := a) (y := c) (by omega) (by omega)
                    have q2 := HS.out.lat.meet (x := a) (y := c) (by omega) (by omega)
                    have n1 := jR_neg (A := ofL (natL L)) hn2 hla hlc
                    have n2 := mR_neg (A := ofL (natL L)) hn2 hla hlc
                    have hok : Hid (okR N.length (ofL (natL L)) a c = ((joinO N.length (ofL (natL L)) a c).isSome && (meetO N.length (ofL (natL L)) a c).isSome)) := rfl
                    have hno := Lib.hid (isR_no (A := ofL (natL L)) hla hlc)
                    generalize jR N.length (ofL (natL L)) (a * 10 + c) = jv at *
                    generalize mR N.length (ofL (natL L)) (a * 10 + c) = mv at *
                    generalize (joinO N.length (ofL (natL L)) a c).isSome = p1 at *
                    generalize (meetO N.length (ofL (natL L)) a c).isSome = p2 at *
                    cases p1 with
                    | false =>
                      have hfin : Hid (mkE N L = 30) := by
                        show _ = _
                        rw [hE0.out, HPR.out, hno.out (by rw [hok.out]; rfl)]
                        rfl
                      clear hall hin hok hno n2 q2
                      have n1' : jv < 0 := by simpa using n1
                      clear n1
                      go_wp2_with fail
                      go_ret2
                      exact ⟨HB.out, .inl ⟨by rw [hfin.out]; decide, by rw [hfin.out]; rfl⟩⟩
                    | true =>
                      have n1' : ¬ jv < 0 := by simpa using n1
                      clear n1
                      cases p2 with
                      | false =>
                        have hfin : Hid (mkE N L = 30) := by
                          show _ = _
                          rw [hE0.out, HPR.out, hno.out (by rw [hok.out]; rfl)]
                          rfl
                        clear hall hin hok hno
                        have n2' : mv < 0 := by simpa using n2
                        clear n2
                        go_wp2_with fail
                        go_ret2
                        exact ⟨HB.out, .inl ⟨by rw [hfin.out]; decide, by rw [hfin.out]; rfl⟩⟩
                      | true =>
                        have n2' : ¬ mv < 0 := by simpa using n2
                        have hin' : Hid (∀ y, y < c + 1 → okR N.length (ofL (natL L)) a y = true) := fun y hy => by
                          rcases Nat.lt_or_ge y c with h1 | h1
                          · exact hin.out y h1
                          · rw [show y = c by omega, hok.out]; rfl
                        clear n2 hin hok hno
                        go_wp2_with fail
                        go_round
                        case rel => exact ⟨c + 1, by omega, by go_num, hin'⟩
                        case measure => simp [intOf]; omega
                  · have hall' : Hid (∀ x, x < a + 1 → ∀ y, y < N.length → okR N.length (ofL (natL L)) x y = true) := fun x hx y hy => by
                      rcases Nat.lt_or_ge x a with h1 | h1
                      · exact hall.out x h1 y hy
                      · rw [show x = a by omega]; exact hin.out y (by omega)
                    clear hall hin
                    go_wp2_with fail
                    go_round
                    case rel => exact ⟨a + 1, by omega, by go_num, hall'⟩
                    case measure => simp [intOf]; omega
              · have hp : isP N.length (ofL (natL L)) = true := by rw [HPR.out]; exact isR_of fun x hx y hy => hall.out x (by omega) y hy
                have hfin : Hid (RMakePost N L w (.returned (.tuple #[.pointer (some ⟨b, 0, none⟩), .int .i64 0])) w5) := ⟨HB.out, .inr ⟨by rw [hE0.out, hp]; rfl, ⟨hn1, hn2, HF.out, hTk.out, hp, hll⟩, b, o, bn, v, An, cn, rfl, hbn, HS.out⟩⟩
                clear hall hp
                go_wp2_with fail
                go_ret2
                exact hfin.out
end Go.Proofs.YtaikhdmgcffflaaDoor
