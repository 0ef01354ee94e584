/- Walks of the chapter's own order: Covers, next, Line. -/
import Derived.Test.YtkiaolegpjkbdaaDoorWk
import Derived.Laws.Rows
namespace Go.Proofs.YtkiaolegpjkbdaaDoor
open Go Go.RowKit Go.Shelf

/-- The covering pairs of a with the first k. -/
def covF (n : Nat) (A : Nat → Nat) (a k : Nat) : List (Nat × Nat) := ((List.range k).filter fun b => cov n A a b).map fun b => (a, b)
theorem covF_succ (n : Nat) (A : Nat → Nat) (a k : Nat) : covF n A a (k + 1) = covF n A a k ++ if cov n A a k then [(a, k)] else [] := by
  unfold covF
  rw [List.range_succ, List.filter_append, List.map_append]
  cases h : cov n A a k <;> simp [h]
theorem covF_len (n : Nat) (A : Nat → Nat) (a k : Nat) : (covF n A a k).length ≤ k := by
  unfold covF
  rw [List.length_map]
  exact filter_len_le k
theorem covTo_succF (n : Nat) (A : Nat → Nat) (k : Nat) : covTo n A (k + 1) = covTo n A k ++ covF n A k n := covTo_succ n A k

/-- What Covers leaves. -/
def PsPost (L : List (Nat × Nat)) (w : World) (e : Ending) (w' : World) : Prop := ∃ v, e = .returned v ∧ Ps w' v (L.map up2) ∧ Below w.heap.size w w'
set_option maxHeartbeats 1000000 in
theorem refCovers_any (base b n : Nat) (v : Value) (L : List (Nat × Nat)) (w : World) (h : Ref w base b n v L) (f : Fine n L) :
    Calls Tryd.prog 29 #[.pointer (some ⟨b, 0, none⟩)] w (PsPost (covL n (ofL L)) w) := by
  have hn := f.le16
  have hlt := h.lt
  have hm := h.many
  have HH := Lib.hid h
  clear h
  obtain ⟨i0, hi, hz0, hz1, hz2⟩ := info_parts info31
  go_enter Tryd.func29, Tryd.ntmps29
  go_wp2_with fail
  go_loopw [3, 4] (fun u i wr => ∃ k : Nat, k ≤ n ∧ i = .int .i64 k ∧ wr.ownsRow w.heap.size 31 2 u (covTo n (ofL L) k).length (pv (covTo n (ofL L) k)) ∧ Below w.heap.size w wr) (fun _ i _ => n - (intOf i).toNat)
  case atStart => exact ⟨0, Nat.zero_le _, rfl, World.ownsRow_nil _ _ _ _, Below.refl _ _⟩
  case round =>
    obtain ⟨k, hk, rfl, hown, hB⟩ := hrel
    obtain ⟨wo, rfl⟩ : ∃ wo : World, wo = wr := ⟨_, rfl⟩
    have hm' := (hB.cell (p := ⟨b, 0, none⟩) hlt).trans hm
    have hcl := covTo_len n (ofL L) k
    have hcl2 : k * n ≤ 256 := Nat.le_trans (Nat.mul_le_mul (show k ≤ 16 by omega) hn) (by omega)
    have HT := Lib.hid (covTo_succF n (ofL L) k)
    by_cases hkn : k < n
    · go_wp2_with fail
      go_loopw [3, 5] (fun u i wr => ∃ j : Nat, j ≤ n ∧ i = .int .i64 j ∧ wr.ownsRow w.heap.size 31 2 u (covTo n (ofL L) k ++ covF n (ofL L) k j).length (pv (covTo n (ofL L) k ++ covF n (ofL L) k j)) ∧ Below w.heap.size w wr) (fun _ i _ => n - (intOf i).toNat)
      case atStart => exact ⟨0, Nat.zero_le _, rfl, by simpa [covF] using hown, hB⟩
      case round =>
        obtain ⟨j, hj, rfl, hown2, hB2⟩ := hrel
        have hm2 := (hB2.cell (p := ⟨b, 0, none⟩) hlt).trans hm
        have hcf := covF_len n (ofL L) k j
        clear hm' hown hB
        by_cases hjn : j < n
        · have hln : (covTo n (ofL L) k ++ covF n (ofL L) k j).length ≤ 300 := by rw [List.length_append]; omega
          go_wp2_with fail
          refine (refcovers_any base b n v L k j wr (HH.out.below hB2) f hkn hjn).mono ?_
          cases hc : cov n (ofL L) k j with
          | true =>
            have HS : Hid (covF n (ofL L) k (j + 1) = covF n (ofL L) k j ++ [(k, j)]) := by show _ = _; rw [covF_succ, hc]; rfl
            rintro e w1 ⟨rfl, hb1⟩
            have hown3 := hown2.kept (grownBy_below hb1 none) (Classical.em _)
            have hB3 := hB2.trans (hb1.mono hB2.size)
            clear hown2 hB2 hb1 hm2 hc
            go_wp2_with (at_builtin; refine wpList_append_own _ rfl _ _ 22 rfl w.heap.size 31 i0 (.agg #[.int .i64 0, .int .i64 0]) 2 16 Tryd.underlying22 hi hz0 hz1 hz2 rfl (by decide) _ _ _ rfl (hown3.alloc _) ⟨w1.heap.size, 0, none⟩ 1 1 [.int .i64 k, .int .i64 j] rfl rfl (World.news_of_block (heap_alloc_new w1 _)) (by simp [Value.oneCell']) (by unfold maxLen; omega) (by omega) (by have := hB3.size; simp; omega) ?_; intro v' w2 hown' hgrow _)
            go_roundw
            case rel =>
              refine ⟨j + 1, by omega, by go_num, ?_, own_grown hB3 hB3.size hown3 hgrow⟩
              rw [HS.out, ← List.append_assoc, pv_snoc, List.length_append (bs := [_])]
              exact hown'
            case measure => simp [intOf]; omega
          | false =>
            have HS : Hid (covF n (ofL L) k (j + 1) = covF n (ofL L) k j) := by show _ = _; rw [covF_succ, hc]; simp
            rintro e w1 ⟨rfl, hb1⟩
            have hown3 := hown2.kept (grownBy_below hb1 none) (Classical.em _)
            have hB3 := hB2.trans (hb1.mono hB2.size)
            clear hown2 hB2 hb1 hm2 hc
            go_wp2_with fail
            go_roundw
            case rel =>
              refine ⟨j + 1, by omega, by go_num, ?_, hB3⟩
              rw [HS.out]
              exact hown3
            case measure => simp [intOf]; omega
        · obtain rfl : j = n := by omega
          have HO := Lib.hid hown2
          clear hown2
          go_wp2_with fail
          go_roundw
          case rel =>
            refine ⟨k + 1, by omega, by go_num, ?_, hB2⟩
            rw [HT.out]
            exact HO.out
          case measure => simp [intOf]; omega
    · obtain rfl : k = n := by omega
      go_wp2_with fail
      go_ret
      exact ⟨_, rfl, Ps.own hown, hB⟩

/-- Sixteen marks as a value. -/
def hadV (F : Nat) : Array Value := ((List.range 16).map fun i => Value.bool (F.testBit i)).toArray
/-- Is a free: not had, and nothing below it left? -/
def nfree (_n : Nat) (A : Nat → Nat) (F a k : Nat) : Bool := !F.testBit a && (List.range k).all fun c => F.testBit c || !lt_ A c a
theorem nfree_succ (n : Nat) (A : Nat → Nat) (F a k : Nat) : nfree n A F a (k + 1) = (nfree n A F a k && (F.testBit k || !lt_ A k a)) := by
  simp [nfree, List.range_succ, Bool.and_assoc]
theorem nfree_false (n : Nat) (A : Nat → Nat) (F a : Nat) : ∀ (k j : Nat), k ≤ j → nfree n A F a k = false → nfree n A F a j = false := by
  intro k j hkj h
  obtain ⟨d, rfl⟩ : ∃ d, j = k + d := ⟨j - k, by omega⟩
  clear hkj
  induction d with
  | zero => exact h
  | succ d ih => rw [show k + (d + 1) = (k + d) + 1 by omega, nfree_succ, ih]; rfl
theorem find_first {n k : Nat} {p : Nat → Bool} (hk : k < n) (h : ∀ c, c < k → p c = false) (hp : p k = true) : (List.range n).find? p = some k := by
  have e : List.range n = List.range k ++ (k :: (List.range (n - k - 1)).map (k + 1 + ·)) := by
    have : n = k + (1 + (n - k - 1)) := by omega
    conv => lhs; rw [this, List.range_add, Nat.add_comm 1, List.range_succ_eq_map]
    simp only [List.map_cons, Nat.add_zero, List.map_map]
    congr 2
    apply List.map_congr_left
    intro a _
    simp only [Function.comp]
    omega
  rw [e, List.find?_append, List.find?_eq_none.2 (fun x hx => by rw [h x (List.mem_range.1 hx)]; simp), Option.none_or, List.find?_cons_of_pos hp]
theorem find_none {n : Nat} {p : Nat → Bool} (h : ∀ c, c < n → p c = false) : (List.range n).find? p = none :=
  List.find?_eq_none.2 (fun x hx => by rw [h x (List.mem_range.1 hx)]; simp)
set_option maxHeartbeats 1000000 in
theorem refNext_any (base b n : Nat) (v : Value) (L : List (Nat × Nat)) (F : Nat) (w : World) (h : Ref w base b n v L) (f : Fine n L) :
    Calls Tryd.prog 42 #[.pointer (some ⟨b, 0, none⟩), .agg (hadV F)] w fun e w' => e = .returned (.int .i64 (((List.range n).find? fun a => nfree n (ofL L) F a n).getD 0 : Nat)) ∧ Below w.heap.size w w' := by
  have hn := f.le16
  have HH := Lib.hid (h.below (below_new w (.cells (hadV F) 45)))
  have hlt := HH.out.lt
  have hm := HH.out.many
  have HD : Had (w.alloc (.cells (hadV F) 45)) w.heap.size F := World.alloc_heap_new w _
  have hb0 := below_new w (.cells (hadV F) 45)
  clear h
  go_enter Tryd.func42, Tryd.ntmps42
  go_wp2_with fail
  have hHl := HD.lt
  generalize hHe : w.heap.size = H at *
  have HHe := Lib.hid hHe
  clear hHe
  generalize w.alloc (.cells (hadV F) 45) = w0 at *
  have HHD := Lib.hid HD
  clear HD
  go_loopw [5] (fun i wr => ∃ k : Nat, k ≤ n ∧ i = .int .i64 k ∧ Hid (∀ c, c < k → nfree n (ofL L) F c n = false) ∧ Below w0.heap.size w0 wr) (fun i _ => n - (intOf i).toNat)
  case atStart => exact ⟨0, Nat.zero_le _, rfl, fun c hc => by omega, Below.refl _ _⟩
  case round =>
    obtain ⟨k, hk, rfl, hno, hB⟩ := hrel
    obtain ⟨wo, rfl⟩ : ∃ wo : World, wo = wr := ⟨_, rfl⟩
    have hm' := (hB.cell (p := ⟨b, 0, none⟩) hlt).trans hm
    by_cases hkn : k < n
    · have hc := (hB.cell (p := ⟨H, k, none⟩) hHl).trans (HHD.out.cell (i := k) (by omega))
      have i1 : (0 : Int) ≤ k := by omega
      have i2 : (k : Int) < 16 := by omega
      have h00 : nfree n (ofL L) F k 0 = !F.testBit k := by simp [nfree]
      have H00 := Lib.hid h00
      clear h00
      go_wp2_with fail
      go_loopw [6, 7] (fun u i wr => ∃ j : Nat, j ≤ n ∧ i = .int .i64 j ∧ u = .bool (nfree n (ofL L) F k j) ∧ Below w0.heap.size w0 wr) (fun _ i _ => n - (intOf i).toNat)
      case atStart => exact ⟨0, Nat.zero_le _, rfl, by rw [H00.out], hB⟩
      case round =>
        obtain ⟨j, hj, rfl, rfl, hB2⟩ := hrel
        have hm2 := (hB2.cell (p := ⟨b, 0, none⟩) hlt).trans hm
        clear hm' hc hB H00
        have HS := Lib.hid (nfree_succ n (ofL L) F k j)
        by_cases hjn : j < n
        · have hcj := (hB2.cell (p := ⟨H, j, none⟩) hHl).trans (HHD.out.cell (i := j) (by omega))
          have j1 : (0 : Int) ≤ j := by omega
          have j2 : (j : Int) < 16 := by omega
          cases hf : nfree n (ofL L) F k j with
          | true =>
            have HF := Lib.hid hf
            clear hf
            cases ht : F.testBit j with
            | true =>
              rw [ht] at hcj
              have HT := Lib.hid ht
              clear ht
              go_wp2_with fail
              go_roundw
              case rel => exact ⟨j + 1, by omega, by go_num, by rw [HS.out, HF.out, HT.out]; rfl, hB2⟩
              case measure => simp [intOf]; omega
            | false =>
              rw [ht] at hcj
              have HT := Lib.hid ht
              clear ht
              go_wp2_with fail
              refine (refBelow_any base b n v L j k wr (HH.out.below hB2) f hjn hkn).mono ?_
              rintro e w1 ⟨rfl, hb1⟩
              have hB3 := hB2.trans (hb1.mono hB2.size)
              clear hB2 hb1 hm2 hcj
              go_wp2_with fail
              go_roundw
              case rel => exact ⟨j + 1, by omega, by go_num, by rw [HS.out, HF.out, HT.out]; rfl, hB3⟩
              case measure => simp [intOf]; omega
          | false =>
            have HF := Lib.hid (nfree_false n (ofL L) F k j n (by omega) hf)
            clear hf HS
            go_wp2_with fail
            go_roundw
            case rel =>
              refine ⟨k + 1, by omega, by go_num, fun c hc => ?_, hB2⟩
              by_cases e : c = k
              · rw [e]; exact HF.out
              · exact hno.out c (by omega)
            case measure => simp [intOf]; omega
        · obtain rfl : j = n := by omega
          cases hf : nfree j (ofL L) F k j with
          | true =>
            have HF := Lib.hid (find_first (p := fun a => nfree j (ofL L) F a j) hkn hno.out hf)
            clear hf HS
            go_wp2_with fail
            go_ret
            exact ⟨ret_int (by rw [HF.out]; rfl), by rw [HHe.out]; exact hb0.trans (hB2.mono (Nat.le_of_lt hHl))⟩
          | false =>
            have HF := Lib.hid hf
            clear hf HS
            go_wp2_with fail
            go_roundw
            case rel =>
              refine ⟨k + 1, by omega, by go_num, fun c hc => ?_, hB2⟩
              by_cases e : c = k
              · rw [e]; exact HF.out
              · exact hno.out c (by omega)
            case measure => simp [intOf]; omega
    · obtain rfl : k = n := by omega
      have HF := Lib.hid (find_none (p := fun a => nfree k (ofL L) F a k) hno.out)
      go_wp2_with fail
      go_ret
      exact ⟨ret_int (by rw [HF.out]; rfl), by rw [HHe.out]; exact hb0.trans (hB.mono (Nat.le_of_lt hHl))⟩

theorem nfree_nxt {n : Nat} {A : Nat → Nat} (g : Good n A) {rest F : Nat} (hr : ∀ c, rest.testBit c = true → c < n) (hh : ∀ i, i < n → F.testBit i = !rest.testBit i) : ((List.range n).find? fun a => nfree n A F a n) = nxt A rest :=
  nxtD_eq g (had := fun i => F.testBit i) hr hh

/-- How the row stands: what is in it, what is left, what is marked. -/
structure LSt (n : Nat) (A : Nat → Nat) (k rest F : Nat) (out : List Nat) : Prop where
  len : out.length = k
  kn : k ≤ n
  lt : rest < 65536
  bits : ∀ c, rest.testBit c = true → c < n
  marks : ∀ i, i < n → F.testBit i = !rest.testBit i
  card : card rest = n - k
  line : lineL n A = out ++ lineF A (n - k) rest
theorem LSt.start {n : Nat} (hn : n ≤ 16) (A : Nat → Nat) : LSt n A 0 (allS n) 0 [] :=
  ⟨rfl, Nat.zero_le _, allS_lt n hn, fun c h => by rw [tb_allS] at h; simpa using h, fun i hi => by rw [tb_allS]; simp [hi], card_all hn, rfl⟩
theorem LSt.next {n : Nat} {A : Nat → Nat} (g : Good n A) (t : Anti A) {k rest F : Nat} {out : List Nat} (h : LSt n A k rest F out) (hk : k < n) : ∃ a, nxt A rest = some a ∧ a < n ∧ rest.testBit a = true ∧ freeIn A rest a = true ∧ LSt n A (k + 1) (rm rest a) (F ||| 2 ^ a) (out ++ [a]) := by
  have h0 : rest ≠ 0 := by
    rintro rfl
    have := h.card
    simp [YtkiaolegpjkbdaaDoor.card, els_zero] at this
    omega
  obtain ⟨a, h1, h2, h3, h4⟩ := nxt_some g t h.bits h0 h.lt
  have h16 := g.le16
  have hc := card_rm (by omega) h3
  refine ⟨a, h1, h2, h3, h4, by simp [h.len], by omega, rm_lt h.lt, fun c hc => h.bits c (rm_sub hc).1, fun i hi => ?_, by have := h.card; omega, ?_⟩
  · rw [tb_or_pow, tb_rm, h.marks i hi]
    by_cases e : a = i <;> simp [e]
  · rw [h.line, show n - k = (n - (k + 1)) + 1 by omega, lineF_step h1, List.append_assoc]
    rfl
theorem LSt.done {n : Nat} {A : Nat → Nat} {rest F : Nat} {out : List Nat} (h : LSt n A n rest F out) : out = lineL n A := by
  rw [h.line, Nat.sub_self]; simp [lineF]

set_option maxHeartbeats 1000000 in
theorem refLine_any (base b n : Nat) (v : Value) (L : List (Nat × Nat)) (w : World) (h : Ref w base b n v L) (f : Fine n L) (t : Anti (ofL L)) :
    Calls Tryd.prog 31 #[.pointer (some ⟨b, 0, none⟩)] w (NsPost (lineL n (ofL L)) w) := by
  have hn := f.le16
  have hlt := h.lt
  have hm := h.many
  have HH := Lib.hid h
  have g := f.good
  clear h
  obtain ⟨i0, hi, hz0, hz1, hz2⟩ := info_parts info3
  go_enter Tryd.func31, Tryd.ntmps31
  have HB0 := Lib.hid (below_new w (.cells #[Value.bool false, Value.bool false, Value.bool false, Value.bool false, Value.bool false, Value.bool false, Value.bool false, Value.bool false, Value.bool false, Value.bool false, Value.bool false, Value.bool false, Value.bool false, Value.bool false, Value.bool false, Value.bool false] 45))
  have HD0 : Hid (Had (w.alloc (.cells #[Value.bool false, Value.bool false, Value.bool false, Value.bool false, Value.bool false, Value.bool false, Value.bool false, Value.bool false, Value.bool false, Value.bool false, Value.bool false, Value.bool false, Value.bool false, Value.bool false, Value.bool false, Value.bool false] 45)) w.heap.size 0) := (World.alloc_heap_new w _).trans (by congr 3)
  have hinf : Hid ((Tryd.prog.info? 45).map (·.size) = some 16) := by show _ = _; kernel_rfl
  have hund : Hid (Tryd.prog.underlying 45 = some (.array 16 4)) := by show _ = _; kernel_rfl
  go_wp2_with fail
  have hb0 := HB0.out
  have hd0 := HD0.out
  clear HB0 HD0
  generalize w.alloc (.cells #[Value.bool false, Value.bool false, Value.bool false, Value.bool false, Value.bool false, Value.bool false, Value.bool false, Value.bool false, Value.bool false, Value.bool false, Value.bool false, Value.bool false, Value.bool false, Value.bool false, Value.bool false, Value.bool false] 45) = w0 at *
  go_loopg [4] n (fun gn u wr => ∃ (rest F : Nat) (out : List Nat), gn + out.length = n ∧ LSt n (ofL L) out.length rest F out ∧ wr.ownsRow w.heap.size 3 1 u out.length (nv out) ∧ Had wr w.heap.size F ∧ Below w.heap.size w wr)
  case atStart => exact ⟨allS n, 0, [], by simp, LSt.start hn _, World.ownsRow_nil _ _ _ _, hd0, hb0⟩
  case round =>
    obtain ⟨rest, F, out, hgn, hst, hown, hd, hB⟩ := hrel
    clear hd0 hb0
    obtain ⟨A4, c4, rfl, _⟩ := Rd.own hown
    have hm' := (hB.cell (p := ⟨b, 0, none⟩) hlt).trans hm
    have hkn := hst.kn
    have HG := Lib.hid hgn
    clear hgn
    by_cases hlt2 : out.length < n
    · obtain ⟨a, ha, han, _, _, hst'⟩ := hst.next g t hlt2
      have HNX : Hid (((List.range n).find? fun c => nfree n (ofL L) F c n).getD 0 = a) := by show _ = _; rw [nfree_nxt g hst.bits hst.marks, ha]; rfl
      have HST := Lib.hid hst'
      clear hst hst' ha
      have i1 : (0 : Int) ≤ a := by omega
      have i2 : (a : Int) < 16 := by omega
      go_wp2_with (refine wpList_load_row rfl 45 (.tmp 3) rfl _ rfl 45 (hadV F) (0, 0) (.array 16 4) hd hund.out rfl hinf.out ?_)
      refine (refNext_any base b n v L F wr (HH.out.below hB) f).mono ?_
      rw [HNX.out]
      rintro e w1 ⟨rfl, hb1⟩
      have hown1 := hown.kept (grownBy_below hb1 none) (Classical.em _)
      have hB1 := hB.trans (hb1.mono hB.size)
      have hd1 : Had w1 w.heap.size F := (hb1.block _ hd.lt).trans hd
      have hc1 := hd1.cell (i := a) (by omega)
      have hf1 := hd1.free a
      have hd2 := hd1.set a
      have hne := row_ne hown1 hd1 (by decide)
      have hown2 := hown1.kept ((World.grownBy.refl w1 (some w.heap.size)).trans_set (.bool true) a) (.inr hne)
      have hB2 := hB1.setCell (p := ⟨w.heap.size, a, none⟩) (Nat.le_refl _) (.bool true)
      have HOWN := Lib.hid hown2
      have HD2 := Lib.hid hd2
      have HB2 := Lib.hid hB2
      clear hown hown1 hown2 hd hd1 hd2 hB hB1 hB2 hb1 hm' hne
      go_upto_region 6 with fail
      clear hc1 hf1
      generalize w1.setCell ⟨w.heap.size, a, none⟩ (.bool true) = w2 at *
      have hsz := HB2.out.size
      go_wp2_with (at_builtin; refine wpList_append_own _ rfl _ _ 43 rfl w.heap.size 3 i0 (.int .i64 0) 1 8 Tryd.underlying43 hi hz0 hz1 hz2 rfl (by decide) _ _ _ rfl (HOWN.out.alloc _) ⟨w2.heap.size, 0, none⟩ 1 1 [.int .i64 a] rfl rfl (cell_one_new _ _ _) (by simp [Value.oneCell']) (by unfold maxLen; omega) (by omega) (by simp; omega) ?_; intro v' w3 hown' hgrow _)
      go_roundg (n - (out.length + 1))
      case measure => have := HG.out; omega
      case rel =>
        have hl : (out ++ [a]).length = out.length + 1 := by simp
        have hdl := HD2.out.lt
        refine ⟨_, _, out ++ [a], by rw [hl]; omega, by rw [hl]; exact HST.out, by rw [hl, nv_snoc]; exact hown', ?_, own_grown HB2.out hsz HOWN.out hgrow⟩
        have e1 : (w2.alloc (.cells #[.int .i64 (a : Nat)] 3)).heap[w.heap.size]? = _ := (Below.heap_alloc w2 _ _ hdl).trans HD2.out
        exact (hgrow.block _ (by rw [World.size_alloc]; omega) (fun e => row_ne (HOWN.out.alloc _) e1 (by decide) e.symm)).trans e1
    · have e : out.length = n := by omega
      have HD : Hid (out = lineL n (ofL L)) := by rw [e] at hst; exact hst.done
      have HO := Lib.hid hown
      clear e hst hown
      go_wp2_with fail
      go_ret
      refine ⟨_, rfl, ?_, hB⟩
      rw [← HD.out]
      exact Ns.own HO.out
end Go.Proofs.YtkiaolegpjkbdaaDoor
