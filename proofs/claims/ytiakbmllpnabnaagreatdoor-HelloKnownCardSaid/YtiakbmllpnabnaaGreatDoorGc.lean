/- The program's isPlain, for every text. -/
import Derived.Test.YtiakbmllpnabnaaGreatDoorGb
namespace Go.Proofs.YtiakbmllpnabnaaGreatDoor
open Go Go.RowKit Go.Shelf Pl
attribute [local go_sem] Oper.semAt_some

theorem fit_take (s : ByteArray) (k : Nat) (h : k < s.size) (ha : (s.data.toList.take k).all fitB = true) (hb : fitB s[k] = true) : (s.data.toList.take (k + 1)).all fitB = true := all_step s k h ha hb
theorem isPl_bad (s : ByteArray) (k : Nat) (h : k < s.size) (hb : fitB s[k] = false) : isPl s.data.toList = false :=
  isPl_unfit (k := k) (by rw [← Lib.size_eq]; exact h) (by rw [at_list s k h]; exact hb)
theorem parts_le {l x : List UInt8} (h : x ∈ parts l) : x.length ≤ l.length := by
  have : ∀ (r : List UInt8) (cur : List UInt8), ∀ x ∈ partsGo cur r, x.length ≤ cur.length + r.length := by
    intro r
    induction r with
    | nil => intro cur x hx; simp [partsGo] at hx; subst hx; simp
    | cons c r ih =>
      intro cur x hx
      unfold partsGo at hx
      split at hx
      · rcases List.mem_cons.1 hx with e | e
        · subst e; simp
        · have := ih [] x e; simp at this ⊢; omega
      · have := ih _ x hx; simp at this ⊢; omega
  have := this l [] x h
  simpa using this

set_option maxHeartbeats 1000000 in
theorem isPlain_any (s : ByteArray) (w : World) (hs : s.size ≤ 1000000) :
    Calls Tryz.prog 76 #[.string s] w fun e w' => e = .returned (.bool (isPl s.data.toList)) ∧ Below w.heap.size w w' := by
  have hz := Lib.size_eq s
  by_cases h60 : 60 < (s.size : Int)
  · have E := Lib.hid (isPl_long (l := s.data.toList) (by omega))
    rw [E.out]
    clear hz
    go_enter Tryz.func76, Tryz.ntmps76
    go_wp2
    exact bodyPost_ret (v := .bool false) (by simp [results, Tryz.f76, go_sem]) rfl ⟨rfl, (Below.refl _ w).alloc (Nat.le_refl _) _⟩
  by_cases hf : s.data.toList.all fitB = true
  · have E := Lib.hid (isPl_edge (l := s.data.toList) (by omega) hf)
    rw [E.out]
    have HF := Lib.hid hf
    clear hf E hz
    refine (callsIn_wide (n := 9)).1 (callsIn_of_wp_marks Tryz.func76 rfl trivial ?_ rfl)
    simp only [Tryz.ntmps76, List.size_toArray, List.length_cons, List.length_nil, Nat.reduceAdd, Nat.reduceSub, Array.replicate_succ, Array.replicate_zero, List.push_toArray, List.append_toArray, List.nil_append, List.cons_append]
    refine wpIn_wide.2 ?_
    go_wp2
    go_loop [3] (fun i => ∃ k : Nat, k ≤ s.size ∧ i = .int .i64 k) (fun i => s.size - (intOf i).toNat)
    case atStart => exact ⟨0, Nat.zero_le _, rfl⟩
    case round =>
      obtain ⟨k, hk, rfl⟩ := hrel
      by_cases hlt : k < s.size
      · have hfk : fitB s[k] = true := by
          have := (List.all_eq_true.1 HF.out) _ (List.getElem_mem (l := s.data.toList) (n := k) (by rw [← Lib.size_eq]; exact hlt))
          rwa [at_list s k hlt] at this
        have HK := Lib.hid hfk
        clear hfk
        go_wp2_with (go_at_call 93; refine (fits_any _ _).mono ?_; rintro e w' ⟨rfl, rfl⟩; rw [HK.out])
        go_round
        case rel => exact ⟨k + 1, by omega, by go_num⟩
        case measure => simp [intOf]; omega
      · have b0 := Lib.hid (Boxed.new w 4 (.bool false))
        have bl0 := Lib.hid ((Below.refl w.heap.size w).alloc (Nat.le_refl _) (.cells #[.bool false] 4))
        obtain rfl : k = s.size := by omega
        go_wp2_with fail
        generalize hW0 : w.alloc (.cells #[.bool false] 4) = W0 at *
        have hz0 : w.heap.size < W0.heap.size := by rw [← hW0]; simp
        clear hW0
        obtain ⟨B0, hB0⟩ : ∃ B0, B0 = W0.heap.size := ⟨_, rfl⟩
        have c1 := splitSeq_any s 46 W0
        rw [← hB0] at c1 hz0
        refine c1.mono ?_
        rintro e W1 ⟨rfl, hX, hb1, hB⟩
        have bR := Boxed.low b0.out hb1 hz0
        have bl1 := Below.and bl0.out (by rw [hB0] at hb1; exact hb1)
        clear b0 bl0 c1 hB0 hb1
        have HR := Lib.hid bR
        have HL := Lib.hid bl1
        have HX := Lib.hid hX
        clear hX bR bl1
        go_wp2_with fail
        refine (wpIn_wide (n := 9)).1 ?_
        have hw1 : w.heap.size ≤ W1.heap.size := HL.out.size
        refine range_box (α := List UInt8) (by omega) (gf := 130) (b := B0) (lb := #[.pointer (some ⟨B0 + 1, 0, none⟩), .pointer (some ⟨B0, 0, none⟩), .pointer (some ⟨B0 + 2, 0, none⟩)]) rfl (enters_of Tryz.func130 (by kernel_rfl) rfl) (by omega) (fun _ => rfl)
          (split_stops 8 (by omega) 46 parts (fun _ h => parts_yes h) (fun _ h => parts_no h) B0 s hs W1 hB HX.out)
          (fun W => Below w.heap.size w W ∧ Boxed W w.heap.size 4 (.bool false)) (fun W => Below w.heap.size w W ∧ Boxed W w.heap.size 4 (.bool false))
          (fun W o h => ⟨h.1.alloc h.1.size o, h.2.alloc o⟩)
          (fun W l o o' hl ho hc hk h => ⟨h.1.trans (belowK_b (w := w) (Nat.le_refl _) W l o o' (by omega) ho hc hk), (World.putObj_heap_other (by omega)).trans h.2⟩)
          (fun W v h => ⟨h.1.setCell (p := ⟨B0, 0, none⟩) (by simp; omega) v, h.2.other (by omega) v⟩)
          (fun W l o o' hl ho hc hk h => ⟨h.1.trans (belowK_b (w := w) (Nat.le_refl _) W l o o' (by omega) ho hc hk), (World.putObj_heap_other (by omega)).trans h.2⟩)
          ⟨HL.out, HR.out⟩ (fun pre => pre.all edgeOk = true) (fun pre => pre.all edgeOk = false) rfl
          (fun x => { tmps := #[.string s, undef, .pointer (some ⟨w.heap.size, 0, none⟩), .int .i64 s.size, .string ⟨x.toArray⟩, .string s, .int .i64 s.size, .bool false, .int .i64 s.size, .string s, .int .i64 s.size, .bool false, u12, u13, u14, u15, u16, u17, u18, .string s, .func (.func 130) #[] #[.pointer (some ⟨B0 + 1, 0, none⟩), .pointer (some ⟨B0, 0, none⟩), .pointer (some ⟨B0 + 2, 0, none⟩)], .string ⟨x.toArray⟩, undef, undef, undef], defers := [] }) ?assign ?body ?done ?stop
        case assign =>
          intro l x W K hK
          gi_wp2
          exact hK
        case body =>
          rintro l pre x W hx ⟨hb, hR⟩ hp
          have hc := hR.cell
          have hfz := hR.frozen
          cases he : edgeOk x
          all_goals
            have HE := Lib.hid he
            clear he
            have cl := (isLabel_any ⟨x.toArray⟩ W (by rw [size_mk]; unfold maxLen; omega))
            rw [show (⟨x.toArray⟩ : ByteArray).data.toList = x from rfl, HE.out] at cl
            gi_wp2_with ((try refine ⟨trivial, ?_⟩); gi_at_call 95; refine (CallsIn.inRound l (callsIn_wide.2 cl)).mono ?_; rintro e w' ⟨rfl, rfl⟩)
          · refine ⟨(KeepsOthers.setCell _ _ _).from _, ⟨hb.setCell (p := ⟨w.heap.size, 0, none⟩) (Nat.le_refl _) _, hR.set _⟩, ?_⟩
            rw [List.all_append, List.all_cons, HE.out]; simp
          · refine ⟨KeepsFrom.refl _ _, Below.refl _ _, ⟨hb, hR⟩, ?_⟩
            rw [List.all_append, hp, List.all_cons, HE.out]; rfl
        case done =>
          rintro D xs W hD rfl hp ⟨hb, hR⟩ hK
          have hc := hR.cell
          have hfz := hR.frozen
          have hd1 : (W.setCell ⟨w.heap.size, 0, none⟩ (.bool true)).heap[D]? = some (.deferred (some [])) := (Below.heap_setCell _ _ _ _ (by simp; omega)).trans hK
          have hc1 := ((hR.set (.bool true)).kept (grownBy_putObj' _ D (.deferred none)) (by simp; omega)).cell
          have hb1 := (hb.setCell (p := ⟨w.heap.size, 0, none⟩) (Nat.le_refl _) (.bool true)).trans (belowK_b (w := w) (Nat.le_refl _) _ D _ (.deferred none) (by omega) hd1 rfl rfl)
          have HP := Lib.hid hp
          have HD1 := Lib.hid hd1
          have HC1 := Lib.hid hc1
          have HB1 := Lib.hid hb1
          clear hd1 hc1 hb1 hp
          go_wp2_with fail
          have hc2 := HC1.out
          refine ⟨by simp, .inl ⟨_, _, rfl, run_takeDeferred HD1.out, ?_⟩⟩
          exact ⟨.bool true, by simp [results, Tryz.f76, go_sem, hc2], by rw [HP.out], HB1.out⟩
        case stop =>
          rintro D pre W hD hpre hq ⟨hb, hR⟩ hK
          gi_wp2
          refine ⟨by simp, .inl ⟨_, _, rfl, run_takeDeferred hK, ?_⟩⟩
          have hc := (hR.kept (grownBy_putObj' W D (.deferred none)) (by simp; omega)).cell
          refine ⟨.bool false, by simp [results, Tryz.f76, go_sem, hc], ?_, ?_⟩
          · have e : (parts s.data.toList).all edgeOk = false := by
              obtain ⟨r, hr⟩ := hpre
              rw [← hr, List.all_append, hq]; rfl
            rw [e]
          · exact hb.trans (belowK_b (w := w) (Nat.le_refl _) _ D _ _ (by omega) hK rfl rfl)
  · have hbad : isPl s.data.toList = false := by
      cases e : isPl s.data.toList with
      | false => rfl
      | true => exact absurd (isPl_fit e) hf
    rw [hbad]
    have HF := Lib.hid hf
    clear hf hbad hz
    go_enter Tryz.func76, Tryz.ntmps76
    go_wp2
    go_loop [3] (fun i => ∃ k : Nat, k ≤ s.size ∧ Hid ((s.data.toList.take k).all fitB = true) ∧ i = .int .i64 k) (fun i => s.size - (intOf i).toNat)
    case atStart => exact ⟨0, Nat.zero_le _, Lib.hid (by simp), rfl⟩
    case round =>
      obtain ⟨k, hk, ha, rfl⟩ := hrel
      by_cases hlt : k < s.size
      · cases hfk : fitB s[k]
        · have HK := Lib.hid hfk
          clear hfk
          go_wp2_with (go_at_call 93; refine (fits_any _ _).mono ?_; rintro e w' ⟨rfl, rfl⟩; rw [HK.out])
          exact bodyPost_ret (v := .bool false) (by simp [results, Tryz.f76, go_sem]) rfl ⟨rfl, (Below.refl _ w).alloc (Nat.le_refl _) _⟩
        · have HK := Lib.hid hfk
          clear hfk
          go_wp2_with (go_at_call 93; refine (fits_any _ _).mono ?_; rintro e w' ⟨rfl, rfl⟩; rw [HK.out])
          go_round
          case rel => exact ⟨k + 1, by omega, Lib.hid (fit_take s k hlt ha.out HK.out), by go_num⟩
          case measure => simp [intOf]; omega
      · exact absurd (by have := ha.out; rwa [take_all s (by omega)] at this) HF.out
end Go.Proofs.YtiakbmllpnabnaaGreatDoor
