/- The chapter's Line. -/
import Derived.Test.YtfiioojnmjnmmaaDoorHh
import Derived.Deep.MidRow
import Derived.Laws.ResultCell
namespace Go.Proofs.YtfiioojnmjnmmaaDoor
open Go Go.RowKit

theorem load_head (w : World) (b o : Nat) (p q : ByteArray) (h1 : w.cell? ⟨b, o, none⟩ = some (.string p)) (h2 : w.cell? ⟨b, o + 1, none⟩ = some (.string q)) :
    (loadVar 28 ⟨b, o, none⟩).run Tryd.prog w = .ok (.agg #[.string p, .string q]) w := by
  have hr : w.rangeAt b o [.string p, .string q] := fun j v hv => by
    match j, hv with
    | 0, hv => simp at hv; subst hv; exact h1
    | 1, hv => simp at hv; subst hv; exact h2
    | j + 2, hv => simp at hv
  exact run_loadVar_mid w b o 28 _ _ hr underH rfl (by kernel_rfl)
theorem results_line {fn : Func} {p u : Tmp} (h : fn.results = #[.cell p 28, .tmp u]) (tmps : Array Value) (w : World) (g : Nat) (x y : ByteArray) (hp : tmps.getD p undef = .pointer (some ⟨g, 0, none⟩))
    (h1 : w.cell? ⟨g, 0, none⟩ = some (.string x)) (h2 : w.cell? ⟨g, 1, none⟩ = some (.string y)) :
    (results fn tmps).run Tryd.prog w = .ok (.tuple #[.agg #[.string x, .string y], tmps.getD u undef]) w := by
  rw [results_cell_tmp h, hp]
  simp [asAddr, Result.andThen, load_head w g 0 x y h1 h2]

theorem set_head (w : World) (g : Nat) (p q x y : Value) (a1 : w.cell? ⟨g, 0, none⟩ = some x) (a2 : w.cell? ⟨g, 1, none⟩ = some y) :
    ((w.setCell ⟨g, 0, none⟩ p).setCell ⟨g, 1, none⟩ q).cell? ⟨g, 0, none⟩ = some p ∧ ((w.setCell ⟨g, 0, none⟩ p).setCell ⟨g, 1, none⟩ q).cell? ⟨g, 1, none⟩ = some q := by
  have h1 : (w.setCell ⟨g, 0, none⟩ p).cell? ⟨g, 0, none⟩ = some p := World.cell?_setCell_same _ _ _ a1
  have h2 : (w.setCell ⟨g, 0, none⟩ p).cell? ⟨g, 1, none⟩ = some y := (World.cell?_setCell_other _ _ _ _ (by simp)).trans a2
  exact ⟨(World.cell?_setCell_other _ _ _ _ (by simp)).trans h1, World.cell?_setCell_same _ _ _ h2⟩
theorem set_head_below {B : Nat} {w w1 : World} (hb : Below B w w1) {g : Nat} (hB : B ≤ g) (p q : Value) : Below B w ((w1.setCell ⟨g, 0, none⟩ p).setCell ⟨g, 1, none⟩ q) :=
  (hb.setCell (p := ⟨g, 0, none⟩) hB p).setCell (p := ⟨g, 1, none⟩) hB q
theorem extract_mid (s : ByteArray) (f t : Nat) : (s.extract f t).data.toList = (s.data.toList.take t).drop f := by
  rw [ByteArray.data_extract, Array.toList_extract]
  simp [List.extract, List.drop_take]
theorem trimAt {s : ByteArray} {m f t : Nat} (h1 : m ≤ f) (h2 : f ≤ t) (h3 : t ≤ s.size) (hl : ∀ j (_ : j < s.size), m ≤ j → j < f → blB s[j] = true) (hl' : ∀ _ : f < s.size, blB (s[f]'‹_›) = false)
    (hr : ∀ j (_ : j < s.size), t ≤ j → blB s[j] = true) (hr' : ∀ (_ : f < t), blB (s[t - 1]'(by omega)) = false) : Lib.trimS (s.data.toList.drop m) bl = (s.extract f t).data.toList := by
  have hz := Lib.size_eq s
  rw [extract_mid]
  refine trim_at h1 h2 (by omega) (fun j hj => ?_) (fun hj => ?_) (fun j hj => ?_) (fun hj => ?_)
  · rw [at_list s j (by omega)]; exact hl j (by omega)
  · rw [at_list s f (by omega)]; exact hl' (by omega)
  · rw [at_list s j (by omega)]; exact hr j (by omega)
  · rw [at_list s (t - 1) (by omega)]; exact hr' hj
theorem mk_data (s : ByteArray) : (⟨s.data.toList.toArray⟩ : ByteArray) = s := by simp
def lineV : Option Hd → Value
  | none => .tuple #[.agg #[.string ⟨#[]⟩, .string ⟨#[]⟩], .int .i64 40]
  | some h => .tuple #[.agg #[.string ⟨h.1.toArray⟩, .string ⟨h.2.toArray⟩], .int .i64 0]
theorem lineV_some (N V : ByteArray) : lineV (some (N.data.toList, V.data.toList)) = .tuple #[.agg #[.string N, .string V], .int .i64 0] := by
  show Value.tuple #[.agg #[.string ⟨N.data.toList.toArray⟩, .string ⟨V.data.toList.toArray⟩], .int .i64 0] = _
  rw [mk_data, mk_data]
theorem lineP_long {l : List UInt8} (h : 300 < l.length) : lineP l = none := by unfold lineP; rw [if_pos h]
theorem lineP_no {l : List UInt8} (h : 58 ∉ l) : lineP l = none := by unfold lineP; rw [if_neg h]; simp
theorem lineP_bad {l : List UInt8} (h : okH (head58 l, Lib.trimS (tail58 l) bl) = false) : lineP l = none := by unfold lineP; rw [h]; simp
theorem lineP_good {l : List UInt8} (h0 : ¬ 300 < l.length) (h1 : 58 ∈ l) (h : okH (head58 l, Lib.trimS (tail58 l) bl) = true) : lineP l = some (head58 l, Lib.trimS (tail58 l) bl) := by unfold lineP; rw [if_neg h0, if_pos h1, if_pos h]
theorem alloc_head (w : World) (p q : Value) : (w.alloc (.cells #[p, q] 28)).cell? ⟨w.heap.size, 0, none⟩ = some p ∧ (w.alloc (.cells #[p, q] 28)).cell? ⟨w.heap.size, 1, none⟩ = some q := by
  constructor <;> rw [World.cell?_alloc_at _ _ _ _ rfl] <;> rfl
theorem alloc_free (w : World) (cs : Array Value) (t : TypeId) (j : Nat) : (w.alloc (.cells cs t)).frozen? ⟨w.heap.size, j, none⟩ = false := by simp

set_option maxHeartbeats 1000000 in
theorem line_ref (s : ByteArray) (w : World) (hs : s.size ≤ 1000) : Calls Tryd.prog 35 #[.string s] w fun e w' =>
    e = .returned (lineV (lineP s.data.toList)) ∧ Below w.heap.size w w' := by
  have hsl := Lib.size_eq s
  by_cases h300 : 300 < s.size
  · rw [lineP_long (by omega)]
    clear hsl
    go_enter Tryd.func35, Tryd.ntmps35
    go_wp2_with fail
    refine bodyPost_ret (results_line rfl _ _ w.heap.size ⟨#[]⟩ ⟨#[]⟩ rfl (alloc_head _ _ _).1 (alloc_head _ _ _).2) rfl ?_
    exact ⟨rfl, below_new _ _⟩
  have HSL := Lib.hid hsl
  clear hsl
  obtain ⟨a1, a2⟩ := alloc_head w (.string ⟨#[]⟩) (.string ⟨#[]⟩)
  have a3 := alloc_free w #[.string ⟨#[]⟩, .string ⟨#[]⟩] 28 0
  have a4 := alloc_free w #[.string ⟨#[]⟩, .string ⟨#[]⟩] 28 1
  have hb0 := below_new w (.cells #[.string ⟨#[]⟩, .string ⟨#[]⟩] 28)
  have hlt0 : w.heap.size < (w.alloc (.cells #[.string ⟨#[]⟩, .string ⟨#[]⟩] 28)).heap.size := by simp
  go_enter Tryd.func35, Tryd.ntmps35
  go_wp2_with fail
  generalize w.alloc (.cells #[.string ⟨#[]⟩, .string ⟨#[]⟩] 28) = w1 at *
  generalize hg : w.heap.size = g at *
  go_loop [4] (fun i => ∃ k : Nat, k ≤ s.size ∧ i = .int .i64 k ∧ Hid (∀ j (hj : j < k) (hl : j < s.size), s[j].toNat ≠ 58)) (fun i => s.size - (intOf i).toNat)
  case atStart => exact ⟨0, Nat.zero_le _, rfl, fun j hj => by omega⟩
  case round =>
    obtain ⟨k, hk, rfl, hall⟩ := hrel
    by_cases hlt : k < s.size
    · by_cases h58 : s[k].toNat = 58
      · obtain ⟨m1, m2, m3⟩ := head58_at (l := s.data.toList) (k := k) (by rw [← HSL.out]; exact hlt) (fun j hj e => by
          have hj' : j < s.size := by omega
          rw [at_list s j hj'] at e
          exact hall.out j hj hj' (by rw [e]; rfl)) (by rw [at_list s k hlt]; exact UInt8.toNat_inj.1 h58)
        have M1 := Lib.hid m1
        have M2 := Lib.hid m2
        have M3 := Lib.hid m3
        clear m1 m2 m3 hall
        have e2 : ((s[k].toNat : Int) != 58) = false := by simp; omega
        have e1 : ((k : Int) == s.size) = false := by rw [beq_eq_false_iff_ne]; omega
        clear h58
        go_wp2_with fail
        go_loop [5] (fun i => ∃ f : Nat, k + 1 ≤ f ∧ f ≤ s.size ∧ i = .int .i64 f ∧ Hid (∀ j (hl : j < s.size), k + 1 ≤ j → j < f → blB s[j] = true)) (fun i => s.size - (intOf i).toNat)
        case atStart => exact ⟨k + 1, Nat.le_refl _, by omega, by go_num, fun j _ h1 h2 => by omega⟩
        case round =>
          obtain ⟨f, hf1, hf2, rfl, hfl⟩ := hrel
          have hx : (∃ hf : f < s.size, blB s[f] = true) ∨ (f = s.size ∧ ∀ hf : f < s.size, blB s[f] = false) ∨ (∃ hf : f < s.size, blB s[f] = false) := by
            by_cases hf : f < s.size
            · cases hq : blB s[f]
              · exact .inr (.inr ⟨hf, hq⟩)
              · exact .inl ⟨hf, hq⟩
            · exact .inr (.inl ⟨by omega, fun h => absurd h hf⟩)
          rcases hx with ⟨hf, hq⟩ | hx
          · have hfl' : Hid (∀ j (hl : j < s.size), k + 1 ≤ j → j < f + 1 → blB s[j] = true) := fun j hl h1 h2 => by
              by_cases e : j = f
              · subst e; exact hq
              · exact hfl.out j hl h1 (by omega)
            have cb := Lib.hid fun w => blank_ref s[f] w true hq
            clear hq hfl
            go_wp2_with (go_at_call 55; refine (cb.out _).mono ?_; rintro e w' ⟨rfl, rfl⟩)
            go_round
            case rel => exact ⟨f + 1, by omega, by omega, by go_num, hfl'⟩
            case measure => simp [intOf]; omega
          · have hfe : Hid (∀ hf : f < s.size, blB s[f] = false) := by
              rcases hx with ⟨_, h⟩ | ⟨h, h'⟩
              · exact h
              · exact fun _ => h'
            have hx' : f = s.size ∨ ∃ hf : f < s.size, Hid (∀ w : World, Calls Tryd.prog 55 #[.int .u8 (s[f].toNat : Int)] w fun e w' => e = .returned (.bool false) ∧ w = w') := by
              rcases hx with ⟨h, _⟩ | ⟨h, h'⟩
              · exact .inl h
              · exact .inr ⟨h, fun w => blank_ref s[f] w false h'⟩
            clear hx
            have fact : f < s.size ∨ ¬ f < s.size := Nat.lt_or_ge f s.size |>.imp id (by omega)
            rcases hx' with hx' | ⟨hf, cb⟩
            · have hf : ¬ f < s.size := by omega
              clear fact hx'
              go_wp2_with fail
              go_loop [6] (fun i => ∃ t : Nat, f ≤ t ∧ t ≤ s.size ∧ i = .int .i64 t ∧ Hid (∀ j (hl : j < s.size), t ≤ j → blB s[j] = true)) (fun i => (intOf i).toNat)
              case atStart => exact ⟨s.size, hf2, Nat.le_refl _, by go_num, fun j h1 h2 => by omega⟩
              case round =>
                obtain ⟨t, ht1, ht2, rfl, htl⟩ := hrel
                have hx3 : (∃ h : f < t, blB (s[t - 1]'(by omega)) = true) ∨ (t = f ∧ (∀ h : f < t, blB (s[t - 1]'(by omega)) = false)) ∨ (∃ h : f < t, blB (s[t - 1]'(by omega)) = false) := by
                  by_cases h : f < t
                  · cases hq : blB (s[t - 1]'(by omega))
                    · exact .inr (.inr ⟨h, hq⟩)
                    · exact .inl ⟨h, hq⟩
                  · exact .inr (.inl ⟨by omega, fun h' => absurd h' h⟩)
                rcases hx3 with ⟨h, hq⟩ | hx3
                · exfalso; omega
                · have hte : ∀ h : f < t, blB (s[t - 1]'(by omega)) = false := by
                    rcases hx3 with ⟨_, h⟩ | ⟨h, h'⟩
                    · exact h
                    · exact fun _ => h'
                  have T := trimAt (m := k + 1) hf1 ht1 ht2 hfl.out hfe.out htl.out hte
                  rw [← M3.out] at T
                  have T := Lib.hid T
                  have cx : (t : Int) ≤ f ∨ (f < t ∧ ∃ h : t - 1 < s.size, Hid (∀ w : World, Calls Tryd.prog 55 #[.int .u8 ((s[t - 1]'h).toNat : Int)] w fun e w' => e = .returned (.bool false) ∧ w = w')) := by
                    rcases hx3 with ⟨h, _⟩ | ⟨h, h'⟩
                    · exact .inl (by omega)
                    · exact .inr ⟨h, by omega, fun w => blank_ref _ w false h'⟩
                  clear hx3 hte htl
                  have n1 := extract_take s k
                  have n2 := extract_mid s f t
                  have H2 := M2.out
                  rw [← n1] at H2
                  have HM2 := Lib.hid H2
                  clear H2 n1
                  have sz1 : (s.extract 0 k).size ≤ maxLen := by rw [extract_size s k hk]; unfold maxLen; omega
                  have sz2 : (s.extract f t).size ≤ maxLen := by rw [Lib.size_eq, n2, List.length_drop, List.length_take, ← Lib.size_eq]; unfold maxLen; omega
                  clear n2
                  have g1 : (0 : Int) ≤ f := by omega
                  have g2 : (f : Int) ≤ t := by omega
                  have g3 : (t : Int) ≤ s.size := by omega
                  have g4 : (k : Int) ≤ s.size := by omega
                  have g5 : (0 : Int) ≤ k := by omega
                  generalize hN : s.extract 0 k = N at *
                  generalize hV : s.extract f t = V at *
                  have W2 : ∀ w1 : World, ((w1.alloc (.cells #[.string N, .string V] 28)).drew).cell? ⟨w1.heap.size, 0, none⟩ = some (.string N) ∧ ((w1.alloc (.cells #[.string N, .string V] 28)).drew).cell? ⟨w1.heap.size, 1, none⟩ = some (.string V) ∧ Below w1.heap.size w1 ((w1.alloc (.cells #[.string N, .string V] 28)).drew) := fun w1 =>
                    ⟨(alloc_head w1 _ _).1, (alloc_head w1 _ _).2, below_drewN (below_new w1 _) 1⟩
                  obtain ⟨d1, d2, d3⟩ := W2 w1
                  have d4 := (d3.cell (p := ⟨g, 0, none⟩) hlt0).trans a1
                  have d5 := (d3.cell (p := ⟨g, 1, none⟩) hlt0).trans a2
                  have d6 := (d3.frozen (p := ⟨g, 0, none⟩) hlt0).trans a3
                  have d7 := (d3.frozen (p := ⟨g, 1, none⟩) hlt0).trans a4
                  have d8 := hb0.trans (d3.mono (Nat.le_of_lt hlt0))
                  have D1 := Lib.hid d1
                  have D2 := Lib.hid d2
                  have D4 := Lib.hid d4
                  have D5 := Lib.hid d5
                  have D6 := Lib.hid d6
                  have D7 := Lib.hid d7
                  have D8 := Lib.hid d8
                  clear d1 d2 d3 d4 d5 d6 d7 d8 W2
                  cases q1 : isNm N.data.toList with
                  | false =>
                    have c1 := Lib.hid fun w => isName_ref N w sz1 false q1
                    have E := Lib.hid (lineP_bad (l := s.data.toList) (by rw [HM2.out]; unfold okH; rw [q1]; rfl))
                    clear q1
                    rcases cx with x1 | ⟨x1, x4, cb⟩
                    · go_wp2_with fail
                      go_region
                      generalize (w1.alloc (.cells #[.string N, .string V] 28)).drew = w2 at *
                      have d1 := D1.out
                      have d2 := D2.out
                      have d4 := D4.out
                      have d5 := D5.out
                      have d6 := D6.out
                      have d7 := D7.out
                      clear D1 D2 D6 D7 a1 a2 a3 a4
                      go_wp2_with fail
                      go_at_call 45
                      refine (c1.out _).mono ?_
                      rintro e w' ⟨rfl, rfl⟩
                      go_wp2_with fail
                      refine bodyPost_ret (results_line rfl _ _ g ⟨#[]⟩ ⟨#[]⟩ rfl (set_head _ g _ _ _ _ d4 d5).1 (set_head _ g _ _ _ _ d4 d5).2) rfl ?_
                      rw [E.out]
                      exact ⟨rfl, by rw [hg]; exact set_head_below D8.out (Nat.le_refl _) _ _⟩
                    · exfalso; omega
                  | true =>
                    have c1 := Lib.hid fun w => isName_ref N w sz1 true q1
                    cases q2 : isVl V.data.toList with
                    | false =>
                      have c2 := Lib.hid fun w => isValue_ref V w sz2 false q2
                      have E := Lib.hid (lineP_bad (l := s.data.toList) (by rw [HM2.out, T.out]; unfold okH; rw [q1, q2]; rfl))
                      clear q1 q2
                      rcases cx with x1 | ⟨x1, x4, cb⟩
                      · go_wp2_with fail
                        go_region
                        generalize (w1.alloc (.cells #[.string N, .string V] 28)).drew = w2 at *
                        have d1 := D1.out
                        have d2 := D2.out
                        have d4 := D4.out
                        have d5 := D5.out
                        have d6 := D6.out
                        have d7 := D7.out
                        clear D1 D2 D6 D7 a1 a2 a3 a4
                        go_wp2_with fail
                        go_at_call 45
                        refine (c1.out _).mono ?_
                        rintro e w' ⟨rfl, rfl⟩
                        go_wp2_with fail
                        go_at_call 46
                        refine (c2.out _).mono ?_
                        rintro e w' ⟨rfl, rfl⟩
                        go_wp2_with fail
                        refine bodyPost_ret (results_line rfl _ _ g ⟨#[]⟩ ⟨#[]⟩ rfl (set_head _ g _ _ _ _ d4 d5).1 (set_head _ g _ _ _ _ d4 d5).2) rfl ?_
                        rw [E.out]
                        exact ⟨rfl, by rw [hg]; exact set_head_below D8.out (Nat.le_refl _) _ _⟩
                      · exfalso; omega
                    | true =>
                      have c2 := Lib.hid fun w => isValue_ref V w sz2 true q2
                      have E := lineP_good (l := s.data.toList) (by rw [← HSL.out]; exact h300) M1.out (by rw [HM2.out, T.out]; unfold okH; rw [q1, q2]; rfl)
                      rw [HM2.out, T.out] at E
                      have E := Lib.hid E
                      clear q1 q2
                      rcases cx with x1 | ⟨x1, x4, cb⟩
                      · go_wp2_with fail
                        go_region
                        generalize (w1.alloc (.cells #[.string N, .string V] 28)).drew = w2 at *
                        have d1 := D1.out
                        have d2 := D2.out
                        have d4 := D4.out
                        have d5 := D5.out
                        have d6 := D6.out
                        have d7 := D7.out
                        clear D1 D2 D6 D7 a1 a2 a3 a4
                        go_wp2_with fail
                        go_at_call 45
                        refine (c1.out _).mono ?_
                        rintro e w' ⟨rfl, rfl⟩
                        go_wp2_with fail
                        go_at_call 46
                        refine (c2.out _).mono ?_
                        rintro e w' ⟨rfl, rfl⟩
                        go_wp2_with fail
                        refine bodyPost_ret (results_line rfl _ _ g N V rfl (set_head _ g _ _ _ _ d4 d5).1 (set_head _ g _ _ _ _ d4 d5).2) rfl ?_
                        rw [E.out]
                        exact ⟨by rw [lineV_some]; rfl, by rw [hg]; exact set_head_below D8.out (Nat.le_refl _) _ _⟩
                      · exfalso; omega
            · clear fact
              go_wp2_with (go_at_call 55; refine (cb.out _).mono ?_; rintro e w' ⟨rfl, rfl⟩)
              clear cb
              go_loop [6] (fun i => ∃ t : Nat, f ≤ t ∧ t ≤ s.size ∧ i = .int .i64 t ∧ Hid (∀ j (hl : j < s.size), t ≤ j → blB s[j] = true)) (fun i => (intOf i).toNat)
              case atStart => exact ⟨s.size, hf2, Nat.le_refl _, by go_num, fun j h1 h2 => by omega⟩
              case round =>
                obtain ⟨t, ht1, ht2, rfl, htl⟩ := hrel
                have hx3 : (∃ h : f < t, blB (s[t - 1]'(by omega)) = true) ∨ (t = f ∧ (∀ h : f < t, blB (s[t - 1]'(by omega)) = false)) ∨ (∃ h : f < t, blB (s[t - 1]'(by omega)) = false) := by
                  by_cases h : f < t
                  · cases hq : blB (s[t - 1]'(by omega))
                    · exact .inr (.inr ⟨h, hq⟩)
                    · exact .inl ⟨h, hq⟩
                  · exact .inr (.inl ⟨by omega, fun h' => absurd h' h⟩)
                rcases hx3 with ⟨h, hq⟩ | hx3
                · have htl' : Hid (∀ j (hl : j < s.size), t - 1 ≤ j → blB s[j] = true) := fun j hl h1 => by
                    by_cases e : j = t - 1
                    · subst e; exact hq
                    · exact htl.out j hl (by omega)
                  have cb := Lib.hid fun w => blank_ref (s[t - 1]'(by omega)) w true hq
                  clear hq htl
                  have x1 : (0 : Int) ≤ (t : Int) - 1 := by omega
                  have x2 : (t : Int) - 1 < s.size := by omega
                  have x3 : ((t : Int) - 1).toNat = t - 1 := by omega
                  go_wp2_with (go_at_call 55; refine (cb.out _).mono ?_; rintro e w' ⟨rfl, rfl⟩)
                  go_round
                  case rel => exact ⟨t - 1, by omega, by omega, by go_num, htl'⟩
                  case measure => simp [intOf] <;> omega
                · have hte : ∀ h : f < t, blB (s[t - 1]'(by omega)) = false := by
                    rcases hx3 with ⟨_, h⟩ | ⟨h, h'⟩
                    · exact h
                    · exact fun _ => h'
                  have T := trimAt (m := k + 1) hf1 ht1 ht2 hfl.out hfe.out htl.out hte
                  rw [← M3.out] at T
                  have T := Lib.hid T
                  have cx : (t : Int) ≤ f ∨ (f < t ∧ ∃ h : t - 1 < s.size, Hid (∀ w : World, Calls Tryd.prog 55 #[.int .u8 ((s[t - 1]'h).toNat : Int)] w fun e w' => e = .returned (.bool false) ∧ w = w')) := by
                    rcases hx3 with ⟨h, _⟩ | ⟨h, h'⟩
                    · exact .inl (by omega)
                    · exact .inr ⟨h, by omega, fun w => blank_ref _ w false h'⟩
                  clear hx3 hte htl
                  have n1 := extract_take s k
                  have n2 := extract_mid s f t
                  have H2 := M2.out
                  rw [← n1] at H2
                  have HM2 := Lib.hid H2
                  clear H2 n1
                  have sz1 : (s.extract 0 k).size ≤ maxLen := by rw [extract_size s k hk]; unfold maxLen; omega
                  have sz2 : (s.extract f t).size ≤ maxLen := by rw [Lib.size_eq, n2, List.length_drop, List.length_take, ← Lib.size_eq]; unfold maxLen; omega
                  clear n2
                  have g1 : (0 : Int) ≤ f := by omega
                  have g2 : (f : Int) ≤ t := by omega
                  have g3 : (t : Int) ≤ s.size := by omega
                  have g4 : (k : Int) ≤ s.size := by omega
                  have g5 : (0 : Int) ≤ k := by omega
                  generalize hN : s.extract 0 k = N at *
                  generalize hV : s.extract f t = V at *
                  have W2 : ∀ w1 : World, ((w1.alloc (.cells #[.string N, .string V] 28)).drew).cell? ⟨w1.heap.size, 0, none⟩ = some (.string N) ∧ ((w1.alloc (.cells #[.string N, .string V] 28)).drew).cell? ⟨w1.heap.size, 1, none⟩ = some (.string V) ∧ Below w1.heap.size w1 ((w1.alloc (.cells #[.string N, .string V] 28)).drew) := fun w1 =>
                    ⟨(alloc_head w1 _ _).1, (alloc_head w1 _ _).2, below_drewN (below_new w1 _) 1⟩
                  obtain ⟨d1, d2, d3⟩ := W2 w1
                  have d4 := (d3.cell (p := ⟨g, 0, none⟩) hlt0).trans a1
                  have d5 := (d3.cell (p := ⟨g, 1, none⟩) hlt0).trans a2
                  have d6 := (d3.frozen (p := ⟨g, 0, none⟩) hlt0).trans a3
                  have d7 := (d3.frozen (p := ⟨g, 1, none⟩) hlt0).trans a4
                  have d8 := hb0.trans (d3.mono (Nat.le_of_lt hlt0))
                  have D1 := Lib.hid d1
                  have D2 := Lib.hid d2
                  have D4 := Lib.hid d4
                  have D5 := Lib.hid d5
                  have D6 := Lib.hid d6
                  have D7 := Lib.hid d7
                  have D8 := Lib.hid d8
                  clear d1 d2 d3 d4 d5 d6 d7 d8 W2
                  cases q1 : isNm N.data.toList with
                  | false =>
                    have c1 := Lib.hid fun w => isName_ref N w sz1 false q1
                    have E := Lib.hid (lineP_bad (l := s.data.toList) (by rw [HM2.out]; unfold okH; rw [q1]; rfl))
                    clear q1
                    rcases cx with x1 | ⟨x1, x4, cb⟩
                    · go_wp2_with fail
                      go_region
                      generalize (w1.alloc (.cells #[.string N, .string V] 28)).drew = w2 at *
                      have d1 := D1.out
                      have d2 := D2.out
                      have d4 := D4.out
                      have d5 := D5.out
                      have d6 := D6.out
                      have d7 := D7.out
                      clear D1 D2 D6 D7 a1 a2 a3 a4
                      go_wp2_with fail
                      go_at_call 45
                      refine (c1.out _).mono ?_
                      rintro e w' ⟨rfl, rfl⟩
                      go_wp2_with fail
                      refine bodyPost_ret (results_line rfl _ _ g ⟨#[]⟩ ⟨#[]⟩ rfl (set_head _ g _ _ _ _ d4 d5).1 (set_head _ g _ _ _ _ d4 d5).2) rfl ?_
                      rw [E.out]
                      exact ⟨rfl, by rw [hg]; exact set_head_below D8.out (Nat.le_refl _) _ _⟩
                    · have x5 : (0 : Int) ≤ (t : Int) - 1 := by omega
                      have x2 : (t : Int) - 1 < s.size := by omega
                      have x3 : ((t : Int) - 1).toNat = t - 1 := by omega
                      go_wp2_with (go_at_call 55; refine (cb.out _).mono ?_; rintro e w' ⟨rfl, rfl⟩)
                      go_region
                      generalize (w1.alloc (.cells #[.string N, .string V] 28)).drew = w2 at *
                      have d1 := D1.out
                      have d2 := D2.out
                      have d4 := D4.out
                      have d5 := D5.out
                      have d6 := D6.out
                      have d7 := D7.out
                      clear D1 D2 D6 D7 a1 a2 a3 a4
                      go_wp2_with fail
                      go_at_call 45
                      refine (c1.out _).mono ?_
                      rintro e w' ⟨rfl, rfl⟩
                      go_wp2_with fail
                      refine bodyPost_ret (results_line rfl _ _ g ⟨#[]⟩ ⟨#[]⟩ rfl (set_head _ g _ _ _ _ d4 d5).1 (set_head _ g _ _ _ _ d4 d5).2) rfl ?_
                      rw [E.out]
                      exact ⟨rfl, by rw [hg]; exact set_head_below D8.out (Nat.le_refl _) _ _⟩
                  | true =>
                    have c1 := Lib.hid fun w => isName_ref N w sz1 true q1
                    cases q2 : isVl V.data.toList with
                    | false =>
                      have c2 := Lib.hid fun w => isValue_ref V w sz2 false q2
                      have E := Lib.hid (lineP_bad (l := s.data.toList) (by rw [HM2.out, T.out]; unfold okH; rw [q1, q2]; rfl))
                      clear q1 q2
                      rcases cx with x1 | ⟨x1, x4, cb⟩
                      · go_wp2_with fail
                        go_region
                        generalize (w1.alloc (.cells #[.string N, .string V] 28)).drew = w2 at *
                        have d1 := D1.out
                        have d2 := D2.out
                        have d4 := D4.out
                        have d5 := D5.out
                        have d6 := D6.out
                        have d7 := D7.out
                        clear D1 D2 D6 D7 a1 a2 a3 a4
                        go_wp2_with fail
                        go_at_call 45
                        refine (c1.out _).mono ?_
                        rintro e w' ⟨rfl, rfl⟩
                        go_wp2_with fail
                        go_at_call 46
                        refine (c2.out _).mono ?_
                        rintro e w' ⟨rfl, rfl⟩
                        go_wp2_with fail
                        refine bodyPost_ret (results_line rfl _ _ g ⟨#[]⟩ ⟨#[]⟩ rfl (set_head _ g _ _ _ _ d4 d5).1 (set_head _ g _ _ _ _ d4 d5).2) rfl ?_
                        rw [E.out]
                        exact ⟨rfl, by rw [hg]; exact set_head_below D8.out (Nat.le_refl _) _ _⟩
                      · have x5 : (0 : Int) ≤ (t : Int) - 1 := by omega
                        have x2 : (t : Int) - 1 < s.size := by omega
                        have x3 : ((t : Int) - 1).toNat = t - 1 := by omega
                        go_wp2_with (go_at_call 55; refine (cb.out _).mono ?_; rintro e w' ⟨rfl, rfl⟩)
                        go_region
                        generalize (w1.alloc (.cells #[.string N, .string V] 28)).drew = w2 at *
                        have d1 := D1.out
                        have d2 := D2.out
                        have d4 := D4.out
                        have d5 := D5.out
                        have d6 := D6.out
                        have d7 := D7.out
                        clear D1 D2 D6 D7 a1 a2 a3 a4
                        go_wp2_with fail
                        go_at_call 45
                        refine (c1.out _).mono ?_
                        rintro e w' ⟨rfl, rfl⟩
                        go_wp2_with fail
                        go_at_call 46
                        refine (c2.out _).mono ?_
                        rintro e w' ⟨rfl, rfl⟩
                        go_wp2_with fail
                        refine bodyPost_ret (results_line rfl _ _ g ⟨#[]⟩ ⟨#[]⟩ rfl (set_head _ g _ _ _ _ d4 d5).1 (set_head _ g _ _ _ _ d4 d5).2) rfl ?_
                        rw [E.out]
                        exact ⟨rfl, by rw [hg]; exact set_head_below D8.out (Nat.le_refl _) _ _⟩
                    | true =>
                      have c2 := Lib.hid fun w => isValue_ref V w sz2 true q2
                      have E := lineP_good (l := s.data.toList) (by rw [← HSL.out]; exact h300) M1.out (by rw [HM2.out, T.out]; unfold okH; rw [q1, q2]; rfl)
                      rw [HM2.out, T.out] at E
                      have E := Lib.hid E
                      clear q1 q2
                      rcases cx with x1 | ⟨x1, x4, cb⟩
                      · go_wp2_with fail
                        go_region
                        generalize (w1.alloc (.cells #[.string N, .string V] 28)).drew = w2 at *
                        have d1 := D1.out
                        have d2 := D2.out
                        have d4 := D4.out
                        have d5 := D5.out
                        have d6 := D6.out
                        have d7 := D7.out
                        clear D1 D2 D6 D7 a1 a2 a3 a4
                        go_wp2_with fail
                        go_at_call 45
                        refine (c1.out _).mono ?_
                        rintro e w' ⟨rfl, rfl⟩
                        go_wp2_with fail
                        go_at_call 46
                        refine (c2.out _).mono ?_
                        rintro e w' ⟨rfl, rfl⟩
                        go_wp2_with fail
                        refine bodyPost_ret (results_line rfl _ _ g N V rfl (set_head _ g _ _ _ _ d4 d5).1 (set_head _ g _ _ _ _ d4 d5).2) rfl ?_
                        rw [E.out]
                        exact ⟨by rw [lineV_some]; rfl, by rw [hg]; exact set_head_below D8.out (Nat.le_refl _) _ _⟩
                      · have x5 : (0 : Int) ≤ (t : Int) - 1 := by omega
                        have x2 : (t : Int) - 1 < s.size := by omega
                        have x3 : ((t : Int) - 1).toNat = t - 1 := by omega
                        go_wp2_with (go_at_call 55; refine (cb.out _).mono ?_; rintro e w' ⟨rfl, rfl⟩)
                        go_region
                        generalize (w1.alloc (.cells #[.string N, .string V] 28)).drew = w2 at *
                        have d1 := D1.out
                        have d2 := D2.out
                        have d4 := D4.out
                        have d5 := D5.out
                        have d6 := D6.out
                        have d7 := D7.out
                        clear D1 D2 D6 D7 a1 a2 a3 a4
                        go_wp2_with fail
                        go_at_call 45
                        refine (c1.out _).mono ?_
                        rintro e w' ⟨rfl, rfl⟩
                        go_wp2_with fail
                        go_at_call 46
                        refine (c2.out _).mono ?_
                        rintro e w' ⟨rfl, rfl⟩
                        go_wp2_with fail
                        refine bodyPost_ret (results_line rfl _ _ g N V rfl (set_head _ g _ _ _ _ d4 d5).1 (set_head _ g _ _ _ _ d4 d5).2) rfl ?_
                        rw [E.out]
                        exact ⟨by rw [lineV_some]; rfl, by rw [hg]; exact set_head_below D8.out (Nat.le_refl _) _ _⟩
      · have hall' : Hid (∀ j (hj : j < k + 1) (hl : j < s.size), s[j].toNat ≠ 58) := fun j hj hl => by
          by_cases e : j = k
          · subst e; exact h58
          · exact hall.out j (by omega) hl
        have e2 : ((s[k].toNat : Int) != 58) = true := by simp; omega
        clear hall h58
        go_wp2_with fail
        go_round
        case rel => exact ⟨k + 1, by omega, by go_num, hall'⟩
        case measure => simp [intOf]; omega
    · have hno : 58 ∉ s.data.toList := no58 fun j hj e => by
        have hj' : j < s.size := by rw [HSL.out]; exact hj
        rw [at_list s j hj'] at e
        exact hall.out j (by omega) hj' (by rw [e]; rfl)
      have E := Lib.hid (lineP_no hno)
      clear hno hall
      have e1 : ((k : Int) == s.size) = true := by rw [show k = s.size by omega]; exact beq_self_eq_true _
      go_wp2_with fail
      refine bodyPost_ret (results_line rfl _ _ g ⟨#[]⟩ ⟨#[]⟩ rfl ?_ ?_) rfl ?_
      · exact (set_head _ g _ _ _ _ a1 a2).1
      · exact (set_head _ g _ _ _ _ a1 a2).2
      · rw [E.out]
        exact ⟨rfl, set_head_below hb0 (Nat.le_refl _) _ _⟩
end Go.Proofs.YtfiioojnmjnmmaaDoor
