/- The walks of both functions Words: the words of every line of at most 10^9 bytes, or ErrForm and no words. -/
import Derived.Test.YtjhppekoinpheaaDoorWb
import Derived.Deep.LoopGhost
namespace Go.Proofs.YtjhppekoinpheaaDoor
open Go Go.RowKit

def WordsLeft (w : World) (l : List UInt8) (e : Ending) (w' : World) : Prop :=
  (Pl.allOk l = true ∧ (∃ v, e = .returned (.tuple #[v, .int .i64 0]) ∧ Own w' w.heap.size v (Pl.words l)) ∧ Below w.heap.size w w') ∨
  (Pl.allOk l = false ∧ e = .returned (.tuple #[.slice none 0 0, .int .i64 4]) ∧ Below w.heap.size w w')

theorem scan_len {l rest : List UInt8} {out : List (List UInt8)} (h : Pl.Scan l rest out) : out.length ≤ l.length := by
  have h2 := congrArg List.length h.2
  have h3 := Pl.words_len l
  rw [List.length_append] at h2; omega
theorem iter_below {w wr : World} (h : Below w.heap.size w wr) (s : ByteArray) (k : Nat) : Below w.heap.size w (wr.iter s k) := h.alloc h.size _
theorem Own.iter {w : World} {base : Nat} {v : Value} {ws : List (List UInt8)} (h : Own w base v ws) (s : ByteArray) (k : Nat) : Own (w.iter s k) base v ws := World.ownsRow.alloc h _

set_option maxHeartbeats 1000000 in
theorem words_any (s : ByteArray) (w : World) (hs : s.size ≤ 1000000000) : Calls Tryd.prog 13 #[.string s] w (WordsLeft w s.data.toList) := by
  go_enter Tryd.func13, Tryd.ntmps13
  go_wp2
  go_step3
  go_wp2
  go_step3
  go_wp2
  go_loopg [4, 5] s.size (fun g s4 s5 wx => ∃ (out : List (List UInt8)) (rest : ByteArray), s5 = .string rest ∧ rest.size ≤ g ∧ rest.size ≤ 1000000000 ∧ Own wx w.heap.size s4 out ∧ Hid (Pl.Scan s.data.toList rest.data.toList out) ∧ Below w.heap.size w wx)
  case atStart => exact ⟨[], s, rfl, Nat.le_refl _, hs, Own.nil _ _, Pl.scan_start _, Below.refl _ _⟩
  case round =>
    obtain ⟨out, rest, rfl, hg, hr, hown, hsc, hb⟩ := hrel
    have hlen : out.length ≤ 1000000000 := by have := scan_len hsc.out; rw [← Lib.size_eq] at this; omega
    by_cases hne : rest.data.toList = []
    · have h1 : rest.toList.isEmpty = true := by rw [Lib.toList_data, hne]; rfl
      have hfin : Hid (Pl.allOk s.data.toList = true ∧ Pl.words s.data.toList = out) := Pl.scan_done (by have := hsc.out; rwa [hne] at this)
      clear hsc hne
      go_wp2
      try rw [Exit.noGoto_ret]
      go_ret2
      exact .inl ⟨hfin.out.1, ⟨_, rfl, by rw [hfin.out.2]; exact hown⟩, hb⟩
    · have h1 : rest.toList.isEmpty = false := by rw [Lib.toList_data]; simpa using hne
      have Hne := Lib.hid hne
      clear hne
      obtain ⟨wo, rfl⟩ : ∃ wo : World, wo = wr := ⟨_, rfl⟩
      obtain ⟨go, rfl⟩ : ∃ go : Nat, go = gk := ⟨_, rfl⟩
      obtain ⟨vo, rfl⟩ : ∃ vo : Value, vo = u4 := ⟨_, rfl⟩
      go_wp2
      go_loopg [4, 5] rest.size (fun g2 s4 s5 wy => ∃ pos : Nat, s4 = vo ∧ s5 = .string rest ∧ pos + g2 = rest.size ∧ wy = wo.iter rest pos ∧ Hid ((rest.data.toList.take pos).all Pl.wb = true))
      case atStart => exact ⟨0, rfl, rfl, by omega, rfl, by simp [Hid]⟩
      case round =>
        obtain ⟨pos, rfl, rfl, hpg, rfl, hall⟩ := hrel
        cases gk with
        | zero =>
          have hnx : ∀ ty, (Instr.next (.pointer (some ⟨wo.heap.size, 0, none⟩)) true ty).run Tryd.prog (wo.iter rest pos) = _ := fun ty => run_next_end wo rest pos ty (by omega)
          have hfin : Hid (Pl.allOk s.data.toList = true ∧ Pl.words s.data.toList = out ++ [rest.data.toList]) :=
            Pl.scan_end hsc.out (by have := hall.out; rwa [take_all rest (by omega)] at this) Hne.out
          clear hsc hall
          go_wp2_with (first
            | (go_at_call 28; refine (clone_any _ _ (by omega)).mono ?_; rintro e w2 ⟨rfl, hb2⟩)
            | (at_builtin; refine wpList_push rfl (.tmp 37) (.tmp 40) rfl w2 w.heap.size _ out _ rfl ((hown.iter rest pos).below hb2) rfl (Nat.le_trans (iter_below hb rest pos).size hb2.size) hlen ?_; intro v3 w3 hown3 hb3))
          try rw [Exit.noGoto_ret]
          go_ret2
          exact .inl ⟨hfin.out.1, ⟨_, rfl, by rw [hfin.out.2]; exact hown3⟩, ((iter_below hb rest pos).trans (hb2.mono (iter_below hb rest pos).size)).trans hb3⟩
        | succ g2 =>
          have hlt : pos < rest.size := by omega
          have hlt' : pos < rest.data.toList.length := by rw [← Lib.size_eq]; exact hlt
          by_cases hi : rest[pos].toNat < 128
          · have hnx : ∀ ty, (Instr.next (.pointer (some ⟨wo.heap.size, 0, none⟩)) true ty).run Tryd.prog (wo.iter rest pos) = _ := fun ty => run_next_ascii wo rest pos ty hlt hi
            by_cases hc : rest[pos].toNat = 32
            · have hcv : rest.data.toList[pos] = 32 := by rw [at_list rest pos hlt]; exact Pl.eq32.2 hc
              have hsc' := Lib.hid (Pl.scan_blank hsc.out hlt' hcv hall.out)
              have hc' : ((rest[pos].toNat : Int) == 32) = true := by rw [beq_iff_eq]; omega
              clear hsc hall hc hcv
              by_cases hp0 : pos = 0
              · have hsc2 : Hid (Pl.Scan s.data.toList (rest.extract (pos + 1) rest.size).data.toList out) := by
                  have := hsc'.out; rw [if_pos hp0, List.append_nil] at this; rw [Lib.extract_to_end]; exact this
                clear hsc'
                have hp1 : pos ≤ 0 := by omega
                clear hp0
                go_wp2
                go_roundg (rest.size - (pos + 1))
                case measure => omega
                case rel => exact ⟨out, _, rfl, by simp, by simp; omega, hown.iter rest _, hsc2, iter_below hb rest _⟩
              · have hp1 : 0 < pos := by omega
                have hsc2 : Hid (Pl.Scan s.data.toList (rest.extract (pos + 1) rest.size).data.toList (out ++ [(rest.extract 0 pos).data.toList])) := by
                  have := hsc'.out; rw [if_neg hp0] at this; rw [Lib.extract_to_end, piece rest (by omega)]; exact this
                clear hsc' hp0
                go_wp2_with (first
                  | (go_at_call 28; refine (clone_any _ _ (by simp; omega)).mono ?_; rintro e w2 ⟨rfl, hb2⟩)
                  | (at_builtin; refine wpList_push rfl (.tmp 22) (.tmp 27) rfl w2 w.heap.size _ out _ rfl ((hown.iter rest _).below hb2) rfl (Nat.le_trans (iter_below hb rest _).size hb2.size) hlen ?_; intro v3 w3 hown3 hb3))
                go_roundg (rest.size - (pos + 1))
                case measure => omega
                case rel => exact ⟨_, _, rfl, by simp, by simp; omega, hown3, hsc2, ((iter_below hb rest _).trans (hb2.mono (iter_below hb rest _).size)).trans hb3⟩
            · have hc' : ((rest[pos].toNat : Int) == 32) = false := by rw [beq_eq_false_iff_ne]; omega
              by_cases h1 : 33 ≤ rest[pos].toNat ∧ rest[pos].toNat ≤ 126
              · obtain ⟨ha, hb'⟩ := h1
                go_wp2_with (go_at_call 29; refine (inWord_yes _ _ (by omega) (by omega)).mono ?_; rintro e w' ⟨rfl, rfl⟩)
                go_roundg g2
                case measure => omega
                case rel => exact ⟨pos + 1, rfl, rfl, by omega, rfl, all_step rest pos hlt hall.out (Pl.wb_true ha hb')⟩
              · have hfin : Hid (Pl.allOk s.data.toList = false) := Pl.scan_bad hsc.out hlt' (by rw [at_list rest pos hlt]; exact fun e => hc (Pl.eq32.1 e))
                  (by rw [at_list rest pos hlt]; rcases Nat.lt_or_ge rest[pos].toNat 33 with h | h; exact Pl.wb_low h; exact Pl.wb_high (by omega))
                go_wp2_with (go_at_call 29; refine (inWord_no _ _ (by omega)).mono ?_; rintro e w' ⟨rfl, rfl⟩)
                try rw [Exit.noGoto_ret]
                go_ret2
                exact .inr ⟨hfin.out, rfl, iter_below hb rest _⟩
          · have hnx : ∀ ty, (Instr.next (.pointer (some ⟨wo.heap.size, 0, none⟩)) true ty).run Tryd.prog (wo.iter rest pos) = _ := fun ty => run_next_any wo rest pos ty hlt
            have hfin : Hid (Pl.allOk s.data.toList = false) := Pl.scan_bad hsc.out hlt' (by rw [at_list rest pos hlt]; exact fun e => hi (by rw [e]; decide))
              (by rw [at_list rest pos hlt]; exact Pl.wb_high (by omega))
            have hd := (decode_high rest pos hlt (by omega)).1
            generalize Utf8.decode rest pos = d at hnx hd
            have hc' : ((d.1 : Int) == 32) = false := by rw [beq_eq_false_iff_ne]; omega
            go_wp2_with (go_at_call 29; refine (inWord_no _ _ (by omega)).mono ?_; rintro e w' ⟨rfl, rfl⟩)
            try rw [Exit.noGoto_ret]
            go_ret2
            exact .inr ⟨hfin.out, rfl, iter_below hb rest _⟩
/-- The reference's loop: at k the word begun at fr; behind the end all of it. -/
def RRel (l : List UInt8) (out : List (List UInt8)) (fr k n : Nat) : Prop :=
  (k ≤ n ∧ fr ≤ k ∧ Pl.RScan l out fr k) ∨ (k = n + 1 ∧ Pl.allOk l = true ∧ Pl.words l = out)
theorem RRel.mid {l : List UInt8} {out : List (List UInt8)} {fr k n : Nat} (h : RRel l out fr k n) (hk : k ≤ n) : fr ≤ k ∧ Pl.RScan l out fr k := by
  rcases h with ⟨_, h1, h2⟩ | ⟨h1, _⟩
  · exact ⟨h1, h2⟩
  · omega
theorem RRel.fin {l : List UInt8} {out : List (List UInt8)} {fr k n : Nat} (h : RRel l out fr k n) (hk : ¬ k ≤ n) : Pl.allOk l = true ∧ Pl.words l = out := by
  rcases h with ⟨h1, _⟩ | ⟨_, h1, h2⟩
  · omega
  · exact ⟨h1, h2⟩

set_option maxHeartbeats 1000000 in
theorem refWords_any (s : ByteArray) (w : World) (hs : s.size ≤ 1000000000) : Calls Tryd.prog 14 #[.string s] w (WordsLeft w s.data.toList) := by
  have hsz := Lib.size_eq s
  have HS := Lib.hid hsz
  clear hsz
  go_enter Tryd.func14, Tryd.ntmps14
  go_wp2
  go_loopw [4, 5, 6] (fun v f i wr => ∃ (out : List (List UInt8)) (fr k : Nat), f = .int .i64 fr ∧ i = .int .i64 k ∧ fr ≤ s.size + 1 ∧ k ≤ s.size + 1 ∧ Own wr w.heap.size v out ∧ Hid (RRel s.data.toList out fr k s.size) ∧ out.length ≤ k ∧ Below w.heap.size w wr) (fun _ _ i _ => s.size + 1 - (intOf i).toNat)
  case atStart => exact ⟨[], 0, 0, rfl, rfl, Nat.zero_le _, Nat.zero_le _, Own.nil _ _, .inl ⟨Nat.zero_le _, Nat.le_refl _, Pl.rscan_start _⟩, by simp, Below.refl _ _⟩
  case round =>
    obtain ⟨out, fr, k, rfl, rfl, hfs, hk, hown, hrr, hlen, hb⟩ := hrel
    by_cases hin : k ≤ s.size
    · obtain ⟨hf, hsc⟩ := hrr.out.mid hin
      have Hsc := Lib.hid hsc
      clear hrr hsc
      by_cases hlt : k < s.size
      · have hlt' : k < s.data.toList.length := by rw [← HS.out]; exact hlt
        by_cases hc : s[k].toNat = 32
        · have hcv : s.data.toList[k] = 32 := by rw [at_list s k hlt]; exact Pl.eq32.2 hc
          have hc' : ((s[k].toNat : Int) != 32) = false := by simp; omega
          have hc'' : ((s[k].toNat : Int) == 32) = true := by rw [beq_iff_eq]; omega
          have HC := Lib.hid hcv
          clear hc hcv
          by_cases hfr : fr < k
          · by_cases hw : Pl.isWd (s.extract fr k).data.toList = true
            · have hn := Lib.hid (Pl.rscan_blank Hsc.out hlt' hf HC.out (fun _ => by rw [piece s (by omega)] at hw; exact hw))
              rw [if_pos hfr, ← piece s (by omega)] at hn
              go_wp2_with (first
                | (go_at_call 30; refine (refIsWord_any _ _ (by unfold maxLen; simp; omega)).mono ?_; rintro e w2 ⟨rfl, rfl⟩; rw [hw])
                | (at_builtin; refine wpList_push rfl (.tmp 32) (.tmp 37) rfl _ w.heap.size _ out _ rfl hown rfl hb.size (by omega) ?_; intro v3 w3 hown3 hb3))
              go_roundw
              case rel => exact ⟨_, k + 1, k + 1, by go_num, by go_num, by omega, by omega, hown3, .inl ⟨by omega, Nat.le_refl _, hn.out⟩, by simp; omega, hb.trans hb3⟩
              case measure => simp [intOf]; omega
            · have hw' : Pl.isWd (s.extract fr k).data.toList = false := by simpa using hw
              have hbad := Lib.hid (Pl.rscan_bad Hsc.out hfr (by omega) (by rw [piece s (by omega)] at hw'; exact hw'))
              clear hw
              go_wp2_with (go_at_call 30; refine (refIsWord_any _ _ (by unfold maxLen; simp; omega)).mono ?_; rintro e w2 ⟨rfl, rfl⟩; rw [hw'])
              go_ret2
              exact .inr ⟨hbad.out, rfl, hb⟩
          · have hn := Lib.hid (Pl.rscan_blank Hsc.out hlt' hf HC.out (fun h => absurd h hfr))
            rw [if_neg hfr, List.append_nil] at hn
            go_wp2
            go_roundw
            case rel => exact ⟨out, k + 1, k + 1, by go_num, by go_num, by omega, by omega, hown, .inl ⟨by omega, Nat.le_refl _, hn.out⟩, by omega, hb⟩
            case measure => simp [intOf]; omega
        · have hn := Lib.hid (Pl.rscan_more Hsc.out hlt' hf (by rw [at_list s k hlt]; exact fun e => hc (Pl.eq32.1 e)))
          have hc' : ((s[k].toNat : Int) != 32) = true := by simp; omega
          have hc'' : ((s[k].toNat : Int) == 32) = false := by rw [beq_eq_false_iff_ne]; omega
          go_wp2
          go_roundw
          case rel => exact ⟨out, fr, k + 1, rfl, by go_num, by omega, by omega, hown, .inl ⟨by omega, by omega, hn.out⟩, by omega, hb⟩
          case measure => simp [intOf]; omega
      · obtain rfl : k = s.size := by omega
        have hlen2 : s.data.toList.length = s.size := HS.out.symm
        have Hsc' : Hid (Pl.RScan s.data.toList out fr s.data.toList.length) := by show Pl.RScan _ _ _ _; rw [hlen2]; exact Hsc.out
        clear Hsc
        by_cases hfr : fr < s.size
        · by_cases hw : Pl.isWd (s.extract fr s.size).data.toList = true
          · have hn := Lib.hid (Pl.rscan_end Hsc'.out (fun _ => by rw [piece s (Nat.le_refl _), ← hlen2] at hw; exact hw))
            rw [hlen2, if_pos hfr, ← piece s (by omega)] at hn
            clear hlen2
            go_wp2_with (first
              | (go_at_call 30; refine (refIsWord_any _ _ (by unfold maxLen; simp; omega)).mono ?_; rintro e w2 ⟨rfl, rfl⟩; rw [hw])
              | (at_builtin; refine wpList_push rfl (.tmp 32) (.tmp 37) rfl _ w.heap.size _ out _ rfl hown rfl hb.size (by omega) ?_; intro v3 w3 hown3 hb3))
            go_roundw
            case rel => exact ⟨_, s.size + 1, s.size + 1, by go_num, by go_num, by omega, by omega, hown3, .inr ⟨rfl, hn.out⟩, by simp; omega, hb.trans hb3⟩
            case measure => simp [intOf]
          · have hw' : Pl.isWd (s.extract fr s.size).data.toList = false := by simpa using hw
            have hbad := Lib.hid (Pl.rscan_bad Hsc'.out (by omega) (Nat.le_refl _) (by rw [piece s (Nat.le_refl _)] at hw'; rw [hlen2]; exact hw'))
            clear hw hlen2
            go_wp2_with (go_at_call 30; refine (refIsWord_any _ _ (by unfold maxLen; simp; omega)).mono ?_; rintro e w2 ⟨rfl, rfl⟩; rw [hw'])
            go_ret2
            exact .inr ⟨hbad.out, rfl, hb⟩
        · have hn := Lib.hid (Pl.rscan_end Hsc'.out (fun h => absurd h (by omega)))
          rw [hlen2, if_neg hfr, List.append_nil] at hn
          clear hlen2
          go_wp2
          go_roundw
          case rel => exact ⟨out, s.size + 1, s.size + 1, by go_num, by go_num, by omega, by omega, hown, .inr ⟨rfl, hn.out⟩, by omega, hb⟩
          case measure => simp [intOf]
    · have hn := Lib.hid (hrr.out.fin hin)
      go_wp2
      go_ret2
      exact .inl ⟨hn.out.1, ⟨_, rfl, by rw [hn.out.2]; exact hown⟩, hb⟩

end Go.Proofs.YtjhppekoinpheaaDoor
