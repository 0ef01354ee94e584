/- Walks of the chapter's own Code and Decode: a code is the sum of the bits of all below. -/
import Derived.Test.YtaikhdmgcffflaaDoorYa
import Derived.Test.YtaikhdmgcffflaaDoorVb
namespace Go.Proofs.YtaikhdmgcffflaaDoor
open Go Go.RowKit

/-- The sum of the bits. -/
def sumP (l : List Nat) : Nat := l.foldl (fun c x => c + 2 ^ x) 0
theorem sumP_take (l : List Nat) (k : Nat) (hk : k < l.length) : sumP (l.take (k + 1)) = sumP (l.take k) + 2 ^ l[k] := by
  unfold sumP
  rw [List.take_succ_eq_append_getElem hk, List.foldl_append]
  rfl
theorem sumP_bits (s : Nat) : ∀ m, sumP ((List.range m).filter fun a => s.testBit a) = s % 2 ^ m
  | 0 => by simp [sumP, Nat.mod_one]
  | m + 1 => by
    have ih := sumP_bits s m
    unfold sumP at ih ⊢
    rw [List.range_succ, List.filter_append, List.foldl_append, ih, Nat.pow_succ, Nat.mod_mul]
    have hb := Nat.testBit_eq_decide_div_mod_eq (x := s) (i := m)
    have h2 : s / 2 ^ m % 2 < 2 := Nat.mod_lt _ (by decide)
    by_cases h : s / 2 ^ m % 2 = 1
    · rw [decide_eq_true h] at hb
      simp [hb, h]
    · rw [decide_eq_false h] at hb
      have h0 : s / 2 ^ m % 2 = 0 := by omega
      simp [hb, h0]
theorem sumP_down {n : Nat} {A : Nat → Nat} (g : Good n A) (hn : n ≤ 10) {a : Nat} (ha : a < n) : sumP (dnL n A a) = clo A a := by
  rw [← els_down g ha, els, sumP_bits]
  exact Nat.mod_eq_of_lt (Nat.lt_trans (clo_lt10 g hn ha) (by decide))
theorem sumP_le (l : List Nat) (k : Nat) : sumP (l.take k) ≤ sumP l := by
  have : ∀ (q : List Nat) (c : Nat), c ≤ q.foldl (fun c x => c + 2 ^ x) c := by
    intro q
    induction q with
    | nil => intro c; exact Nat.le_refl _
    | cons x q ih => intro c; exact Nat.le_trans (Nat.le_add_right _ _) (ih _)
  have e : sumP l = (l.drop k).foldl (fun c x => c + 2 ^ x) (sumP (l.take k)) := by
    unfold sumP
    rw [← List.foldl_append, List.take_append_drop]
  rw [e]
  exact this _ _

theorem lrCode_any {w : World} {base b o n : Nat} {v v2 : Value} {Le : Nat → Bool} {J M : Nat → Int} {L : List (Nat × Nat)} (h : LatR w b o n v Le J M) (hr : Ref w base o n v2 L) (f : Fine n L) (g : Good n (ofL L)) (hn : n ≤ 10) (a : Nat) (ha : a < n) :
    Calls Tryd.prog 37 #[.pointer (some ⟨b, 0, none⟩), .int .i64 a] w fun e w' => e = .returned (.int .i64 (clo (ofL L) a : Nat)) ∧ Below w.heap.size w w' := by
  have h1 := h.ord
  have hs := sumP_down g hn ha
  have hlt := clo_lt10 g hn ha
  have hall : ∀ x ∈ dnL n (ofL L) a, x < 10 := fun x hx => by
    have := List.mem_range.1 (List.mem_filter.1 hx).1
    omega
  have con := Lib.hid (refDown_yes base o n v2 L a w hr f ha)
  generalize hl : dnL n (ofL L) a = l at *
  generalize hc : clo (ofL L) a = c at *
  have hle : ∀ k, sumP (l.take k) ≤ c := fun k => hs ▸ sumP_le l k
  have HS := Lib.hid hs
  have HL := Lib.hid hle
  have HALL := Lib.hid hall
  have hlen : l.length ≤ 16 := by
    have := List.length_filter_le (fun b => le (ofL L) b a) (List.range n)
    rw [show (List.range n).filter (fun b => le (ofL L) b a) = l from hl, List.length_range] at this
    omega
  clear h hr f g hl hc hs hle hall
  go_enter Tryd.func37, Tryd.ntmps37
  go_wp2_with fail
  refine Calls.mono con.out ?_
  rintro e w' ⟨vd, rfl, hns, hb⟩
  obtain ⟨Ad, cd, rfl, hrd⟩ : ∃ A c, vd = .slice A l.length c ∧ Rd w' A (nv l) := hns
  have HR := Lib.hid hrd
  have HB := Lib.hid hb
  clear con hrd hb
  go_wp2_with fail
  go_loop [5, 7] (fun u i => ∃ k : Nat, k ≤ l.length ∧ i = .int .i64 k ∧ u = .int .i64 (sumP (l.take k) : Nat)) (fun _ i => l.length - (intOf i).toNat)
  case atStart => exact ⟨0, Nat.zero_le _, rfl, rfl⟩
  case round =>
    obtain ⟨k, hk, rfl, rfl⟩ := hrel
    by_cases hk2 : k < l.length
    · obtain ⟨bb, off, rfl, hbb, hcc⟩ := HR.out.nat k hk2
      have hst := Lib.hid (sumP_take l k hk2)
      have hx := HALL.out l[k] (List.getElem_mem hk2)
      have m1 := HL.out (k + 1)
      rw [hst.out] at m1
      have k1 : (0 : Int) ≤ k := by omega
      have k2 : (k : Int) < l.length := by omega
      generalize l[k] = x at hcc hst hx m1
      have hshl : IntKind.i64.wrap ((2 : Int) ^ x) = ((2 ^ x : Nat) : Int) := by
        have := wrap_i64_small (2 ^ x) (by omega)
        simpa using this
      have x1 : (0 : Int) ≤ x := by omega
      have x2 : (x : Int) < 10 := by omega
      generalize hp : 2 ^ x = p at *
      generalize sumP (l.take k) = c0 at *
      have hsum : IntKind.i64.wrap ((c0 : Int) + p) = ((c0 + p : Nat) : Int) := by
        rw [← Int.natCast_add]; exact wrap_i64_small (c0 + p) (by omega)
      clear hp
      go_wp2_with fail
      go_round
      case rel => exact ⟨k + 1, by omega, by go_num, by rw [hst.out]; simp⟩
      case measure => simp [intOf]; omega
    · have e : l.take k = l := List.take_of_length_le (by omega)
      rw [e, HS.out]
      go_wp2_with fail
      go_ret
      exact ⟨rfl, HB.out⟩

theorem lrDecode_any {w : World} {base b o n : Nat} {v v2 : Value} {Le : Nat → Bool} {J M : Nat → Int} {L : List (Nat × Nat)} (h : LatR w b o n v Le J M) (hr : Ref w base o n v2 L) (f : Fine n L) (g : Good n (ofL L)) (hn : n ≤ 10) (c : Int) :
    Calls Tryd.prog 13 #[.pointer (some ⟨b, 0, none⟩), .int .i64 c] w fun e w' => e = .returned (.tuple #[.int .i64 (decV n (ofL L) c).1, .int .i64 (decV n (ofL L) c).2]) ∧ Below w.heap.size w w' := by
  have HH := Lib.hid h
  have HR := Lib.hid hr
  clear h hr
  go_enter Tryd.func13, Tryd.ntmps13
  go_wp2_with fail
  go_loopw [6] (fun i wr => ∃ k : Nat, k ≤ n ∧ i = .int .i64 k ∧ Hid (∀ x, x < k → (((clo (ofL L) x : Nat) : Int) == c) = false) ∧ Below w.heap.size w wr) (fun i _ => n - (intOf i).toNat)
  case atStart => exact ⟨0, Nat.zero_le _, rfl, fun x hx => by omega, Below.refl _ _⟩
  case round =>
    obtain ⟨k, hk, rfl, hall, hb⟩ := hrel
    have H2 := Lib.hid (HH.out.below hb)
    have R2 := Lib.hid (HR.out.below hb)
    have h1 := H2.out.ord
    have h2 := H2.out.many
    have HB := Lib.hid hb
    clear hb
    by_cases hlt : k < n
    · have con := Lib.hid (lrCode_any H2.out R2.out f g hn k hlt)
      obtain ⟨q, hq⟩ : ∃ q, q = clo (ofL L) k := ⟨_, rfl⟩
      rw [← hq] at con
      have HQ := Lib.hid hq
      clear hq
      go_wp2_with fail
      refine Calls.mono con.out ?_
      rintro e w2 ⟨rfl, hb2⟩
      have B2 := HB.out.trans (hb2.mono HB.out.size)
      clear con hb2
      by_cases he : (q : Int) = c
      · have hfin : Hid (decV n (ofL L) c = ((k : Int), 0)) := by
          show _ = _
          unfold decV decI
          rw [find_first hlt hall.out (by rw [← HQ.out]; simpa using he)]
        clear hall
        go_wp2_with fail
        go_ret2
        rw [hfin.out]
        exact ⟨rfl, B2⟩
      · have hall' : Hid (∀ x, x < k + 1 → (((clo (ofL L) x : Nat) : Int) == c) = false) := fun x hx => by
          rcases Nat.lt_or_ge x k with h1 | h1
          · exact hall.out x h1
          · rw [show x = k by omega, ← HQ.out]; simpa using he
        clear hall
        have he' : ((q : Int) == c) = false := by simpa using he
        go_wp2_with fail
        go_roundw
        case rel => exact ⟨k + 1, by omega, by go_num, hall', B2⟩
        case measure => simp [intOf]; omega
    · have hfin : Hid (decV n (ofL L) c = (0, 4)) := by
        show _ = _
        unfold decV decI
        rw [find_none fun x hx => hall.out x (by omega)]
      clear hall
      go_wp2_with fail
      go_ret2
      rw [hfin.out]
      exact ⟨rfl, HB.out⟩
end Go.Proofs.YtaikhdmgcffflaaDoor
