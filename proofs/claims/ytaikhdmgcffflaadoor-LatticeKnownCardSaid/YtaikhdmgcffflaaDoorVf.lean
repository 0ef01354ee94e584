/- Walks over texts: Clone, Contains, CopyTexts; which names may be. -/
import Derived.Test.YtaikhdmgcffflaaDoorVe
import Derived.Test.YtaikhdmgcffflaaDoorTe
import Derived.Test.YtaikhdmgcffflaaDoorTs
import Derived.Laws.AppendOwnNone
namespace Go.Proofs.YtaikhdmgcffflaaDoor
open Go Go.RowKit

/-- The values of a row of texts. -/
def sv (N : List (List UInt8)) : List Value := N.map strV
theorem sv_len (N : List (List UInt8)) : (sv N).length = N.length := by simp [sv]
theorem Rd.str {w : World} {A : Option Addr} {N : List (List UInt8)} (h : Rd w A (sv N)) (i : Nat) (hi : i < N.length) : ∃ b off, A = some ⟨b, off, none⟩ ∧ b < w.heap.size ∧ w.cell? ⟨b, off + i, none⟩ = some (.string ⟨N[i].toArray⟩) := by
  obtain ⟨b, off, e, hl, hc⟩ := h i (by rw [sv_len]; exact hi)
  refine ⟨b, off, e, hl, hc.trans ?_⟩
  simp [sv, strV]
theorem Rd.take {w : World} {A : Option Addr} {N : List (List UInt8)} (h : Rd w A (sv N)) (k : Nat) : Rd w A (sv (N.take k)) := fun i hi => by
  have hi' : i < N.length := by have := hi; simp [sv] at this; omega
  obtain ⟨b, off, e, hl, hc⟩ := h i (by rw [sv_len]; exact hi')
  refine ⟨b, off, e, hl, hc.trans ?_⟩
  simp [sv]
theorem mkS_size (l : List UInt8) : (⟨l.toArray⟩ : ByteArray).size = l.length := by rw [Lib.size_eq, mk_toList]

theorem clone_any (y : List UInt8) (w : World) (h : y.length ≤ 1000000) :
    Calls Tryd.prog 54 #[.string ⟨y.toArray⟩] w fun e w' => e = .returned (.string ⟨y.toArray⟩) ∧ Below w.heap.size w w' := by
  go_enter Tryd.func54, Tryd.ntmps54
  go_wp2_with (go_at_call 73; refine (Tryd.stringslite_Clone _ _ (by rw [mkS_size]; omega)).mono ?_; rintro e w' ⟨rfl, hb⟩)
  go_ret
  exact ⟨rfl, hb⟩

def nameE (y : List UInt8) : Int := if Pl.isName y then 0 else 31
theorem nameL_any (y : List UInt8) (w : World) (h : y.length ≤ maxLen) : Calls Tryd.prog 50 #[.string ⟨y.toArray⟩] w fun e w' => e = .returned (.int .i64 (nameE y)) ∧ w = w' :=
  (name_any ⟨y.toArray⟩ w (by rw [mkS_size]; exact h)).mono fun _ _ ⟨he, hw⟩ => ⟨he.trans (ret_int (by rw [mk_toList]; rfl)), hw⟩
theorem refNameL_any (y : List UInt8) (w : World) (h : y.length ≤ maxLen) : Calls Tryd.prog 57 #[.string ⟨y.toArray⟩] w fun e w' => e = .returned (.int .i64 (nameE y)) ∧ w = w' :=
  (refName_any ⟨y.toArray⟩ w (by rw [mkS_size]; exact h)).mono fun _ _ ⟨he, hw⟩ => ⟨he.trans (ret_int (by rw [mk_toList]; rfl)), hw⟩

/-- A number that tells whether a text is there. -/
def IdxOk (N : List (List UInt8)) (y : List UInt8) (r : Int) : Prop := decide (0 ≤ r) = N.contains y
/-- slices.Index. -/
theorem index_any (A : Option Addr) (c : Nat) (N : List (List UInt8)) (y : List UInt8) (w : World) (h : Rd w A (sv N)) (hn : N.length ≤ 1000000) :
    Calls Tryd.prog 68 #[.slice A N.length c, .string ⟨y.toArray⟩] w fun e w' => (∃ r : Int, e = .returned (.int .i64 r) ∧ IdxOk N y r) ∧ w = w' := by
  have HR := Lib.hid h
  clear h
  go_enter Tryd.func68, Tryd.ntmps68
  go_wp2
  go_loop [8] (fun i => ∃ k : Nat, k ≤ N.length ∧ i = .int .i64 k ∧ Hid ((N.take k).contains y = false)) (fun i => N.length - (intOf i).toNat)
  case atStart => exact ⟨0, Nat.zero_le _, rfl, by simp [Hid]⟩
  case round =>
    obtain ⟨k, hk, rfl, hall⟩ := hrel
    by_cases hlt : k < N.length
    · obtain ⟨b, off, rfl, hb, hc⟩ := HR.out.str k hlt
      have k1 : (0 : Int) ≤ k := by omega
      have k2 : (k : Int) < N.length := by omega
      have hmem := Lib.hid (List.getElem_mem hlt)
      have htk := Lib.hid (List.take_succ_eq_append_getElem hlt)
      generalize N[k] = z at *
      cases hq : (y == z) with
      | true =>
        have hfin : Hid (N.contains y = true) := by
          show _ = _
          rw [beq_iff_eq] at hq
          subst hq
          simpa using hmem.out
        clear hall htk
        go_wp2_with fail
        go_ret
        exact ⟨⟨_, rfl, by unfold IdxOk; rw [hfin.out]; simp⟩, rfl⟩
      | false =>
        have hall' : Hid ((N.take (k + 1)).contains y = false) := by
          have h1 := hall.out
          show _ = _
          rw [beq_eq_false_iff_ne] at hq
          rw [htk.out]
          simp at h1 ⊢
          exact ⟨h1, hq⟩
        clear hall htk
        go_wp2_with fail
        go_round
        case rel => exact ⟨k + 1, by omega, by go_num, hall'⟩
        case measure => simp [intOf]; omega
    · have hfin : Hid (N.contains y = false) := by
        have h1 := hall.out
        rw [List.take_of_length_le (by omega)] at h1
        exact h1
      clear hall
      go_wp2_with fail
      go_ret
      exact ⟨⟨_, rfl, by unfold IdxOk; rw [hfin.out]; decide⟩, rfl⟩
theorem contains_any (A : Option Addr) (c : Nat) (N : List (List UInt8)) (y : List UInt8) (w : World) (h : Rd w A (sv N)) (hn : N.length ≤ 1000000) :
    Calls Tryd.prog 51 #[.slice A N.length c, .string ⟨y.toArray⟩] w fun e w' => e = .returned (.bool (N.contains y)) ∧ w = w' := by
  have con := Lib.hid (index_any A c N y w h hn)
  clear h
  go_enter Tryd.func51, Tryd.ntmps51
  go_wp2_with (go_at_call 68; refine Calls.mono con.out ?_; rintro e w' ⟨⟨q, rfl, hq⟩, rfl⟩)
  go_ret
  exact ⟨ret_bool hq, rfl⟩

theorem info9 : (Tryd.prog.info? 9).map (fun i => (i.zero, i.size, i.bytes)) = some (some (.string ⟨#[]⟩), 1, 16) := by kernel_rfl
/-- CopyTexts. -/
theorem copyTexts_any (A : Option Addr) (c : Nat) (N : List (List UInt8)) (w : World) (h : Rd w A (sv N)) (hn : N.length ≤ 1000000) :
    Calls Tryd.prog 6 #[.slice A N.length c] w fun e w' => ∃ v, e = .returned v ∧ w'.ownsRow w.heap.size 9 1 v N.length (sv N) ∧ Below w.heap.size w w' := by
  obtain ⟨i0, hi, hz0, hz1, hz2⟩ := info_parts info9
  cases A with
  | none =>
    have h0 : N = [] := by
      cases N with
      | nil => rfl
      | cons y r => obtain ⟨b, off, e, _⟩ := h 0 (by simp [sv]); cases e
    subst h0
    go_enter Tryd.func6, Tryd.ntmps6
    go_wp2
    go_ret
    exact ⟨_, rfl, World.ownsRow_nil _ _ _ _, Below.refl _ _⟩
  | some a =>
    have hcell : ∀ j u, (sv N)[j]? = some u → w.cell? (a.add j) = some u := fun j u hj => by
      obtain ⟨hj1, hj2⟩ := List.getElem?_eq_some_iff.1 hj
      obtain ⟨b, off, e, hl, hc⟩ := h j hj1
      cases e
      rw [add_pl, hc, hj2]
    have h1 : ∀ u ∈ sv N, u.oneCell' = true := fun u hu => by
      obtain ⟨y, _, rfl⟩ := List.mem_map.1 hu
      rfl
    have HC := Lib.hid hcell
    have HO := Lib.hid h1
    clear h hcell h1
    go_enter Tryd.func6, Tryd.ntmps6
    go_wp2_with (at_builtin; refine wpList_append_own _ rfl (.tmp 4) (.tmp 5) 22 rfl w.heap.size 9 i0 (.string ⟨#[]⟩) 1 16 Tryd.underlying22 hi hz0 hz1 hz2 rfl (by decide) _ 0 [] rfl (World.ownsRow_nil _ _ _ _) a N.length c (sv N) rfl (by rw [sv_len, Nat.mul_one]) HC.out HO.out (by unfold maxLen; omega) (by omega) (Nat.le_refl _) ?_; intro v' w' hown hgrow _)
    go_ret
    refine ⟨_, rfl, ?_, (Below.refl _ w).grown hgrow (Nat.le_refl _) (fun k e => by cases e)⟩
    rw [Nat.zero_add, List.nil_append] at hown
    exact hown

/-- Which names may be. -/
def fineK (N : List (List UInt8)) (k : Nat) : Bool := (List.range k).all fun i => Pl.isName (N.getD i []) && !(N.take i).contains (N.getD i [])
theorem fineK_succ (N : List (List UInt8)) (k : Nat) : fineK N (k + 1) = (fineK N k && (Pl.isName (N.getD k []) && !(N.take k).contains (N.getD k []))) := by
  simp [fineK, List.range_succ]
theorem fineK_false (N : List (List UInt8)) {k j : Nat} (h : k ≤ j) (hf : fineK N k = false) : fineK N j = false := by
  unfold fineK at *
  rw [List.all_eq_false] at *
  obtain ⟨i, hi, hp⟩ := hf
  exact ⟨i, List.mem_range.2 (by have := List.mem_range.1 hi; omega), hp⟩
def fineB (N : List (List UInt8)) : Bool := fineK N N.length
def fineE (N : List (List UInt8)) : Int := if fineB N then 0 else 31

theorem checkNames_any (A : Option Addr) (c : Nat) (N : List (List UInt8)) (w : World) (h : Rd w A (sv N)) (hc : N.length ≤ c) (hn : N.length ≤ 1000000) (hL : ∀ y ∈ N, y.length ≤ maxLen) :
    Calls Tryd.prog 28 #[.slice A N.length c] w fun e w' => e = .returned (.int .i64 (fineE N)) ∧ w = w' := by
  have HR := Lib.hid h
  have HL := Lib.hid hL
  clear h hL
  go_enter Tryd.func28, Tryd.ntmps28
  go_wp2
  go_loop [8] (fun i => ∃ k : Nat, k ≤ N.length ∧ i = .int .i64 k ∧ Hid (fineK N k = true)) (fun i => N.length - (intOf i).toNat)
  case atStart => exact ⟨0, Nat.zero_le _, rfl, rfl⟩
  case round =>
    obtain ⟨k, hk, rfl, hall⟩ := hrel
    by_cases hlt : k < N.length
    · have HTK := Lib.hid (HR.out.take k)
      obtain ⟨b, off, rfl, hb, hcell⟩ := HR.out.str k hlt
      have k1 : (0 : Int) ≤ k := by omega
      have k2 : (k : Int) < N.length := by omega
      have k3 : (k : Int) ≤ c := by omega
      have hyl := HL.out _ (List.getElem_mem hlt)
      have hst := Lib.hid (fineK_succ N k)
      have hgd : N.getD k [] = N[k] := by rw [List.getD_eq_getElem?_getD, List.getElem?_eq_getElem hlt]; rfl
      rw [hgd] at hst
      clear hgd
      generalize N[k] = z at *
      have hname := nameL_any z w hyl
      have hcon := contains_any (some ⟨b, off, none⟩) c (N.take k) z w HTK.out (by rw [List.length_take]; omega)
      rw [List.length_take, Nat.min_eq_left hk] at hcon
      cases hq : Pl.isName z with
      | false =>
        have hfin : Hid (fineE N = 31) := by
          have h1 := hst.out
          rw [hq, Bool.false_and, Bool.and_false] at h1
          show _ = _
          unfold fineE fineB
          rw [fineK_false N hlt h1]
          rfl
        have he : nameE z = 31 := by unfold nameE; rw [hq]; rfl
        rw [he] at hname
        have HN := Lib.hid hname
        clear hall hst hcon he hname
        go_wp2_with (go_at_call 50; refine Calls.mono HN.out ?_; rintro e w' ⟨rfl, rfl⟩)
        go_ret
        exact ⟨ret_int hfin.out.symm, rfl⟩
      | true =>
        have he : nameE z = 0 := by unfold nameE; rw [hq]; rfl
        rw [he] at hname
        cases hq2 : (N.take k).contains z with
        | true =>
          have hfin : Hid (fineE N = 31) := by
            have h1 := hst.out
            rw [hq2, Bool.not_true, Bool.and_false, Bool.and_false] at h1
            show _ = _
            unfold fineE fineB
            rw [fineK_false N hlt h1]
            rfl
          rw [hq2] at hcon
          have HN := Lib.hid hname
          have HC := Lib.hid hcon
          clear hall hst hcon he hname hq2
          go_wp2_with (first
            | (go_at_call 50; refine Calls.mono HN.out ?_; rintro e w' ⟨rfl, rfl⟩)
            | (go_at_call 51; refine Calls.mono HC.out ?_; rintro e w' ⟨rfl, rfl⟩))
          go_ret
          exact ⟨ret_int hfin.out.symm, rfl⟩
        | false =>
          have hall' : Hid (fineK N (k + 1) = true) := by
            have h1 := hst.out
            rw [hall.out, hq, hq2] at h1
            exact h1
          rw [hq2] at hcon
          have HN := Lib.hid hname
          have HC := Lib.hid hcon
          clear hall hst hcon he hname hq2
          go_wp2_with (first
            | (go_at_call 50; refine Calls.mono HN.out ?_; rintro e w' ⟨rfl, rfl⟩)
            | (go_at_call 51; refine Calls.mono HC.out ?_; rintro e w' ⟨rfl, rfl⟩))
          go_round
          case rel => exact ⟨k + 1, by omega, by go_num, hall'⟩
          case measure => simp [intOf]; omega
    · have hfin : Hid (fineE N = 0) := by
        have h1 := hall.out
        rw [show k = N.length by omega] at h1
        show _ = _
        unfold fineE fineB
        rw [h1]
        rfl
      clear hall
      go_wp2_with fail
      go_ret
      exact ⟨ret_int hfin.out.symm, rfl⟩
end Go.Proofs.YtaikhdmgcffflaaDoor
