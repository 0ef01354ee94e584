/- The statement's own body TextMakes: true for every list of texts and every number, in every world that holds the library's table of powers of ten. -/
import Derived.Test.YtjhppekoinpheaaDoorWh
namespace Go.Proofs.YtjhppekoinpheaaDoor
open Go Go.RowKit

def joinS (ws : List (List UInt8)) : List UInt8 := if ws.all Pl.isWd then Pl.join ws else []
def joinE (ws : List (List UInt8)) : Int := if ws.all Pl.isWd then 0 else 4
theorem join_left_R {w : World} {ws : List (List UInt8)} {e : Ending} {w' : World} (hl : JoinLeft w ws e w') :
    e = .returned (.tuple #[.string ⟨(joinS ws).toArray⟩, .int .i64 (joinE ws)]) ∧ Below w.heap.size w w' := by
  unfold joinS joinE
  rcases hl with ⟨h, he, hb⟩ | ⟨h, he, hb⟩
  · rw [if_pos h, if_pos h]; exact ⟨he, hb⟩
  · rw [h]; exact ⟨he, hb⟩
theorem join_R (A : Option Addr) (c : Nat) (ws : List (List UInt8)) (w : World) (ht : Txt w A ws) (hn : ws.length ≤ 1000) (hl : ∀ v ∈ ws, v.length ≤ 1000) :
    Calls Tryd.prog 21 #[.slice A ws.length c] w fun e w' => e = .returned (.tuple #[.string ⟨(joinS ws).toArray⟩, .int .i64 (joinE ws)]) ∧ Below w.heap.size w w' :=
  (join_any A c ws w ht hn hl).mono fun _ _ h => join_left_R h
theorem refJoin_R (A : Option Addr) (c : Nat) (ws : List (List UInt8)) (w : World) (ht : Txt w A ws) (hn : ws.length ≤ 1000) (hl : ∀ v ∈ ws, v.length ≤ 1000) :
    Calls Tryd.prog 22 #[.slice A ws.length c] w fun e w' => e = .returned (.tuple #[.string ⟨(joinS ws).toArray⟩, .int .i64 (joinE ws)]) ∧ Below w.heap.size w w' :=
  (refJoin_any A c ws w ht hn hl).mono fun _ _ h => join_left_R h
def inRange (n : Int) : Prop := 0 ≤ n ∧ n ≤ 9007199254740991
instance (n : Int) : Decidable (inRange n) := inferInstanceAs (Decidable (0 ≤ n ∧ n ≤ 9007199254740991))
def digS (n : Int) : List UInt8 := if inRange n then Lib.decDigits n.toNat else []
def digE (n : Int) : Int := if inRange n then 0 else 9
theorem digits_R (n : Int) (w : World) (ht : Tab w) :
    Calls Tryd.prog 23 #[.int .i64 n] w fun e w' => e = .returned (.tuple #[.string ⟨(digS n).toArray⟩, .int .i64 (digE n)]) ∧ Below w.heap.size w w' := by
  unfold digS digE
  by_cases h : inRange n
  · rw [if_pos h, if_pos h]
    obtain ⟨k, rfl⟩ := Int.eq_ofNat_of_zero_le h.1
    exact digits_any k w ht (by have := h.2; omega)
  · rw [if_neg h, if_neg h]
    exact (digits_no n w (by unfold inRange at h; omega)).mono fun _ _ ⟨he, hw⟩ => ⟨he, by rw [← hw]; exact Below.refl _ _⟩
theorem refDigits_R (n : Int) (w : World) :
    Calls Tryd.prog 24 #[.int .i64 n] w fun e w' => e = .returned (.tuple #[.string ⟨(digS n).toArray⟩, .int .i64 (digE n)]) ∧ w = w' := by
  unfold digS digE
  by_cases h : inRange n
  · rw [if_pos h, if_pos h]
    obtain ⟨k, rfl⟩ := Int.eq_ofNat_of_zero_le h.1
    exact refDigits_any k w (by have := h.2; omega)
  · rw [if_neg h, if_neg h]
    exact refDigits_no n w (by unfold inRange at h; omega)

theorem cut_list (s : ByteArray) : (s.extract 0 (min s.size 400)).data.toList = s.data.toList.take 400 := by
  rw [piece s (Nat.min_le_left _ _), List.drop_zero, Lib.size_eq]
  rw [Nat.min_comm, ← List.take_take, List.take_length]
theorem cut_list' (l : List UInt8) : ((⟨l.toArray⟩ : ByteArray).extract 0 (min l.length 400)).data.toList = l.take 400 := by
  have := cut_list ⟨l.toArray⟩
  rw [mk_size, mk_toList] at this; exact this
def cutTo (xs : List (List UInt8)) (k : Nat) : List (List UInt8) := (xs.take k).map (List.take 400)
theorem cutTo_step {xs : List (List UInt8)} {k : Nat} (h : k < xs.length) : cutTo xs (k + 1) = cutTo xs k ++ [xs[k].take 400] := by
  unfold cutTo; rw [List.take_succ_eq_append_getElem h, List.map_append]; rfl
theorem cutTo_len (xs : List (List UInt8)) (k : Nat) : (cutTo xs k).length ≤ k := by simp [cutTo]; omega
theorem cutTo_each (xs : List (List UInt8)) (k : Nat) : ∀ v ∈ cutTo xs k, v.length ≤ 1000 := by
  intro v hv; simp only [cutTo, List.mem_map] at hv; obtain ⟨u, _, rfl⟩ := hv; simp; omega

set_option maxHeartbeats 2000000 in
set_option maxRecDepth 100000 in
theorem textMakes_any (A : Option Addr) (c : Nat) (xs : List (List UInt8)) (n : Int) (w : World) (hx : Txt w A xs) (_hlen : xs.length ≤ maxLen) (hl : ∀ v ∈ xs, v.length ≤ maxLen) (ht : Tab w) :
    Calls Tryd.prog 4 #[.slice A xs.length c, .int .i64 n] w fun e w' => e = .returned (.bool true) ∧ Below w.heap.size w w' := by
  have HT := Lib.hid ht
  have HX := Lib.hid hx
  have HL := Lib.hid hl
  clear ht hx hl
  unfold maxLen at _hlen
  go_enter Tryd.func4, Tryd.ntmps4
  go_wp2_with fail
  go_loopw [5, 6] (fun v i wr => ∃ k : Nat, k ≤ xs.length ∧ k ≤ 30 ∧ i = .int .i64 k ∧ Own wr w.heap.size v (cutTo xs k) ∧ Below w.heap.size w wr) (fun _ i _ => 30 - (intOf i).toNat)
  case atStart => exact ⟨0, Nat.zero_le _, Nat.zero_le _, rfl, Own.nil _ _, Below.refl _ _⟩
  case round =>
    obtain ⟨k, hk, hk3, rfl, hown, hb⟩ := hrel
    have hcl := cutTo_len xs k
    by_cases hgo : k < xs.length ∧ k < 30
    · obtain ⟨hlt, hlt3⟩ := hgo
      obtain ⟨b, o, rfl, hbl, hcell⟩ := HX.out k hlt
      have hcell' : wr.cell? ⟨b, o + k, none⟩ = some (.string ⟨xs[k].toArray⟩) := (hb.cell (p := ⟨b, o + k, none⟩) hbl).trans hcell
      have hsz : (⟨xs[k].toArray⟩ : ByteArray).size ≤ maxLen := by rw [mk_size]; exact HL.out _ (List.getElem_mem hlt)
      have Hsz := Lib.hid hsz
      have hst := Lib.hid (cutTo_step hlt)
      clear hcell hsz
      go_wp2_with (first
        | (go_at_call 10; refine (cut_any _ _ Hsz.out).mono ?_; rintro e w' ⟨rfl, rfl⟩)
        | (at_builtin; refine wpList_push rfl (.tmp 25) (.tmp 31) rfl _ w.heap.size _ _ _ rfl hown rfl hb.size (by omega) ?_; intro v3 w3 hown3 hb3))
      go_roundw
      case rel => exact ⟨k + 1, by omega, by omega, by go_num, by rw [hst.out]; rw [cut_list'] at hown3; exact hown3, hb.trans hb3⟩
      case measure => simp [intOf]; omega
    · obtain ⟨A5, c5, rfl, ht5⟩ := hown.txt
      have HE := Lib.hid (cutTo_each xs k)
      generalize cutTo xs k = ws at *
      have C1 := Lib.hid (fun wx (h : Txt wx A5 ws) => join_R A5 c5 ws wx h (by omega) HE.out)
      have C2 := Lib.hid (fun wx (h : Txt wx A5 ws) => refJoin_R A5 c5 ws wx h (by omega) HE.out)
      have C3 := Lib.hid (fun wx (h : Tab wx) => digits_R n wx h)
      have C4 := Lib.hid (fun wx => refDigits_R n wx)
      generalize joinS ws = js at *
      generalize joinE ws = je at *
      generalize digS n = dS at *
      generalize digE n = dE at *
      by_cases hlt : k < xs.length
      all_goals
        first | (have h30 : ¬ k < 30 := by omega) | skip
        clear hgo
        go_wp2_with fail
        refine (C1.out _ ht5).mono ?_
        rintro e w1 ⟨rfl, hb1⟩
        go_wp2_with fail
        refine (C2.out _ (ht5.below hb1)).mono ?_
        rintro e w2 ⟨rfl, hb2⟩
        go_wp2_with fail
        refine (C3.out _ (((HT.out.below hb).below hb1).below hb2)).mono ?_
        rintro e w3 ⟨rfl, hb3⟩
        go_wp2_with fail
        refine (C4.out _).mono ?_
        rintro e w' ⟨rfl, rfl⟩
        go_wp2_with fail
        refine (works_any _ ((((HT.out.below hb).below hb1).below hb2).below hb3)).mono ?_
        rintro e w4 ⟨rfl, hb4⟩
        go_wp2_with fail
        go_ret
        exact ⟨rfl, Below.and (Below.and (Below.and (Below.and hb hb1) hb2) hb3) hb4⟩
end Go.Proofs.YtjhppekoinpheaaDoor
