/- The closed statement's own body TextKnown: true, in every world that holds the library's table of powers of ten. -/
import Derived.Test.YtjhppekoinpheaaDoorWi
namespace Go.Proofs.YtjhppekoinpheaaDoor
open Go Go.RowKit

theorem app_le {a b : ByteArray} {n m : Nat} (ha : a.size ≤ n) (hb : b.size ≤ m) : (a ++ b).size ≤ n + m := by rw [ByteArray.size_append]; omega
theorem max_of {s : ByteArray} (h : s.size ≤ 100) : s.size ≤ maxLen := by unfold maxLen; omega
def oneB (c : UInt8) : ByteArray := ⟨#[c]⟩
theorem oneB_size (c : UInt8) : (oneB c).size ≤ 1 := Nat.le_refl _
theorem byte_of {k : Nat} (h : k < 256) : ((UInt8.ofNat k).toNat : Int) = k := by rw [UInt8.toNat_ofNat']; omega
theorem Txt.made2 (w : World) (a b : ByteArray) : Txt (w.alloc (.cells #[.string a, .string b] 9)) (some ⟨w.heap.size, 0, none⟩) [a.data.toList, b.data.toList] := by
  have := Txt.made w [a.data.toList, b.data.toList]
  simp only [List.map_cons, List.map_nil, strV_data] at this
  exact this
theorem two_le {a b : ByteArray} (ha : a.size ≤ 100) (hb : b.size ≤ 100) : ∀ v ∈ [a.data.toList, b.data.toList], v.length ≤ maxLen := by
  intro v hv
  simp only [List.mem_cons, List.not_mem_nil, or_false] at hv
  rcases hv with rfl | rfl
  · rw [← Lib.size_eq]; exact max_of ha
  · rw [← Lib.size_eq]; exact max_of hb
def endsL : List Int := [-9223372036854775808, -1, 0, 1, 9, 10, 99, 100, 9007199254740991, 9007199254740992, 9223372036854775807]

def endsO : Obj := .cells (endsL.map (Value.int .i64)).toArray 3
theorem ends_cell (w : World) (k : Nat) (h : k < 11) : (w.alloc endsO).cell? ⟨w.heap.size, k, none⟩ = some (.int .i64 (endsL.getD k 0)) := by
  unfold endsO
  rw [World.cell?_alloc_at _ _ _ _ rfl]
  have hl : k < endsL.length := h
  simp [hl]
def oddL : List (List UInt8) := [[], [97, 97, 97, 97, 97, 97, 97, 97, 97, 97, 97, 97], [97, 97, 97, 97, 97, 97, 97, 97, 97, 97, 97, 97, 97], [57, 48, 48, 55, 49, 57, 57, 50, 53, 52, 55, 52, 48, 57, 57, 49], [57, 48, 48, 55, 49, 57, 57, 50, 53, 52, 55, 52, 48, 57, 57, 50], [57, 57, 57, 57, 57, 57, 57, 57, 57, 57, 57, 57, 57, 57, 57, 57, 57, 57, 57, 57, 57, 57, 57, 57, 57, 57], [48, 48], [45, 49], [43, 49], [49, 32], [48], [10], [10, 10], [97, 10], [10, 97]]
theorem oddL_each : ∀ v ∈ oddL, v.length ≤ maxLen := by unfold oddL maxLen; decide
theorem Txt.drop {w : World} {b o : Nat} {ws : List (List UInt8)} (h : Txt w (some ⟨b, o, none⟩) ws) (k : Nat) : Txt w (some ⟨b, o + k, none⟩) (ws.drop k) := fun i hi => by
  rw [List.length_drop] at hi
  obtain ⟨b', o', e, hb, hc⟩ := h (k + i) (by omega)
  cases e
  exact ⟨b, o + k, rfl, hb, by rw [List.getElem_drop, Nat.add_assoc]; exact hc⟩

theorem textMakes_len (A : Option Addr) (c m : Nat) (xs : List (List UInt8)) (n : Int) (w : World) (hm : xs.length = m) (hx : Txt w A xs) (hlen : m ≤ maxLen) (hl : ∀ v ∈ xs, v.length ≤ maxLen) (ht : Tab w) :
    Calls Tryd.prog 4 #[.slice A m c, .int .i64 n] w fun e w' => e = .returned (.bool true) ∧ Below w.heap.size w w' := by
  subst hm
  exact textMakes_any A c xs n w hx hlen hl ht

/-- What 'make' of so many bytes lays, and what a piece of it is as a text. -/
theorem made_bytes (n : Nat) (h : n ≤ 1000000) : ∃ M : Array Value, (∀ w : World, (Instr.makeSlice 40 (.int .i64 n) (.int .i64 n)).run Tryd.prog w = .ok (.slice (some ⟨w.heap.size, 0, none⟩) n n) (w.alloc (.cells M 5))) ∧
    ∀ (w : World) (o m c : Nat), o + m ≤ n → (convert 40 9 (.slice (some ⟨w.heap.size, o, none⟩) m c)).run Tryd.prog (w.alloc (.cells M 5)) = .ok (.string ⟨(List.replicate m 0).toArray⟩) (w.alloc (.cells M 5)) := by
  obtain ⟨i0, hi, hz0, hz1, hz2⟩ := info_parts info5
  refine ⟨madeCells (Value.int .u8 0).cells (n * i0.size), fun w => ?_, fun w o m c hom => ?_⟩
  · have hr := run_make (P := Tryd.prog) w 40 5 i0 (.int .u8 0) Tryd.underlying40 hi hz0 .i64 .i64 n n (by omega) (by omega) (by rw [hz2]; omega) (by omega)
    simpa using hr
  · have hM : (madeCells (Value.int .u8 0).cells (n * i0.size)).toList = List.replicate n (.int .u8 0) := by
      rw [hz1, Nat.mul_one]; exact toList_madeCells_one (.int .u8 0) n
    generalize madeCells (Value.int .u8 0).cells (n * i0.size) = M at *
    have hc := run_convert_bytes_back (P := Tryd.prog) (w.alloc (.cells M 5)) 40 9 5 ⟨w.heap.size, o, none⟩ c (List.replicate m 0) Tryd.underlying40 Tryd.underlying5 Tryd.underlying9 (fun j hj => by
      rw [List.length_replicate] at hj
      rw [Lib.add_plain, World.cell?_alloc_at _ _ _ _ rfl]
      show M[o + j]? = _
      rw [← Array.getElem?_toList, hM, List.getElem?_replicate, if_pos (by omega), List.getElem_replicate]; rfl)
    rw [List.length_replicate] at hc
    exact hc
theorem zeros_lines (m : Nat) (h : 0 < m) : Pl.lines (List.replicate m 0) = [List.replicate m 0] := by
  have hne : List.replicate m (0 : UInt8) ≠ [] := by intro e; have := congrArg List.length e; rw [List.length_replicate, List.length_nil] at this; omega
  have hno : (10 : UInt8) ∉ List.replicate m 0 := by intro hm; rw [List.mem_replicate] at hm; exact absurd hm.2 (by decide)
  rw [Pl.lines_cons hne, (Pl.head10_none hno).1, (Pl.head10_none hno).2, Pl.lines_nil]

set_option maxHeartbeats 4000000 in
set_option maxRecDepth 100000 in
theorem textKnown_any (w : World) (ht : Tab w) : Calls Tryd.prog 9 #[] w fun e w' => e = .returned (.bool true) ∧ Below w.heap.size w w' := by
  have HT := Lib.hid ht
  clear ht
  go_enter Tryd.func9, Tryd.ntmps9
  go_wp2_with fail
  go_loopw [1] (fun i wr => ∃ k : Nat, k ≤ 256 ∧ i = .int .i64 k ∧ Below w.heap.size w wr) (fun i _ => 256 - (intOf i).toNat)
  case atStart => exact ⟨0, by omega, rfl, Below.refl _ _⟩
  case round =>
    obtain ⟨k, hk, rfl, hb⟩ := hrel
    by_cases hlt : k < 256
    · have hcv : (convert 40 9 (.slice (some ⟨wr.heap.size, 0, none⟩) 1 1)).run Tryd.prog (wr.alloc (.cells #[.int .u8 k] 5)) = .ok (.string (oneB (UInt8.ofNat k))) (wr.alloc (.cells #[.int .u8 k] 5)) := by
        have := (OwnB.made wr (UInt8.ofNat k)).conv
        rw [byte_of hlt] at this; exact this
      have hb0 := Below.and hb (below_new wr (.cells #[.int .u8 k] 5))
      have ho := oneB_size (UInt8.ofNat k)
      generalize oneB (UInt8.ofNat k) = s at *
      go_wp2_with fail
      refine (textCuts_any s _ (max_of (by omega)) (HT.out.below hb0)).mono ?_
      rintro e w1 ⟨rfl, hb1⟩
      clear hcv
      have hw1 := Below.and hb0 hb1
      clear hb0 hb1
      have z1 : ({ data := #[97] } ++ s : ByteArray).size ≤ 100 := Nat.le_trans (app_le (n := 1) (m := 1) (Nat.le_refl _) ho) (by omega)
      have z2 : ({ data := #[97, 32] } ++ s ++ { data := #[32, 98] } : ByteArray).size ≤ 100 := Nat.le_trans (app_le (n := 3) (m := 2) (app_le (n := 2) (m := 1) (Nat.le_refl _) ho) (Nat.le_refl _)) (by omega)
      have z3 : ({ data := #[49] } ++ s : ByteArray).size ≤ 100 := Nat.le_trans (app_le (n := 1) (m := 1) (Nat.le_refl _) ho) (by omega)
      have z4 : (s ++ { data := #[10] } ++ s : ByteArray).size ≤ 100 := Nat.le_trans (app_le (n := 2) (m := 1) (app_le (n := 1) (m := 1) ho (Nat.le_refl _)) ho) (by omega)
      have Z := Lib.hid (And.intro z1 (And.intro z2 (And.intro z3 z4)))
      clear z1 z2 z3 z4
      go_wp2_with fail
      refine (textCuts_any _ _ (max_of Z.out.1) (HT.out.below hw1)).mono ?_
      rintro e w2 ⟨rfl, hb2⟩
      have hw2 := Below.and hw1 hb2
      clear hw1 hb2
      go_wp2_with fail
      refine (textCuts_any _ _ (max_of Z.out.2.1) (HT.out.below hw2)).mono ?_
      rintro e w3 ⟨rfl, hb3⟩
      have hw3 := Below.and hw2 hb3
      clear hw2 hb3
      go_wp2_with fail
      refine (textCuts_any _ _ (max_of Z.out.2.2.1) (HT.out.below hw3)).mono ?_
      rintro e w4 ⟨rfl, hb4⟩
      have hw4 := Below.and hw3 hb4
      clear hw3 hb4
      go_wp2_with fail
      have hw4n := Below.and hw4 (below_new w4 (.cells #[.string s, .string ({ data := #[97] } ++ s)] 9))
      refine (textMakes_any _ _ _ _ _ (Txt.made2 w4 s ({ data := #[97] } ++ s)) (by unfold maxLen; simp) (two_le (by omega) Z.out.1) (HT.out.below hw4n)).mono ?_
      rintro e w5 ⟨rfl, hb5⟩
      have hw5 := Below.and hw4n hb5
      clear hw4 hw4n hb5
      go_wp2_with fail
      refine (textCuts_any _ _ (max_of Z.out.2.2.2) (HT.out.below hw5)).mono ?_
      rintro e w6 ⟨rfl, hb6⟩
      have hw6 := Below.and hw5 hb6
      clear hw5 hb6
      go_wp2_with fail
      go_roundw
      case rel => exact ⟨k + 1, by omega, by go_num, hw6⟩
      case measure => simp [intOf]; omega
    · obtain ⟨wa, rfl⟩ : ∃ wa : World, wa = wr := ⟨_, rfl⟩
      go_wp2_with fail
      clear hlt hk
      go_loopw [4] (fun i wr => ∃ k : Nat, k ≤ 11 ∧ i = .int .i64 k ∧ Below (wa.alloc endsO).heap.size (wa.alloc endsO) wr) (fun i _ => 11 - (intOf i).toNat)
      case atStart => exact ⟨0, by omega, rfl, Below.refl _ _⟩
      case round =>
        obtain ⟨k2, hk2, rfl, hbe⟩ := hrel
        have hbw := Below.and (Below.and hb (below_new wa endsO)) hbe
        by_cases hlt2 : k2 < 11
        · have hcell : wr.cell? ⟨wa.heap.size, k2, none⟩ = some (.int .i64 (endsL.getD k2 0)) := (hbe.cell (p := ⟨wa.heap.size, k2, none⟩) (by simp)).trans (ends_cell wa k2 hlt2)
          generalize endsL.getD k2 0 = en at *
          go_wp2_with fail
          refine (textMakes_any none 0 [] en _ (Txt.nil _ _) (by unfold maxLen; simp) (by simp) (HT.out.below hbw)).mono ?_
          rintro e w1 ⟨rfl, hb1⟩
          go_wp2_with fail
          go_roundw
          case rel => exact ⟨k2 + 1, by omega, by go_num, Below.and hbe hb1⟩
          case measure => simp [intOf]; omega
        · obtain ⟨wb', rfl⟩ : ∃ wb' : World, wb' = wr := ⟨_, rfl⟩
          go_wp2_with fail
          clear hlt2 hk2 hb hbe
          go_loopw [7] (fun i wr => ∃ k : Nat, k ≤ 15 ∧ i = .int .i64 k ∧ Txt wr (some ⟨wb'.heap.size, 0, none⟩) oddL ∧ Below w.heap.size w wr) (fun i _ => 15 - (intOf i).toNat)
          case atStart => exact ⟨0, by omega, rfl, Txt.made wb' oddL, Below.and hbw (below_new wb' _)⟩
          case round =>
            obtain ⟨k3, hk3, rfl, htx, hbx⟩ := hrel
            by_cases hlt3 : k3 < 15
            · have hl3 : k3 < oddL.length := hlt3
              obtain ⟨b3, o3, e3, hbl3, hcell3⟩ := htx k3 hl3
              cases e3
              have hsz : (⟨oddL[k3].toArray⟩ : ByteArray).size ≤ maxLen := by rw [mk_size]; exact oddL_each _ (List.getElem_mem hl3)
              have Hsz := Lib.hid hsz
              have HX := Lib.hid htx
              clear hsz htx
              generalize oddL[k3] = y at *
              rw [Nat.zero_add] at hcell3
              go_wp2_with fail
              refine (textCuts_any _ _ Hsz.out (HT.out.below hbx)).mono ?_
              rintro e w1 ⟨rfl, hb1⟩
              have hbx1 := Below.and hbx hb1
              go_wp2_with fail
              have hdr := (HX.out.below hb1).drop k3
              rw [Nat.zero_add] at hdr
              have C := Lib.hid (textMakes_len _ (15 - k3) (15 - k3) _ (k3 : Int) w1 (by rw [List.length_drop]; rfl) hdr (by unfold maxLen; omega) (fun v hv => oddL_each v (List.mem_of_mem_drop hv)) (HT.out.below hbx1))
              clear hdr
              refine C.out.mono ?_
              rintro e w2 ⟨rfl, hb2⟩
              clear C
              go_wp2_with fail
              go_roundw
              case rel => exact ⟨k3 + 1, by omega, by go_num, (HX.out.below hb1).below hb2, Below.and hbx1 hb2⟩
              case measure => simp [intOf]; omega
            · obtain ⟨M, hmk, hcv⟩ := made_bytes 65537 (by omega)
              have hmk1 : (Instr.makeSlice 40 (.int .i64 65537) (.int .i64 65537)).run Tryd.prog wr = .ok (.slice (some ⟨wr.heap.size, 0, none⟩) 65537 65537) (wr.alloc (.cells M 5)) := hmk wr
              have hcv1 := hcv wr 0 65537 65537 (by omega)
              have hcv2 := hcv wr 1 65536 65536 (by omega)
              have hl1 := fun wx => lines_big ⟨(List.replicate 65537 0).toArray⟩ wx (by rw [mk_size, List.length_replicate]; omega) (by rw [mk_size, List.length_replicate]; unfold maxLen; omega)
              have hl2 := fun wx => lines_is ⟨(List.replicate 65536 0).toArray⟩ wx [List.replicate 65536 0] (by rw [mk_size, List.length_replicate]; omega) (by rw [mk_toList]; exact zeros_lines 65536 (by omega))
              have HL1 := Lib.hid hl1
              have HL2 := Lib.hid hl2
              clear hl1 hl2 hmk hcv
              generalize (⟨(List.replicate 65537 0).toArray⟩ : ByteArray) = z1 at *
              generalize (⟨(List.replicate 65536 0).toArray⟩ : ByteArray) = z2 at *
              generalize List.replicate 65536 (0 : UInt8) = z3 at *
              have hwb := Below.and hbx (below_new wr (.cells M 5))
              clear htx
              go_wp2_with fail
              refine (HL1.out _).mono ?_
              rintro e w' ⟨rfl, rfl⟩
              go_wp2_with fail
              refine (HL2.out _).mono ?_
              rintro e w1 ⟨A1, c1, rfl, ht1, hb1⟩
              have hwb1 := Below.and hwb hb1
              clear hmk1 hcv1 hcv2 ht1 HL1 HL2
              go_wp2_with fail
              refine (works_any _ (HT.out.below hwb1)).mono ?_
              rintro e w2 ⟨rfl, hb2⟩
              go_wp2_with fail
              go_ret
              exact ⟨rfl, Below.and hwb1 hb2⟩
end Go.Proofs.YtjhppekoinpheaaDoor
