/- The program's lower. -/
import Derived.Test.YtiakbmllpnabnaaGreatDoorGc
import Derived.Lib.ConvBytes
namespace Go.Proofs.YtiakbmllpnabnaaGreatDoor
open Go Go.RowKit Pl

/-- A row of bytes in memory, by its places. -/
structure RowF (w : World) (g n : Nat) (f : Nat → UInt8) : Prop where
  lt : g < w.heap.size
  cell : ∀ j, j < n → w.cell? ⟨g, j, none⟩ = some (.int .u8 ((f j).toNat : Int))
  free : ∀ j, j < n → w.frozen? ⟨g, j, none⟩ = false
theorem RowF.set {w : World} {g n : Nat} {f : Nat → UInt8} (h : RowF w g n f) (k : Nat) (hk : k < n) (c : UInt8) (u : Int) (hu : u = (c.toNat : Int)) :
    RowF (w.setCell ⟨g, k, none⟩ (.int .u8 u)) g n (fun j => if j = k then c else f j) := by
  subst hu
  refine ⟨by simpa using h.lt, fun j hj => ?_, fun j hj => by simpa using h.free j hj⟩
  by_cases e : j = k
  · subst e
    rw [World.cell?_setCell_same _ _ _ (h.cell j hj), if_pos rfl]
  · rw [World.cell?_setCell_other _ _ _ _ (fun x => e (by simpa using x.symm)), if_neg e, h.cell j hj]
theorem RowF.congr {w : World} {g n : Nat} {f f' : Nat → UInt8} (h : RowF w g n f) (e : ∀ j, j < n → f j = f' j) : RowF w g n f' := ⟨h.lt, fun j hj => by rw [h.cell j hj, e j hj], h.free⟩
theorem RowF.conv {w : World} {g n : Nat} {f : Nat → UInt8} (h : RowF w g n f) (c : Nat) (l : List UInt8) (hl : l.length = n) (hf : ∀ j (hj : j < l.length), f j = l[j]) :
    (convert 22 9 (.slice (some ⟨g, 0, none⟩) n c)).run Tryz.prog w = .ok (.string ⟨l.toArray⟩) w := by
  subst hl
  refine run_convert_bytes_back w 22 9 5 ⟨g, 0, none⟩ c l Tryz.underlying22 Tryz.underlying5 Tryz.underlying9 fun j hj => ?_
  rw [add_pl, Nat.zero_add, h.cell j hj, hf j hj]
theorem bytesWorld_row (w : World) (s : ByteArray) : RowF (Lib.bytesWorld w 5 s) w.heap.size s.size (fun j => s.data.toList.getD j 0) := by
  refine ⟨by rw [Lib.bytesWorld_size]; omega, fun j hj => Lib.bytesWorld_cell w _ s j hj, fun j hj => ?_⟩
  have hs : s.size ≤ (Lib.bytesCells w 5 s).size := by
    unfold Lib.bytesCells
    rw [Array.size_append, Array.size_map]
    show s.data.size ≤ _
    omega
  unfold World.frozen?
  rw [Lib.bytesWorld_at_new]
  simp
  omega
theorem bytesWorld_below (w : World) (s : ByteArray) : Below w.heap.size w (Lib.bytesWorld w 5 s) := ⟨rfl, rfl, rfl, by rw [Lib.bytesWorld_size]; omega, fun k hk => Lib.bytesWorld_at_old w _ s k hk⟩
theorem bytes_conv (w : World) (s : ByteArray) : (convert 9 22 (.string s)).run Tryz.prog w = .ok (.slice (some ⟨w.heap.size, 0, none⟩) s.size (grownCap w s.size 0 5)) (Lib.bytesWorld w 5 s) :=
  Lib.run_convert_string_bytes w 9 22 5 s Tryz.underlying9 Tryz.underlying22 Tryz.underlying5

def midF (s : ByteArray) (k j : Nat) : UInt8 := if j < k then lowB (s.data.toList.getD j 0) else s.data.toList.getD j 0
theorem midF_id {s : ByteArray} {k : Nat} (h : lowB (s.data.toList.getD k 0) = s.data.toList.getD k 0) (j : Nat) : midF s k j = midF s (k + 1) j := by
  unfold midF
  by_cases e : j = k
  · subst e; rw [if_neg (Nat.lt_irrefl _), if_pos (Nat.lt_succ_self _), h]
  · by_cases e2 : j < k
    · rw [if_pos e2, if_pos (by omega)]
    · rw [if_neg e2, if_neg (by omega)]
theorem midF_set {s : ByteArray} {k : Nat} (j : Nat) : (if j = k then lowB (s.data.toList.getD k 0) else midF s k j) = midF s (k + 1) j := by
  unfold midF
  by_cases e : j = k
  · subst e; simp
  · rw [if_neg e]
    by_cases e2 : j < k
    · rw [if_pos e2, if_pos (by omega)]
    · rw [if_neg e2, if_neg (by omega)]
theorem midF_all (s : ByteArray) (k : Nat) (hk : s.size ≤ k) (j : Nat) (hj : j < (lowS s.data.toList).length) : midF s k j = (lowS s.data.toList)[j] := by
  have hj' : j < s.data.toList.length := by rwa [lowS_len] at hj
  have : j < s.size := by rw [Lib.size_eq]; exact hj'
  have e : (lowS s.data.toList)[j] = lowB s.data.toList[j] := by simp only [lowS, List.getElem_map]
  unfold midF
  rw [if_pos (by omega), e, List.getD_eq_getElem?_getD, List.getElem?_eq_getElem hj']
  rfl

set_option maxRecDepth 100000 in
set_option maxHeartbeats 1000000 in
/-- the program's lower -/
theorem lower_any (s : ByteArray) (w : World) (hs : s.size ≤ maxLen) (z : List UInt8) (hz : lowS s.data.toList = z) :
    Calls Tryz.prog 74 #[.string s] w fun e w' => e = .returned (.string ⟨z.toArray⟩) ∧ Below w.heap.size w w' := by
  subst hz
  unfold maxLen at hs
  have hcv := bytes_conv w s
  have hrow := Lib.hid (bytesWorld_row w s)
  have hbel := Lib.hid (bytesWorld_below w s)
  have hsz : w.heap.size < (Lib.bytesWorld w 5 s).heap.size := by rw [Lib.bytesWorld_size]; omega
  generalize Lib.bytesWorld w 5 s = w1 at *
  generalize grownCap w s.size 0 5 = cap at *
  generalize hg : w.heap.size = g at *
  go_enter Tryz.func74, Tryz.ntmps74
  go_wp2
  go_loopw [10] (fun i wr => ∃ k : Nat, k ≤ s.size ∧ i = .int .i64 k ∧ Hid (RowF wr g s.size (midF s k)) ∧ Below g w wr) (fun i _ => s.size - (intOf i).toNat)
  case atStart => exact ⟨0, Nat.zero_le _, rfl, hrow.out.congr fun j _ => by unfold midF; simp, hbel.out⟩
  case round =>
    obtain ⟨k, hk, rfl, hR, hb⟩ := hrel
    by_cases hlt : k < s.size
    · have hc := hR.out.cell k hlt
      have hf := hR.out.free k hlt
      have hmk : midF s k k = s.data.toList.getD k 0 := by unfold midF; simp
      rw [hmk] at hc
      clear hmk
      generalize hq : s.data.toList.getD k 0 = c at hc
      by_cases hu : 65 ≤ c.toNat ∧ c.toNat ≤ 90
      · obtain ⟨u1, u2⟩ := hu
        have hR' : ∀ u : Int, u = ((lowB c).toNat : Int) → Hid (RowF (wr.setCell ⟨g, k, none⟩ (.int .u8 u)) g s.size (midF s (k + 1))) := fun u hu => (hR.out.set k hlt (lowB c) u hu).congr fun j _ => by rw [← hq]; exact midF_set j
        have HR := Lib.hid hR'
        have HL := Lib.hid (lowB_up u1 u2)
        clear hR' hR hq
        go_wp2
        go_roundw
        case rel => exact ⟨k + 1, by omega, by go_num, HR.out _ (by rw [HL.out]; omega), hb.setCell (p := ⟨g, k, none⟩) (Nat.le_refl _) _⟩
        case measure => simp [intOf]; omega
      · have hR' : Hid (RowF wr g s.size (midF s (k + 1))) := hR.out.congr fun j _ => midF_id (by rw [hq]; exact lowB_id hu) j
        clear hR hq
        by_cases u1 : 65 ≤ c.toNat
        · have u2 : 90 < c.toNat := by omega
          clear hu
          go_wp2
          go_roundw
          case rel => exact ⟨k + 1, by omega, by go_num, hR', hb⟩
          case measure => simp [intOf]; omega
        · clear hu
          go_wp2
          go_roundw
          case rel => exact ⟨k + 1, by omega, by go_num, hR', hb⟩
          case measure => simp [intOf]; omega
    · have hcv := hR.out.conv cap (lowS s.data.toList) (by rw [lowS_len, ← Lib.size_eq]) (midF_all s k (by omega))
      clear hR
      go_wp2
      go_ret
      exact ⟨rfl, hb⟩

end Go.Proofs.YtiakbmllpnabnaaGreatDoor
