/- Walks of both functions Lower, of begins and of both functions Alike. -/
import Derived.Test.YthniggdimfldhaaGreatDoorHc
import Derived.Lib.ConvBytes
namespace Go.Proofs.YthniggdimfldhaaGreatDoor
open Go Go.RowKit

theorem u31 : Tryz.prog.underlying 9 = some .string := Tryz.underlying9
/-- A row of bytes in memory, by its places. -/
structure RowF (w : World) (g n : Nat) (f : Nat → UInt8) : Prop where
  lt : g < w.heap.size
  cell : ∀ j, j < n → w.cell? ⟨g, j, none⟩ = some (.int .u8 ((f j).toNat : Int))
  free : ∀ j, j < n → w.frozen? ⟨g, j, none⟩ = false
theorem RowF.set {w : World} {g n : Nat} {f : Nat → UInt8} (h : RowF w g n f) (k : Nat) (hk : k < n) (c : UInt8) (u : Int) (hu : u = (c.toNat : Int)) :
    RowF (w.setCell ⟨g, k, none⟩ (.int .u8 u)) g n (fun j => if j = k then c else f j) := by
  subst hu
  refine ⟨by simpa using h.lt, fun j hj => ?_, fun j hj => by simpa using h.free j hj⟩
  by_cases e : j = k
  · subst e
    rw [World.cell?_setCell_same _ _ _ (h.cell j hj), if_pos rfl]
  · rw [World.cell?_setCell_other _ _ _ _ (fun x => e (by simpa using x.symm)), if_neg e, h.cell j hj]
theorem RowF.congr {w : World} {g n : Nat} {f f' : Nat → UInt8} (h : RowF w g n f) (e : ∀ j, j < n → f j = f' j) : RowF w g n f' := ⟨h.lt, fun j hj => by rw [h.cell j hj, e j hj], h.free⟩
theorem RowF.conv {w : World} {g n : Nat} {f : Nat → UInt8} (h : RowF w g n f) (c : Nat) (l : List UInt8) (hl : l.length = n) (hf : ∀ j (hj : j < l.length), f j = l[j]) :
    (convert 23 9 (.slice (some ⟨g, 0, none⟩) n c)).run Tryz.prog w = .ok (.string ⟨l.toArray⟩) w := by
  subst hl
  refine run_convert_bytes_back w 23 9 5 ⟨g, 0, none⟩ c l Tryz.underlying23 Tryz.underlying5 Tryz.underlying9 fun j hj => ?_
  rw [add_pl, Nat.zero_add, h.cell j hj, hf j hj]
theorem bytesWorld_row (w : World) (s : ByteArray) : RowF (Lib.bytesWorld w 5 s) w.heap.size s.size (fun j => s.data.toList.getD j 0) := by
  refine ⟨by rw [Lib.bytesWorld_size]; omega, fun j hj => Lib.bytesWorld_cell w _ s j hj, fun j hj => ?_⟩
  have hs : s.size ≤ (Lib.bytesCells w 5 s).size := by
    unfold Lib.bytesCells
    rw [Array.size_append, Array.size_map]
    show s.data.size ≤ _
    omega
  unfold World.frozen?
  rw [Lib.bytesWorld_at_new]
  simp
  omega
theorem bytesWorld_below (w : World) (s : ByteArray) : Below w.heap.size w (Lib.bytesWorld w 5 s) := ⟨rfl, rfl, rfl, by rw [Lib.bytesWorld_size]; omega, fun k hk => Lib.bytesWorld_at_old w _ s k hk⟩
theorem bytes_conv (w : World) (s : ByteArray) : (convert 9 23 (.string s)).run Tryz.prog w = .ok (.slice (some ⟨w.heap.size, 0, none⟩) s.size (grownCap w s.size 0 5)) (Lib.bytesWorld w 5 s) :=
  Lib.run_convert_string_bytes w 9 23 5 s Tryz.underlying9 Tryz.underlying23 Tryz.underlying5

theorem lowB_up {c : UInt8} (h1 : 65 ≤ c.toNat) (h2 : c.toNat ≤ 90) : (lowB c).toNat = c.toNat + 32 := by
  unfold lowB
  rw [if_pos ⟨h1, h2⟩, UInt8.toNat_ofNat']
  omega
theorem lowB_id {c : UInt8} (h : ¬ (65 ≤ c.toNat ∧ c.toNat ≤ 90)) : lowB c = c := by unfold lowB; rw [if_neg h]
def midF (s : ByteArray) (k j : Nat) : UInt8 := if j < k then lowB (s.data.toList.getD j 0) else s.data.toList.getD j 0
theorem midF_id {s : ByteArray} {k : Nat} (h : lowB (s.data.toList.getD k 0) = s.data.toList.getD k 0) (j : Nat) : midF s k j = midF s (k + 1) j := by
  unfold midF
  by_cases e : j = k
  · subst e; rw [if_neg (Nat.lt_irrefl _), if_pos (Nat.lt_succ_self _), h]
  · by_cases e2 : j < k
    · rw [if_pos e2, if_pos (by omega)]
    · rw [if_neg e2, if_neg (by omega)]
theorem midF_set {s : ByteArray} {k : Nat} (j : Nat) : (if j = k then lowB (s.data.toList.getD k 0) else midF s k j) = midF s (k + 1) j := by
  unfold midF
  by_cases e : j = k
  · subst e; simp
  · rw [if_neg e]
    by_cases e2 : j < k
    · rw [if_pos e2, if_pos (by omega)]
    · rw [if_neg e2, if_neg (by omega)]
theorem midF_all (s : ByteArray) (k : Nat) (hk : s.size ≤ k) (j : Nat) (hj : j < (lowS s.data.toList).length) : midF s k j = (lowS s.data.toList)[j] := by
  have hj' : j < s.data.toList.length := by rwa [lowS_len] at hj
  have : j < s.size := by rw [Lib.size_eq]; exact hj'
  have e : (lowS s.data.toList)[j] = lowB s.data.toList[j] := by simp only [lowS, List.getElem_map]
  unfold midF
  rw [if_pos (by omega), e, List.getD_eq_getElem?_getD, List.getElem?_eq_getElem hj']
  rfl

set_option maxRecDepth 100000 in
set_option maxHeartbeats 1000000 in
/-- the program's Lower -/
theorem lower_any (s : ByteArray) (w : World) (hs : s.size ≤ maxLen) (z : List UInt8) (hz : lowS s.data.toList = z) :
    Calls Tryz.prog 91 #[.string s] w fun e w' => e = .returned (.string ⟨z.toArray⟩) ∧ Below w.heap.size w w' := by
  subst hz
  unfold maxLen at hs
  have hcv := bytes_conv w s
  have hrow := Lib.hid (bytesWorld_row w s)
  have hbel := Lib.hid (bytesWorld_below w s)
  have hsz : w.heap.size < (Lib.bytesWorld w 5 s).heap.size := by rw [Lib.bytesWorld_size]; omega
  generalize Lib.bytesWorld w 5 s = w1 at *
  generalize grownCap w s.size 0 5 = cap at *
  generalize hg : w.heap.size = g at *
  go_enter Tryz.func91, Tryz.ntmps91
  go_wp2
  go_loopw [10] (fun i wr => ∃ k : Nat, k ≤ s.size ∧ i = .int .i64 k ∧ Hid (RowF wr g s.size (midF s k)) ∧ Below g w wr) (fun i _ => s.size - (intOf i).toNat)
  case atStart => exact ⟨0, Nat.zero_le _, rfl, hrow.out.congr fun j _ => by unfold midF; simp, hbel.out⟩
  case round =>
    obtain ⟨k, hk, rfl, hR, hb⟩ := hrel
    by_cases hlt : k < s.size
    · have hc := hR.out.cell k hlt
      have hf := hR.out.free k hlt
      have hmk : midF s k k = s.data.toList.getD k 0 := by unfold midF; simp
      rw [hmk] at hc
      clear hmk
      generalize hq : s.data.toList.getD k 0 = c at hc
      by_cases hu : 65 ≤ c.toNat ∧ c.toNat ≤ 90
      · obtain ⟨u1, u2⟩ := hu
        have hR' : ∀ u : Int, u = ((lowB c).toNat : Int) → Hid (RowF (wr.setCell ⟨g, k, none⟩ (.int .u8 u)) g s.size (midF s (k + 1))) := fun u hu => (hR.out.set k hlt (lowB c) u hu).congr fun j _ => by rw [← hq]; exact midF_set j
        have HR := Lib.hid hR'
        have HL := Lib.hid (lowB_up u1 u2)
        clear hR' hR hq
        go_wp2
        go_roundw
        case rel => exact ⟨k + 1, by omega, by go_num, HR.out _ (by rw [HL.out]; omega), hb.setCell (p := ⟨g, k, none⟩) (Nat.le_refl _) _⟩
        case measure => simp [intOf]; omega
      · have hR' : Hid (RowF wr g s.size (midF s (k + 1))) := hR.out.congr fun j _ => midF_id (by rw [hq]; exact lowB_id hu) j
        clear hR hq
        by_cases u1 : 65 ≤ c.toNat
        · have u2 : 90 < c.toNat := by omega
          clear hu
          go_wp2
          go_roundw
          case rel => exact ⟨k + 1, by omega, by go_num, hR', hb⟩
          case measure => simp [intOf]; omega
        · clear hu
          go_wp2
          go_roundw
          case rel => exact ⟨k + 1, by omega, by go_num, hR', hb⟩
          case measure => simp [intOf]; omega
    · have hcv := hR.out.conv cap (lowS s.data.toList) (by rw [lowS_len, ← Lib.size_eq]) (midF_all s k (by omega))
      clear hR
      go_wp2
      go_ret
      exact ⟨rfl, hb⟩

theorem lowS_step (s : ByteArray) (k : Nat) (h : k < s.size) : lowS (s.data.toList.take (k + 1)) = lowS (s.data.toList.take k) ++ [lowB s[k]] := by
  have hl : k < s.data.toList.length := by rw [← Lib.size_eq]; exact h
  rw [← List.take_append_getElem hl, lowS_append, at_list s k h]
  rfl
set_option maxRecDepth 100000 in
set_option maxHeartbeats 1000000 in
/-- the chapter's Lower -/
theorem lower_ref (s : ByteArray) (w : World) (hs : s.size ≤ 100000) (z : List UInt8) (hz : lowS s.data.toList = z) :
    Calls Tryz.prog 79 #[.string s] w fun e w' => e = .returned (.string ⟨z.toArray⟩) ∧ Below w.heap.size w w' := by
  subst hz
  go_enter Tryz.func79, Tryz.ntmps79
  go_wp2
  go_loopw [3, 4] (fun v i wr => ∃ k : Nat, k ≤ s.size ∧ i = .int .i64 k ∧ OwnB wr w.heap.size v (lowS (s.data.toList.take k)) ∧ Below w.heap.size w wr) (fun _ i _ => s.size - (intOf i).toNat)
  case atStart => exact ⟨0, Nat.zero_le _, rfl, OwnB.nil _ _, Below.refl _ _⟩
  case round =>
    obtain ⟨k, hk, rfl, hown, hb⟩ := hrel
    by_cases hlt : k < s.size
    · have hst := Lib.hid (lowS_step s k hlt)
      have hlen : (lowS (s.data.toList.take k)).length ≤ 1000000000 := by rw [lowS_len, List.length_take, ← Lib.size_eq]; omega
      generalize lowS (s.data.toList.take k) = cur at *
      by_cases hu : 65 ≤ s[k].toNat ∧ s[k].toNat ≤ 90
      · obtain ⟨u1, u2⟩ := hu
        have HL := Lib.hid (lowB_up u1 u2)
        go_wp2_with (at_builtin; refine wpList_pushb rfl (.tmp 23) (.tmp 25) rfl _ w.heap.size _ _ _ (lowB s[k]) ?c1 rfl hown rfl hb.size hlen ?_; rotate_left; intro v3 w3 hown3 hb3)
        · go_roundw
          case rel => exact ⟨k + 1, by omega, by go_num, by rw [hst.out]; exact hown3, hb.trans hb3⟩
          case measure => simp [intOf]; omega
        · rw [HL.out]; omega
      · have HL := Lib.hid (lowB_id hu)
        by_cases u1 : 65 ≤ s[k].toNat
        · have u2 : 90 < s[k].toNat := by omega
          clear hu
          go_wp2_with (at_builtin; refine wpList_pushb rfl (.tmp 23) (.tmp 25) rfl _ w.heap.size _ _ _ (lowB s[k]) ?c2 rfl hown rfl hb.size hlen ?_; rotate_left; intro v3 w3 hown3 hb3)
          · go_roundw
            case rel => exact ⟨k + 1, by omega, by go_num, by rw [hst.out]; exact hown3, hb.trans hb3⟩
            case measure => simp [intOf]; omega
          · rw [HL.out]
        · clear hu
          go_wp2_with (at_builtin; refine wpList_pushb rfl (.tmp 23) (.tmp 25) rfl _ w.heap.size _ _ _ (lowB s[k]) ?c3 rfl hown rfl hb.size hlen ?_; rotate_left; intro v3 w3 hown3 hb3)
          · go_roundw
            case rel => exact ⟨k + 1, by omega, by go_num, by rw [hst.out]; exact hown3, hb.trans hb3⟩
            case measure => simp [intOf]; omega
          · rw [HL.out]
    · rw [take_full s (by omega)] at hown
      have hcv := hown.conv
      go_wp2
      go_ret
      exact ⟨rfl, hb⟩

theorem extract_take (s : ByteArray) (k : Nat) : (s.extract 0 k).data.toList = s.data.toList.take k := by
  rw [ByteArray.data_extract, Array.toList_extract]
  simp [List.extract]
theorem extract_size (s : ByteArray) (k : Nat) (h : k ≤ s.size) : (s.extract 0 k).size = k := by rw [Lib.size_eq, extract_take, List.length_take, ← Lib.size_eq]; omega

set_option maxRecDepth 100000 in
/-- the program's begins -/
theorem begins_any (s p : ByteArray) (w : World) (_hs : s.size ≤ 100000) (hp : p.size ≤ 100000) (z : Bool) (hz : begS s.data.toList p.data.toList = z) :
    Calls Tryz.prog 77 #[.string s, .string p] w fun e w' => e = .returned (.bool z) ∧ Below w.heap.size w w' := by
  subst hz
  unfold begS
  rw [← Lib.size_eq, ← Lib.size_eq]
  by_cases h : p.size ≤ s.size
  · rw [decide_eq_true h, Bool.true_and]
    have c1 := Lib.hid fun w => lower_any (s.extract 0 p.size) w (by rw [extract_size s _ h]; unfold maxLen; omega) _ (by rw [extract_take])
    have c2 := Lib.hid fun w => lower_any p w (by unfold maxLen; omega) _ rfl
    generalize lowS (s.data.toList.take p.size) = a at *
    generalize lowS p.data.toList = b at *
    go_enter Tryz.func77, Tryz.ntmps77
    go_wp2_with fail
    go_at_call 91
    refine (c1.out _).mono ?_
    rintro e w1 ⟨rfl, b1⟩
    go_wp2_with fail
    go_at_call 91
    refine (c2.out _).mono ?_
    rintro e w2 ⟨rfl, b2⟩
    go_wp2_with fail
    go_ret
    exact ⟨rfl, Below.and b1 b2⟩
  · rw [decide_eq_false h, Bool.false_and]
    go_enter Tryz.func77, Tryz.ntmps77
    go_wp2_with fail
    go_ret
    exact ⟨rfl, Below.refl _ _⟩

theorem isNm_size {s : ByteArray} (h : isNm s.data.toList = true) : s.size ≤ 30 := by rw [Lib.size_eq]; exact isNm_len h
set_option maxRecDepth 100000 in
/-- the program's Alike -/
theorem alike_any (a b : ByteArray) (w : World) (ha : a.size ≤ maxLen) (hb : b.size ≤ maxLen) (z : Bool) (hz : alikeS a.data.toList b.data.toList = z) :
    Calls Tryz.prog 62 #[.string a, .string b] w fun e w' => e = .returned (.bool z) ∧ Below w.heap.size w w' := by
  subst hz
  rw [alike_prog, ← Lib.size_eq, ← Lib.size_eq]
  cases h1 : isNm a.data.toList with
  | false =>
    have c1 := Lib.hid fun w => isName_any a w ha false h1
    go_enter Tryz.func62, Tryz.ntmps62
    go_wp2_with (go_at_call 58; refine (c1.out _).mono ?_; rintro e w1 ⟨rfl, rfl⟩)
    go_ret
    exact ⟨rfl, Below.refl _ _⟩
  | true =>
    have c1 := Lib.hid fun w => isName_any a w ha true h1
    cases h2 : isNm b.data.toList with
    | false =>
      have c2 := Lib.hid fun w => isName_any b w hb false h2
      go_enter Tryz.func62, Tryz.ntmps62
      go_wp2_with fail
      go_at_call 58
      refine (c1.out _).mono ?_
      rintro e w1 ⟨rfl, rfl⟩
      go_wp2_with fail
      go_at_call 58
      refine (c2.out _).mono ?_
      rintro e w1 ⟨rfl, rfl⟩
      go_wp2_with fail
      go_ret
      exact ⟨rfl, Below.refl _ _⟩
    | true =>
      have c2 := Lib.hid fun w => isName_any b w hb true h2
      by_cases h3 : a.size = b.size
      · rw [decide_eq_true h3]
        have c3 := Lib.hid fun w => begins_any a b w (Nat.le_trans (isNm_size h1) (by decide)) (Nat.le_trans (isNm_size h2) (by decide)) _ rfl
        generalize begS a.data.toList b.data.toList = q at *
        have e3 : ((a.size : Int) == b.size) = true := by rw [h3]; exact beq_self_eq_true _
        clear h3
        go_enter Tryz.func62, Tryz.ntmps62
        go_wp2_with fail
        go_at_call 58
        refine (c1.out _).mono ?_
        rintro e w1 ⟨rfl, rfl⟩
        go_wp2_with fail
        go_at_call 58
        refine (c2.out _).mono ?_
        rintro e w1 ⟨rfl, rfl⟩
        go_wp2_with fail
        go_at_call 77
        refine (c3.out _).mono ?_
        rintro e w1 ⟨rfl, b1⟩
        go_wp2_with fail
        go_ret
        exact ⟨rfl, b1⟩
      · rw [decide_eq_false h3]
        have e3 : ((a.size : Int) == b.size) = false := by rw [beq_eq_false_iff_ne]; omega
        go_enter Tryz.func62, Tryz.ntmps62
        go_wp2_with fail
        go_at_call 58
        refine (c1.out _).mono ?_
        rintro e w1 ⟨rfl, rfl⟩
        go_wp2_with fail
        go_at_call 58
        refine (c2.out _).mono ?_
        rintro e w1 ⟨rfl, rfl⟩
        go_wp2_with fail
        go_ret
        exact ⟨rfl, Below.refl _ _⟩
set_option maxRecDepth 100000 in
/-- the chapter's Alike -/
theorem alike_ref (a b : ByteArray) (w : World) (ha : a.size ≤ maxLen) (hb : b.size ≤ maxLen) (z : Bool) (hz : alikeS a.data.toList b.data.toList = z) :
    Calls Tryz.prog 66 #[.string a, .string b] w fun e w' => e = .returned (.bool z) ∧ Below w.heap.size w w' := by
  subst hz
  unfold alikeS
  cases h1 : isNm a.data.toList with
  | false =>
    have c1 := Lib.hid fun w => isName_ref a w ha false h1
    go_enter Tryz.func66, Tryz.ntmps66
    go_wp2_with (go_at_call 63; refine (c1.out _).mono ?_; rintro e w1 ⟨rfl, rfl⟩)
    go_ret
    exact ⟨rfl, Below.refl _ _⟩
  | true =>
    have c1 := Lib.hid fun w => isName_ref a w ha true h1
    cases h2 : isNm b.data.toList with
    | false =>
      have c2 := Lib.hid fun w => isName_ref b w hb false h2
      go_enter Tryz.func66, Tryz.ntmps66
      go_wp2_with fail
      go_at_call 63
      refine (c1.out _).mono ?_
      rintro e w1 ⟨rfl, rfl⟩
      go_wp2_with fail
      go_at_call 63
      refine (c2.out _).mono ?_
      rintro e w1 ⟨rfl, rfl⟩
      go_wp2_with fail
      go_ret
      exact ⟨rfl, Below.refl _ _⟩
    | true =>
      have c2 := Lib.hid fun w => isName_ref b w hb true h2
      have c3 := Lib.hid fun w => lower_ref a w (Nat.le_trans (isNm_size h1) (by decide)) _ rfl
      have c4 := Lib.hid fun w => lower_ref b w (Nat.le_trans (isNm_size h2) (by decide)) _ rfl
      generalize lowS a.data.toList = x at *
      generalize lowS b.data.toList = y at *
      go_enter Tryz.func66, Tryz.ntmps66
      go_wp2_with fail
      go_at_call 63
      refine (c1.out _).mono ?_
      rintro e w1 ⟨rfl, rfl⟩
      go_wp2_with fail
      go_at_call 63
      refine (c2.out _).mono ?_
      rintro e w1 ⟨rfl, rfl⟩
      go_wp2_with fail
      go_at_call 79
      refine (c3.out _).mono ?_
      rintro e w1 ⟨rfl, b1⟩
      go_wp2_with fail
      go_at_call 79
      refine (c4.out _).mono ?_
      rintro e w2 ⟨rfl, b2⟩
      go_wp2_with fail
      go_ret
      exact ⟨rfl, Below.and b1 b2⟩
end Go.Proofs.YthniggdimfldhaaGreatDoor
