/- The laws' own functions: loud (some of a text's letters made capital). Plain facts: of what is no record nothing is told. -/
import Derived.Test.YtiakbmllpnabnaaGreatDoorKzh
namespace Go.Proofs.YtiakbmllpnabnaaGreatDoor
open Go Go.RowKit Pl

def TextP (P : List UInt8 → Prop) (w : World) (e : Ending) (w' : World) : Prop := ∃ t : List UInt8, P t ∧ e = .returned (.string ⟨t.toArray⟩) ∧ Below w.heap.size w w'
def upB (c : UInt8) : UInt8 := UInt8.ofNat (c.toNat - 32)
/-- a byte, or the capital of a letter -/
def LB (c d : UInt8) : Prop := d = c ∨ (letB c = true ∧ d = upB c)
def LoudL : List UInt8 → List UInt8 → Prop
  | [], [] => True
  | c :: l, d :: z => LB c d ∧ LoudL l z
  | _, _ => False
theorem upB_nat {c : UInt8} (h : letB c = true) : (upB c).toNat = c.toNat - 32 := by
  have := letB_iff.1 h
  unfold upB; rw [UInt8.toNat_ofNat']; omega
theorem LB.low {c d : UInt8} (h : LB c d) : lowB d = lowB c := by
  rcases h with rfl | ⟨h, rfl⟩
  · rfl
  · have h1 := upB_nat h
    have h2 := letB_iff.1 h
    rw [lowB_id (c := c) (by omega)]
    apply UInt8.toNat_inj.1
    rw [lowB_up (by omega) (by omega)]; omega
theorem LoudL.snoc : ∀ {l z : List UInt8} {c d : UInt8}, LoudL l z → LB c d → LoudL (l ++ [c]) (z ++ [d])
  | [], [], _, _, _, h => ⟨h, trivial⟩
  | _ :: _, _ :: _, _, _, ⟨h0, h1⟩, h => ⟨h0, LoudL.snoc h1 h⟩
  | [], _ :: _, _, _, h, _ => h.elim
  | _ :: _, [], _, _, h, _ => h.elim
theorem LoudL.len : ∀ {l z : List UInt8}, LoudL l z → z.length = l.length
  | [], [], _ => rfl
  | _ :: _, _ :: _, ⟨_, h⟩ => by simp [LoudL.len h]
  | [], _ :: _, h => h.elim
  | _ :: _, [], h => h.elim
theorem LoudL.low : ∀ {l z : List UInt8}, LoudL l z → lowS z = lowS l
  | [], [], _ => rfl
  | _ :: _, _ :: _, ⟨h0, h⟩ => by
    have h1 := LoudL.low h
    unfold lowS at *
    rw [List.map_cons, List.map_cons, h0.low, h1]
  | [], _ :: _, h => h.elim
  | _ :: _, [], h => h.elim
theorem take_step (s : ByteArray) (k : Nat) (h : k < s.size) : s.data.toList.take (k + 1) = s.data.toList.take k ++ [s[k]'h] := by
  rw [List.take_succ_eq_append_getElem (by rw [← Lib.size_eq]; exact h), at_list s k h]
set_option maxRecDepth 100000 in
set_option maxHeartbeats 2000000 in
theorem loud_any (s : ByteArray) (bits : Int) (w : World) (hs : s.size ≤ 100000) : Calls Tryz.prog 45 #[.string s, .int .i64 bits] w (TextP (fun t => LoudL s.data.toList t) w) := by
  unfold TextP
  go_enter Tryz.func45, Tryz.ntmps45
  go_wp2
  go_loopw [5, 6] (fun v i wr => ∃ (k : Nat) (z : List UInt8), k ≤ s.size ∧ i = .int .i64 k ∧ LoudL (s.data.toList.take k) z ∧ OwnB wr w.heap.size v z ∧ Below w.heap.size w wr) (fun _ i _ => s.size - (intOf i).toNat)
  case atStart => exact ⟨0, [], Nat.zero_le _, rfl, trivial, OwnB.nil _ _, Below.refl _ _⟩
  case round =>
    obtain ⟨k, z, hk, rfl, hz, hown, hb⟩ := hrel
    by_cases hlt : k < s.size
    · have hlen : z.length ≤ 1000000000 := by rw [hz.len, List.length_take, ← Lib.size_eq]; omega
      have HZ := Lib.hid hz
      clear hz
      by_cases hu : 97 ≤ (s[k]'hlt).toNat ∧ (s[k]'hlt).toNat ≤ 122
      · have HU := Lib.hid (letB_iff.2 hu)
        have HN := Lib.hid (upB_nat HU.out)
        obtain ⟨u1, u2⟩ := hu
        cases hq : (Go.bits BinOp.and IntKind.i64 (bits / 2 ^ (k % 31)) 1 == 1)
        · go_wp2_with (at_builtin; refine wpList_pushb rfl (.tmp 34) (.tmp 36) rfl _ w.heap.size _ _ _ (s[k]'hlt) ?_ rfl hown rfl hb.size hlen ?_; rotate_left; intro v3 w3 hown3 hb3)
          · go_roundw
            case rel => exact ⟨k + 1, _, by omega, by go_num, by rw [take_step s k hlt]; exact HZ.out.snoc (.inl rfl), hown3, hb.trans hb3⟩
            case measure => simp [intOf]; omega
          · rfl
        · go_wp2_with (at_builtin; refine wpList_pushb rfl (.tmp 34) (.tmp 36) rfl _ w.heap.size _ _ _ (upB (s[k]'hlt)) ?_ rfl hown rfl hb.size hlen ?_; rotate_left; intro v3 w3 hown3 hb3)
          · go_roundw
            case rel => exact ⟨k + 1, _, by omega, by go_num, by rw [take_step s k hlt]; exact HZ.out.snoc (.inr ⟨HU.out, rfl⟩), hown3, hb.trans hb3⟩
            case measure => simp [intOf]; omega
          · rw [HN.out]; omega
      · by_cases u1 : 97 ≤ (s[k]'hlt).toNat
        · have u2 : 122 < (s[k]'hlt).toNat := by omega
          clear hu
          go_wp2_with (at_builtin; refine wpList_pushb rfl (.tmp 34) (.tmp 36) rfl _ w.heap.size _ _ _ (s[k]'hlt) ?_ rfl hown rfl hb.size hlen ?_; rotate_left; intro v3 w3 hown3 hb3)
          · go_roundw
            case rel => exact ⟨k + 1, _, by omega, by go_num, by rw [take_step s k hlt]; exact HZ.out.snoc (.inl rfl), hown3, hb.trans hb3⟩
            case measure => simp [intOf]; omega
          · rfl
        · clear hu
          go_wp2_with (at_builtin; refine wpList_pushb rfl (.tmp 34) (.tmp 36) rfl _ w.heap.size _ _ _ (s[k]'hlt) ?_ rfl hown rfl hb.size hlen ?_; rotate_left; intro v3 w3 hown3 hb3)
          · go_roundw
            case rel => exact ⟨k + 1, _, by omega, by go_num, by rw [take_step s k hlt]; exact HZ.out.snoc (.inl rfl), hown3, hb.trans hb3⟩
            case measure => simp [intOf]; omega
          · rfl
    · rw [take_all s (by omega)] at hz
      have hcv := hown.conv
      have HZ := Lib.hid hz
      clear hz hown
      go_wp2
      go_ret
      exact ⟨z, HZ.out, rfl, hb⟩
theorem loud_l (l : List UInt8) (bits : Int) (w : World) (hs : l.length ≤ 100000) : Calls Tryz.prog 45 #[.string ⟨l.toArray⟩, .int .i64 bits] w (TextP (fun t => LoudL l t) w) := loud_any ⟨l.toArray⟩ bits w (by rw [size_mk]; exact hs)
end Go.Proofs.YtiakbmllpnabnaaGreatDoor
namespace Go.Proofs.YtiakbmllpnabnaaGreatDoor
open Go Go.RowKit

theorem parG_write {b : List UInt8} {g : Grt} (h : parG b = some g) : writeG g = some b ∧ g.rnd.length = 32 := by
  rw [par_prog, prog_eq] at h
  exact write_of_parse h
theorem parG_of {g : Grt} (hr : g.rnd.length = 32) (hok : okG g = true) : parG (recG g) = some g := by
  rw [par_prog, prog_eq]
  exact parse_of_write hr (by rw [write_rec, if_pos hok])
theorem parG_ok {b : List UInt8} {g : Grt} (h : parG b = some g) : okG g = true ∧ recG g = b ∧ g.rnd.length = 32 := by
  obtain ⟨h1, h2⟩ := parG_write h
  rw [write_rec] at h1
  by_cases hok : okG g = true
  · rw [if_pos hok] at h1; exact ⟨hok, Option.some.inj h1, h2⟩
  · rw [if_neg hok] at h1; cases h1
theorem okG_iff {g : Grt} (h : okG g = true) : mayG g = true ∧ (msgG g).length ≤ 16384 := by
  unfold okG at h
  rwa [Bool.and_eq_true, decide_eq_true_iff] at h
/-- how long a record says it is -/
def lenR (c : List UInt8) : Nat := be ((c.drop 3).take 2)
theorem rec_len {g : Grt} (h : okG g = true) : (recG g).length = 5 + lenR (recG g) ∧ 9 ≤ (recG g).length ∧ (recG g).length ≤ 16389 := by
  obtain ⟨_, hl⟩ := okG_iff h
  have hml := msgG_len g
  have e : recG g = 22 :: 3 :: UInt8.ofNat g.minor.toNat :: (rowB (msgG g).length 2 ++ msgG g) := rfl
  have e2 : lenR (recG g) = (msgG g).length := by
    unfold lenR
    rw [e]
    show be ((rowB (msgG g).length 2 ++ msgG g).take 2) = _
    rw [List.take_left' (rowB_len _ 2), be_row _ 2 (by omega)]
  have e3 : (recG g).length = 5 + (msgG g).length := by rw [e]; simp [rowB_len]; omega
  rw [e2, e3]
  omega
theorem par_no {c : List UInt8} (h : c.length < 5 ∨ c.length ≠ 5 + lenR c) : parG c = none := by
  cases hp : parG c with
  | none => rfl
  | some g =>
    obtain ⟨h1, h2, _⟩ := parG_ok hp
    have := rec_len h1
    rw [h2] at this
    omega
theorem lenR_of {c d : List UInt8} (h : c.take 5 = d.take 5) : lenR c = lenR d := by
  have e : ∀ x : List UInt8, (x.drop 3).take 2 = (x.take 5).drop 3 := fun x => by rw [List.drop_take]
  unfold lenR
  rw [e, e, h]
theorem gcut_no {g : Grt} (h : okG g = true) {k : Nat} (hk : k < (recG g).length) : parG ((recG g).take k) = none := by
  obtain ⟨h1, _⟩ := rec_len h
  by_cases h5 : k < 5
  · exact par_no (.inl (by rw [List.length_take]; omega))
  · refine par_no (.inr ?_)
    rw [List.length_take, lenR_of (d := recG g) (by rw [List.take_take]; congr 1; omega)]
    omega
theorem gmore_no {g : Grt} (h : okG g = true) {m : List UInt8} (hm : m ≠ []) : parG (recG g ++ m) = none := by
  obtain ⟨h1, h9, _⟩ := rec_len h
  have : 0 < m.length := by cases m with | nil => exact absurd rfl hm | cons _ _ => simp
  refine par_no (.inr ?_)
  rw [List.length_append, lenR_of (d := recG g) (by rw [List.take_append_of_le_length (by omega)])]
  omega
theorem gtwo_no {p x y : List UInt8} (hp : p.length = 3) (hx : x.length < 65536) (hy : y ≠ []) : parG (p ++ [UInt8.ofNat (x.length / 256), UInt8.ofNat x.length] ++ x ++ y) = none := by
  have : 0 < y.length := by cases y with | nil => exact absurd rfl hy | cons _ _ => simp
  have e : lenR (p ++ [UInt8.ofNat (x.length / 256), UInt8.ofNat x.length] ++ x ++ y) = x.length := by
    have h2 := be_row x.length 2 hx
    rw [row2] at h2
    unfold lenR
    rw [List.append_assoc, List.append_assoc, List.drop_left' hp]
    exact h2
  refine par_no (.inr ?_)
  rw [e]
  simp [hp]
  omega
theorem sni_no {c : List UInt8} (h : parG c = none) : sniB c [] 70 = true := by unfold sniB; rw [h]; rfl
theorem sni_yes {c h : List UInt8} {g : Grt} (hp : parG c = some g) (hh : lowV g.host = h) : sniB c h 0 = true := by
  unfold sniB
  rw [hp]
  show (decide (lowV g.host = h) && decide ((0 : Int) = 0)) = true
  rw [hh]
  simp
end Go.Proofs.YtiakbmllpnabnaaGreatDoor
