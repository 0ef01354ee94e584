/- Plain facts of runes that are read of bytes: what a rune beyond ASCII is made of. The library: bytes.ContainsAny(line, "\r\n"), every line. The set of bytes, over a program that is a variable (so that the 256 cells stay one word). The library: bytes.IndexAny of few bytes; bytes.ContainsAny. The library's contract of utf8.DecodeRune, laid at this translation's numbers. -/
import Derived.Lib.MapLaws
import Derived.Test.YthniggdimfldhaaGreatDoorNp
import Derived.Test.YthniggdimfldhaaGreatDoorNa
import Derived.Shelf.Strings.AsciiSet
import Derived.Shelf.RegionOpenPlain
import Derived.Laws.Runes
import Derived.Lib.IndexEntry
import Derived.Lib.IndexAny
import Derived.Outline
import Derived.Deep.DeepCutAuto
import Derived.Shelf.Spec.DecodeRune
namespace Go.Proofs.YthniggdimfldhaaGreatDoor
open Go

theorem cr_high {c : UInt8} (h : 128 ≤ c.toNat) : crB c = false := by
  unfold crB
  rw [Bool.or_eq_false_iff, decide_eq_false_iff_not, decide_eq_false_iff_not]
  constructor <;> (rintro rfl; revert h; decide)
/-- What is read of bytes whose first one is beyond ASCII. -/
structure RuneAt (l : List UInt8) (r k : Nat) : Prop where
  one : 1 ≤ k
  le : k ≤ l.length
  four : k ≤ 4
  low : 128 ≤ r
  high : r ≤ 1114111
  no : (l.take k).any crB = false
  enc : r ≠ 65533 → 2 ≤ k ∧ Lib.encodeRune (r : Int) = l.take k ∧ ∀ c ∈ l.take k, 128 ≤ c.toNat
theorem rune_of (l : List UInt8) (hne : l ≠ []) (h0 : 128 ≤ (l.getD 0 0).toNat) : RuneAt l (Lib.decodeL l).1 (Lib.decodeL l).2 := by
  have hl : 0 < l.length := List.length_pos_iff.2 hne
  have he := Lib.encode_decode l hne
  rw [Lib.decodeL_N] at he ⊢
  have k0 := (l.getD 0 0).toNat_lt
  have k1 := (l.getD 1 0).toNat_lt
  have k2 := (l.getD 2 0).toNat_lt
  have k3 := (l.getD 3 0).toNat_lt
  rcases Lib.decodeN_shape l.length (l.getD 0 0).toNat (l.getD 1 0).toNat (l.getD 2 0).toNat (l.getD 3 0).toNat with ⟨c, e⟩ | ⟨c1, c2, c3, cv, e⟩ | ⟨c1, c2, c3, c4, cv, cs, e⟩ | ⟨c1, c2, c3, c4, c5, cv, cw, e⟩ | e
  · omega
  · rw [e] at he ⊢
    have hall : ∀ c ∈ l.take 2, 128 ≤ c.toNat := fun c hc => by
      rw [Lib.takeB l c2] at hc
      simp only [List.mem_cons, List.not_mem_nil, or_false] at hc
      rcases hc with rfl | rfl <;> omega
    exact ⟨by show 1 ≤ 2; decide, by show 2 ≤ _; omega, by show 2 ≤ 4; decide, cv, by show _ ≤ 1114111; omega, List.any_eq_false.2 fun c hc => by rw [cr_high (hall c hc)]; exact Bool.false_ne_true, fun _ => ⟨by show 2 ≤ 2; decide, he (by simp), hall⟩⟩
  · rw [e] at he ⊢
    have hall : ∀ c ∈ l.take 3, 128 ≤ c.toNat := fun c hc => by
      rw [Lib.takeC l c2] at hc
      simp only [List.mem_cons, List.not_mem_nil, or_false] at hc
      rcases hc with rfl | rfl | rfl <;> omega
    exact ⟨by show 1 ≤ 3; decide, by show 3 ≤ _; omega, by show 3 ≤ 4; decide, by show 128 ≤ _; omega, by show _ ≤ 1114111; omega, List.any_eq_false.2 fun c hc => by rw [cr_high (hall c hc)]; exact Bool.false_ne_true, fun _ => ⟨by show 2 ≤ 3; decide, he (by simp), hall⟩⟩
  · rw [e] at he ⊢
    have hall : ∀ c ∈ l.take 4, 128 ≤ c.toNat := fun c hc => by
      rw [Lib.takeD l c2] at hc
      simp only [List.mem_cons, List.not_mem_nil, or_false] at hc
      rcases hc with rfl | rfl | rfl | rfl <;> omega
    exact ⟨by show 1 ≤ 4; decide, by show 4 ≤ _; omega, by show 4 ≤ 4; decide, by show 128 ≤ _; omega, by show _ ≤ 1114111; omega, List.any_eq_false.2 fun c hc => by rw [cr_high (hall c hc)]; exact Bool.false_ne_true, fun _ => ⟨by show 2 ≤ 4; decide, he (by simp), hall⟩⟩
  · rw [e]
    have hall : ∀ c ∈ l.take 1, 128 ≤ c.toNat := fun c hc => by
      rw [Lib.takeA l hl] at hc
      simp only [List.mem_cons, List.not_mem_nil, or_false] at hc
      rcases hc with rfl
      exact h0
    exact ⟨by show 1 ≤ 1; decide, by show 1 ≤ _; omega, by show 1 ≤ 4; decide, by decide, by decide, List.any_eq_false.2 fun c hc => by rw [cr_high (hall c hc)]; exact Bool.false_ne_true, fun h => absurd rfl h⟩
theorem any_more {x : List UInt8} {k n : Nat} (h : (x.take k).any crB = false) (h2 : ((x.drop k).take n).any crB = false) : (x.take (k + n)).any crB = false := by
  rw [List.take_add, List.any_append, h, h2]; rfl
/-- a text of bytes beyond ASCII stands nowhere in 0D 0A, and is another one -/
theorem no_place {t : List UInt8} (h : ∀ c ∈ t, 128 ≤ c.toNat) (hl : 1 ≤ t.length) : Lib.index [13, 10] t = -1 ∧ t ≠ [13, 10] := by
  have hn : t ≠ [13, 10] := fun e => by
    have := h 13 (by rw [e]; simp)
    revert this; decide
  refine ⟨?_, hn⟩
  cases t with
  | nil => simp at hl
  | cons c t =>
    have hc := h c List.mem_cons_self
    refine Lib.index_none fun j _ => ?_
    rw [Bool.eq_false_iff]
    intro ho
    unfold Lib.occAt at ho
    obtain ⟨r, hr⟩ := List.isPrefixOf_iff_prefix.1 ho
    have hm : c ∈ ([13, 10] : List UInt8).drop j := by rw [← hr]; simp
    have hm := List.mem_of_mem_drop hm
    simp only [List.mem_cons, List.not_mem_nil, or_false] at hm
    rcases hm with rfl | rfl <;> revert hc <;> decide
theorem enc_same (r : Nat) : Utf8.encode (r : Int) = ⟨(Lib.encodeRune (r : Int)).toArray⟩ := by
  have e : ∀ (a : Nat) (b : Int), (a : Int) = b → UInt8.ofNat a = b.toNat.toUInt8 := fun a b h => by subst h; simp
  unfold Lib.encodeRune
  by_cases h1 : r < 128
  · have hv : Utf8.valid (r : Int) = true := by unfold Utf8.valid; simp; omega
    rw [Lib.encodeRuneZ_one (by omega) (by omega)]
    unfold Utf8.encode
    simp only [hv, if_true, Int.toNat_natCast]
    rw [if_pos h1]
    simp only [List.map_cons, List.map_nil]
    rw [e r r rfl]
  by_cases h2 : r < 2048
  · have hv : Utf8.valid (r : Int) = true := by unfold Utf8.valid; simp; omega
    rw [Lib.encodeRuneZ_two (by omega) (by omega)]
    unfold Utf8.encode
    simp only [hv, if_true, Int.toNat_natCast]
    rw [if_neg h1, if_pos h2]
    simp only [List.map_cons, List.map_nil]
    rw [e _ (192 + (r : Int) / 64) (by omega), e _ (128 + (r : Int) % 64) (by omega)]
  by_cases h3 : r < 55296 ∨ (57343 < r ∧ r < 65536)
  · have hv : Utf8.valid (r : Int) = true := by unfold Utf8.valid; simp; omega
    rw [Lib.encodeRuneZ_three (by omega)]
    unfold Utf8.encode
    simp only [hv, if_true, Int.toNat_natCast]
    rw [if_neg h1, if_neg h2, if_pos (by omega)]
    simp only [List.map_cons, List.map_nil]
    rw [e _ (224 + (r : Int) / 4096) (by omega), e _ (128 + (r : Int) / 64 % 64) (by omega), e _ (128 + (r : Int) % 64) (by omega)]
  by_cases h4 : 65536 ≤ r ∧ r ≤ 1114111
  · have hv : Utf8.valid (r : Int) = true := by unfold Utf8.valid; simp; omega
    rw [Lib.encodeRuneZ_four (by omega) (by omega)]
    unfold Utf8.encode
    simp only [hv, if_true, Int.toNat_natCast]
    rw [if_neg h1, if_neg h2, if_neg (by omega)]
    simp only [List.map_cons, List.map_nil]
    rw [e _ (240 + (r : Int) / 262144) (by omega), e _ (128 + (r : Int) / 4096 % 64) (by omega), e _ (128 + (r : Int) / 64 % 64) (by omega), e _ (128 + (r : Int) % 64) (by omega)]
  · have hv : Utf8.valid (r : Int) = false := by unfold Utf8.valid; simp; omega
    have hz : Lib.encodeRuneZ (r : Int) = [239, 191, 189] := by
      unfold Lib.encodeRuneZ
      rw [if_neg (by omega), if_neg (by omega), if_neg (by omega), if_neg (by omega)]
    rw [hz]
    unfold Utf8.encode
    simp only [hv, Bool.false_eq_true, if_false]
    decide
end Go.Proofs.YthniggdimfldhaaGreatDoor
namespace Go.Proofs.YthniggdimfldhaaGreatDoor
open Go Go.RowKit Go.Shelf

/-- What of a program these walks need. -/
structure AnyP (P : Program) : Prop where
  f0 : P.funcs[124]? = some Tryz.f124
  f1 : P.funcs[144]? = some Tryz.f144
  f2 : P.funcs[145]? = some Tryz.f145
  f3 : P.funcs[146]? = some Tryz.f146
  t3 : P.underlying 3 = some (TypeDesc.int IntKind.i64)
  a3 : ∀ w, (isAgg 3).run P w = .ok false w
  z3 : ∀ w, (Go.sizeOf 3).run P w = .ok 1 w
  v3 : ∀ w, (zeroValue 3).run P w = .ok (Value.int IntKind.i64 0) w
  t4 : P.underlying 4 = some TypeDesc.bool
  a4 : ∀ w, (isAgg 4).run P w = .ok false w
  z4 : ∀ w, (Go.sizeOf 4).run P w = .ok 1 w
  v4 : ∀ w, (zeroValue 4).run P w = .ok (Value.bool false) w
  t5 : P.underlying 5 = some (TypeDesc.int IntKind.u8)
  a5 : ∀ w, (isAgg 5).run P w = .ok false w
  z5 : ∀ w, (Go.sizeOf 5).run P w = .ok 1 w
  v5 : ∀ w, (zeroValue 5).run P w = .ok (Value.int IntKind.u8 0) w
  t9 : P.underlying 9 = some TypeDesc.string
  a9 : ∀ w, (isAgg 9).run P w = .ok false w
  z9 : ∀ w, (Go.sizeOf 9).run P w = .ok 1 w
  v9 : ∀ w, (zeroValue 9).run P w = .ok (Value.string ⟨#[]⟩) w
  t23 : P.underlying 23 = some (TypeDesc.slice 5)
  a23 : ∀ w, (isAgg 23).run P w = .ok false w
  z23 : ∀ w, (Go.sizeOf 23).run P w = .ok 1 w
  v23 : ∀ w, (zeroValue 23).run P w = .ok (Value.slice none 0 0) w
  t21 : P.underlying 21 = some (TypeDesc.int IntKind.i32)
  a21 : ∀ w, (isAgg 21).run P w = .ok false w
  z21 : ∀ w, (Go.sizeOf 21).run P w = .ok 1 w
  v21 : ∀ w, (zeroValue 21).run P w = .ok (Value.int IntKind.i32 0) w
  tS : P.underlying 140 = some (TypeDesc.array 256 4)
  aS : ∀ w, (isAgg 140).run P w = .ok true w
  zS : ∀ w, (Go.sizeOf 140).run P w = .ok 256 w
  hS : (P.info? 140).map (fun i => (i.zero, i.size)) = some (some (.agg (Array.replicate 256 (.bool false))), 256)
theorem anyP : AnyP Tryz.prog := {
  f0 := Tryz.func124, f1 := Tryz.func144, f2 := Tryz.func145, f3 := Tryz.func146
  t3 := Tryz.underlying3, a3 := Tryz.isAgg3, z3 := Tryz.sizeOf3, v3 := Tryz.zeroValue3
  t4 := Tryz.underlying4, a4 := Tryz.isAgg4, z4 := Tryz.sizeOf4, v4 := Tryz.zeroValue4
  t5 := Tryz.underlying5, a5 := Tryz.isAgg5, z5 := Tryz.sizeOf5, v5 := Tryz.zeroValue5
  t9 := Tryz.underlying9, a9 := Tryz.isAgg9, z9 := Tryz.sizeOf9, v9 := Tryz.zeroValue9
  t23 := Tryz.underlying23, a23 := Tryz.isAgg23, z23 := Tryz.sizeOf23, v23 := Tryz.zeroValue23
  t21 := Tryz.underlying21, a21 := Tryz.isAgg21, z21 := Tryz.sizeOf21, v21 := Tryz.zeroValue21
  tS := Tryz.underlying140, aS := Tryz.isAgg140, zS := Tryz.sizeOf140, hS := by kernel_rfl }
theorem has_cr (c : UInt8) : ([13, 10] : List UInt8).contains c = crB c := by
  unfold crB
  rw [Bool.eq_iff_iff]
  simp
section
variable {P : Program}
set_option maxRecDepth 100000 in
theorem should_o (L : AnyP P) (n : Int) (w : World) : Calls P 144 #[.int .i64 n] w fun e w' => e = .returned (.bool (decide (8 < n))) ∧ w' = w := by
  have t3 := L.t3; have a3 := L.a3; have z3 := L.z3; have v3 := L.v3
  have t4 := L.t4; have a4 := L.a4; have z4 := L.z4; have v4 := L.v4
  go_enter L.f1, Tryz.ntmps144
  go_wp2
  go_ret
  exact ⟨rfl, rfl⟩
set_option maxHeartbeats 4000000 in
set_option maxRecDepth 1000000 in
theorem mset_o (L : AnyP P) (w : World) : Calls P 145 #[.string ⟨#[13, 10]⟩] w fun e w' =>
    e = .returned (.tuple #[.agg (Lib.setCells [13, 10]), .bool true]) ∧ w' = w.alloc (.cells (Lib.setCells [13, 10]) 140) := by
  have hv116 := (zero_of_info L.hS).1
  have hi116 := (zero_of_info L.hS).2
  have t3 := L.t3; have a3 := L.a3; have z3 := L.z3; have v3 := L.v3
  have t4 := L.t4; have a4 := L.a4; have z4 := L.z4; have v4 := L.v4
  have t5 := L.t5; have a5 := L.a5; have z5 := L.z5; have v5 := L.v5
  have t9 := L.t9; have a9 := L.a9; have z9 := L.z9; have v9 := L.v9
  have tS := L.tS
  go_enter L.f2, Tryz.ntmps145
  go_wp2
  rw [← Lib.setCells_nil]
  go_loopg [4] 2 (fun g s4 wx => ∃ i : Nat, i + g = 2 ∧ s4 = .int .i64 i ∧ wx = w.alloc (.cells (Lib.setCells (([13, 10] : List UInt8).take i)) 140))
  case atStart => exact ⟨0, by omega, rfl, rfl⟩
  case round =>
    obtain ⟨i, hig, rfl, rfl⟩ := hrel
    cases gk with
    | zero =>
      obtain rfl : i = 2 := by omega
      have hld := run_loadVar_new (P := P) w 140 (Lib.setCells [13, 10]) 256 4 L.tS (by rw [Lib.setCells_size]; exact hi116)
      have hsz := Lib.setCells_size [13, 10]
      have hlc := run_loadCellsFrom_new (P := P) w 140 (Lib.setCells [13, 10]) 256 hsz
      have hsc := run_storeCells_new (P := P) w 140 (Lib.setCells [13, 10]) (Lib.setCells [13, 10]) (by rw [hsz]; exact hi116) rfl (Lib.setCells_one _)
      rw [show (([13, 10] : List UInt8).take 2) = [13, 10] from rfl]
      go_wp2
      simp only [L.aS, L.zS, Result.andThen, ↓reduceIte, hlc]
      rw [Oper.upon_value]
      go_wp2
      simp only [L.zS, Result.andThen, ↓reduceIte, hsc]
      rw [Oper.upon_skip]
      go_wp2
      (try simp only [Exit.inBlock, Exit.then])
      refine bodyPost_ret (v := .tuple #[.agg (Lib.setCells [13, 10]), .bool true]) ?_ rfl ⟨rfl, rfl⟩
      rw [results_cell_tmp rfl]
      simp [asAddr, Result.andThen, hld]
    | succ g =>
      have hx : ∃ x : UInt8, ([13, 10] : List UInt8)[i]? = some x ∧ x.toNat < 128 ∧ ∀ h : i < (⟨#[13, 10]⟩ : ByteArray).size, (⟨#[13, 10]⟩ : ByteArray)[i] = x := by
        rcases (show i = 0 ∨ i = 1 by omega) with rfl | rfl
        · exact ⟨13, rfl, by decide, fun _ => rfl⟩
        · exact ⟨10, rfl, by decide, fun _ => rfl⟩
      obtain ⟨x, hxl, h128, hx⟩ := hx
      have hi : i < (⟨#[13, 10]⟩ : ByteArray).size := by show i < 2; omega
      have hiz : (i : Int) < 2 := by omega
      have hx := hx hi
      have hx128 : ¬ ((128 : Int) ≤ (x.toNat : Int)) := by omega
      have hx256 : (x.toNat : Int) < 256 := by omega
      have hcell := Lib.setCells_at (([13, 10] : List UInt8).take i) x
      have Hx := Lib.hid hxl
      clear hxl
      go_wp2
      go_roundg g
      case measure => omega
      case rel => exact ⟨i + 1, by omega, by first | rfl | simp, by rw [List.take_add_one, Hx.out]; simp only [Option.toList]; rw [Lib.setCells_snoc]⟩
set_option maxHeartbeats 2000000 in
set_option maxRecDepth 1000000 in
theorem contains_o (L : AnyP P) (b : Nat) (x : UInt8) (v : Bool) (w : World) (hc : w.cell? ⟨b, x.toNat, none⟩ = some (.bool v)) :
    Calls P 146 #[.pointer (some ⟨b, 0, none⟩), .int .u8 x.toNat] w fun e w' => e = .returned (.bool v) ∧ w' = w := by
  have hx256 : (x.toNat : Int) < 256 := by have := UInt8.toNat_lt x; omega
  have t4 := L.t4; have a4 := L.a4; have z4 := L.z4; have v4 := L.v4
  have t5 := L.t5; have a5 := L.a5; have z5 := L.z5; have v5 := L.v5
  have tS := L.tS
  go_enter L.f3, Tryz.ntmps146
  go_wp2
  go_ret
  exact ⟨rfl, rfl⟩
/-- where a byte of a line's end stands, or less than 0 -/
def AnyPost (x : List UInt8) (w : World) (e : Ending) (w' : World) : Prop := ∃ n : Int, e = .returned (.int .i64 n) ∧ decide (0 ≤ n) = x.any crB ∧ Below w.heap.size w w'
set_option maxHeartbeats 8000000 in
set_option maxRecDepth 1000000 in
theorem indexAny_long (L : AnyP P) (b off c : Nat) (x : List UInt8) (w : World) (h8 : 8 < x.length) (hs : x.length ≤ 1000000) (_hcap : x.length ≤ c) (hb : b < w.heap.size)
    (hr : ∀ i (hi : i < x.length), w.cell? ⟨b, off + i, none⟩ = some (.int .u8 (x[i].toNat : Int))) :
    Calls P 124 #[.slice (some ⟨b, off, none⟩) x.length c, .string ⟨#[13, 10]⟩] w (AnyPost x w) := by
  have hi116 := (zero_of_info L.hS).2
  have hv116 := (zero_of_info L.hS).1
  have hM := Lib.hid (mset_o L w)
  have hn1 : ((x.length : Int) == 1) = false := beq_eq_false_iff_ne.2 (by omega)
  have h8z : decide ((8 : Int) < (x.length : Int)) = true := decide_eq_true (by omega)
  have hsc : (storeCells ⟨w.heap.size + 1, 0, none⟩ (Lib.setCells [13, 10]).toList 0).run P ((w.alloc (.cells (Lib.setCells [13, 10]) 140)).alloc (.cells (Array.replicate 256 (.bool false)) 140)) =
      .ok () ((w.alloc (.cells (Lib.setCells [13, 10]) 140)).alloc (.cells (Lib.setCells [13, 10]) 140)) := by
    have := run_storeCells_new (P := P) (w.alloc (.cells (Lib.setCells [13, 10]) 140)) 140 (Array.replicate 256 (.bool false)) (Lib.setCells [13, 10]) (by rw [Lib.setCells_size]; exact hi116) (by rw [Lib.setCells_size, Array.size_replicate]) (Lib.setCells_one _)
    simpa using this
  have hsz := Lib.setCells_size [13, 10]
  have HC := Lib.hid fun y : UInt8 => show ((w.alloc (.cells (Lib.setCells [13, 10]) 140)).alloc (.cells (Lib.setCells [13, 10]) 140)).cell? ⟨w.heap.size + 1, y.toNat, none⟩ = some (.bool (crB y)) by
    rw [World.cell?_alloc_at _ _ _ _ (by simp), Lib.setCells_at, has_cr]
  have hbel : Below w.heap.size w ((w.alloc (.cells (Lib.setCells [13, 10]) 140)).alloc (.cells (Lib.setCells [13, 10]) 140)) := ((Below.refl _ _).alloc (Nat.le_refl _) _).alloc (by simp) _
  have HR := Lib.hid fun i (hi : i < x.length) => (hbel.cell (p := ⟨b, off + i, none⟩) hb).trans (hr i hi)
  have HB := Lib.hid hbel
  clear hr hbel hb
  have t3 := L.t3; have a3 := L.a3; have z3 := L.z3; have v3 := L.v3
  have t4 := L.t4; have a4 := L.a4; have z4 := L.z4; have v4 := L.v4
  have t5 := L.t5; have a5 := L.a5; have z5 := L.z5; have v5 := L.v5
  have t9 := L.t9; have a9 := L.a9; have z9 := L.z9; have v9 := L.v9
  have t21 := L.t21; have a21 := L.a21; have z21 := L.z21; have v21 := L.v21
  have t23 := L.t23; have a23 := L.a23; have z23 := L.z23; have v23 := L.v23
  have tS := L.tS
  have e1 : ∀ args w, (callFunc 144 args).run P w = .ok (.enter 144 args) w := enters_of L.f1 (by kernel_rfl) rfl
  have e2 : ∀ args w, (callFunc 145 args).run P w = .ok (.enter 145 args) w := enters_of L.f2 (by kernel_rfl) rfl
  have e3 : ∀ args w, (callFunc 146 args).run P w = .ok (.enter 146 args) w := enters_of L.f3 (by kernel_rfl) rfl
  go_enter L.f0, Tryz.ntmps124
  go_wp2_with (first
    | (go_at_fn 144; refine (should_o L _ _).mono ?_; rintro e w' ⟨rfl, hw⟩; rw [hw, h8z])
    | (go_at_fn 145; refine hM.out.mono ?_; rintro e w' ⟨rfl, hw⟩; rw [hw]))
  simp only [L.zS, Result.andThen, ↓reduceIte, hsc]
  rw [Oper.upon_skip]
  go_wp2
  clear hM hsc
  go_loopg [62] x.length (fun g s8 wx => ∃ i : Nat, i + g = x.length ∧ s8 = .int .i64 i ∧ wx = ((w.alloc (.cells (Lib.setCells [13, 10]) 140)).alloc (.cells (Lib.setCells [13, 10]) 140)) ∧ Hid ((x.take i).any crB = false))
  case atStart => exact ⟨0, by omega, rfl, rfl, by show _ = _; rfl⟩
  case round =>
    obtain ⟨i, hig, rfl, rfl, HN⟩ := hrel
    cases gk with
    | zero =>
      obtain rfl : i = x.length := by omega
      have hiz : ¬ ((x.length : Int) < (x.length : Int)) := by omega
      have HN' : Hid (x.any crB = false) := by have := HN.out; rwa [List.take_length] at this
      clear HN
      go_wp2
      go_ret
      exact Exists.intro (-1) ⟨rfl, by rw [HN'.out]; rfl, HB.out⟩
    | succ g =>
      have hi : i < x.length := by omega
      have hiz : (i : Int) < (x.length : Int) := by omega
      have hcl := HR.out i hi
      have HT := Lib.hid (List.take_append_getElem hi)
      have HM := Lib.hid (List.getElem_mem hi)
      generalize x[i] = y at *
      have hcx := HC.out y
      cases hin : crB y <;> rw [hin] at hcx
      · have HN' : Hid ((x.take (i + 1)).any crB = false) := by show _ = _; rw [← HT.out, List.any_append, HN.out]; simp [hin]
        clear HN HT hin
        go_wp2_with (go_at_fn 146; refine (contains_o L _ y _ _ hcx).mono ?_; rintro e w' ⟨rfl, hw⟩; rw [hw])
        go_roundg g
        case measure => omega
        case rel => exact ⟨i + 1, by omega, by first | rfl | simp, rfl, HN'⟩
      · have HN' : Hid (x.any crB = true) := by show _ = _; exact List.any_eq_true.2 ⟨y, HM.out, hin⟩
        clear HN HT hin
        go_wp2_with (go_at_fn 146; refine (contains_o L _ y _ _ hcx).mono ?_; rintro e w' ⟨rfl, hw⟩; rw [hw])
        go_ret
        exact Exists.intro (i : Int) ⟨rfl, by rw [HN'.out]; simp, HB.out⟩
end
end Go.Proofs.YthniggdimfldhaaGreatDoor
namespace Go.Proofs.YthniggdimfldhaaGreatDoor
open Go Go.RowKit Go.Shelf

def Cells (w : World) (b off : Nat) (l : List UInt8) : Prop := ∀ j (h : j < l.length), w.cell? ⟨b, off + j, none⟩ = some (.int .u8 (l[j].toNat : Int))
theorem Cells.below {w w' : World} {b off : Nat} {l : List UInt8} (h : Cells w b off l) (hb : b < w.heap.size) (hbel : Below w.heap.size w w') : Cells w' b off l := fun j hj => (hbel.cell (p := ⟨b, off + j, none⟩) hb).trans (h j hj)
theorem Cells.drop {w : World} {b off : Nat} {l : List UInt8} (h : Cells w b off l) (k : Nat) : Cells w b (off + k) (l.drop k) := fun j hj => by
  have hj' : k + j < l.length := by rw [List.length_drop] at hj; omega
  rw [Nat.add_assoc, h (k + j) hj']
  simp
/-- unicode/utf8.DecodeRune of bytes beyond ASCII -/
def DecR : Prop := ∀ (l : List UInt8) (b off n cap : Nat) (w : World), n = l.length → Gl w → l ≠ [] → Cells w b off l →
  Calls Tryz.prog 147 #[.slice (some ⟨b, off, none⟩) n cap] w fun e w' => e = .returned (.tuple #[.int .i32 ((Lib.decodeL l).1 : Int), .int .i64 ((Lib.decodeL l).2 : Int)]) ∧ Below w.heap.size w w'
theorem ix_cr (y : UInt8) : decide (0 ≤ Lib.indexByte [13, 10] y) = crB y := by rw [← has_cr, Lib.contains_iff_indexByte]
theorem iter_below (w : World) (s : ByteArray) (i : Nat) : Below w.heap.size w (w.iter s i) := (Below.refl _ _).alloc (Nat.le_refl _) _
set_option maxHeartbeats 4000000 in
set_option maxRecDepth 100000 in
theorem indexAny_short (HD : Hid DecR) (b off c : Nat) (x : List UInt8) (w : World) (hG : Gl w) (h2 : 2 ≤ x.length) (h8 : x.length ≤ 8) (hcap : x.length ≤ c) (hb : b < w.heap.size) (hr : Cells w b off x) :
    Calls Tryz.prog 124 #[.slice (some ⟨b, off, none⟩) x.length c, .string ⟨#[13, 10]⟩] w (AnyPost x w) := by
  have hn1 : ((x.length : Int) == 1) = false := beq_eq_false_iff_ne.2 (by omega)
  have h8z : decide ((8 : Int) < (x.length : Int)) = false := decide_eq_false (by omega)
  have HR := Lib.hid hr
  have HG := Lib.hid hG
  have HB := Lib.hid hb
  clear hr hG hb
  go_enter Tryz.func124, Tryz.ntmps124
  go_wp2_with (go_at_call 144; refine (should_o anyP _ _).mono ?_; rintro e w' ⟨rfl, hw⟩; rw [hw, h8z])
  go_loopw [12] (fun i wr => ∃ k : Nat, k ≤ x.length ∧ i = .int .i64 k ∧ Hid ((x.take k).any crB = false) ∧ Hid (Below w.heap.size w wr)) (fun i _ => x.length - (intOf i).toNat)
  case atStart => exact ⟨0, Nat.zero_le _, rfl, by show _ = _; rfl, Below.refl _ _⟩
  case round =>
    obtain ⟨k, hk, rfl, HN, HBw⟩ := hrel
    by_cases hlt : k < x.length
    · have hcl := (HR.out.below HB.out HBw.out) k hlt
      have i1 : (0 : Int) ≤ k := by omega
      have i2 : (k : Int) < x.length := by omega
      have HT := Lib.hid (List.take_append_getElem hlt)
      have HM := Lib.hid (List.getElem_mem hlt)
      have HD0 := Lib.hid (show (x.drop k).getD 0 0 = x[k] by rw [List.getD_eq_getElem?_getD, List.getElem?_drop, Nat.add_zero, List.getElem?_eq_getElem hlt]; rfl)
      generalize x[k] = y at *
      by_cases h128 : y.toNat < 128
      · have hix := ix_cr y
        cases hin : crB y <;> rw [hin] at hix
        · have hneg : ¬ (0 ≤ Lib.indexByte [13, 10] y) := of_decide_eq_false hix
          have HN' : Hid ((x.take (k + 1)).any crB = false) := by show _ = _; rw [← HT.out, List.any_append, HN.out]; simp [hin]
          clear HN hin hix HT HD0
          go_wp2_with fail
          rw [run_callFunc_extern Tryz.func138 (by kernel_rfl) (by kernel_rfl) (by kernel_rfl) (e := Extern.BytealgIndexByte.indexByte) (by kernel_rfl), Lib.run_indexByteString]
          simp only [Result.andThen]
          rw [Oper.upon_value]
          rw [show ((y.toNat : Int)).toNat.toUInt8 = y by simp]
          go_wp2_with fail
          go_roundw
          case rel => exact ⟨k + 1, by omega, by go_num, HN', HBw⟩
          case measure => simp [intOf]; omega
        · have hpos : 0 ≤ Lib.indexByte [13, 10] y := of_decide_eq_true hix
          have HN' : Hid (x.any crB = true) := by show _ = _; exact List.any_eq_true.2 ⟨y, HM.out, hin⟩
          clear HN hin hix HT HD0
          go_wp2_with fail
          rw [run_callFunc_extern Tryz.func138 (by kernel_rfl) (by kernel_rfl) (by kernel_rfl) (e := Extern.BytealgIndexByte.indexByte) (by kernel_rfl), Lib.run_indexByteString]
          simp only [Result.andThen]
          rw [Oper.upon_value]
          rw [show ((y.toNat : Int)).toNat.toUInt8 = y by simp]
          go_wp2_with fail
          go_ret
          exact Exists.intro (k : Int) ⟨rfl, by rw [HN'.out]; simp, HBw.out⟩
      · have hne : x.drop k ≠ [] := fun e => by have := congrArg List.length e; simp at this; omega
        have hR := rune_of (x.drop k) hne (by rw [HD0.out]; omega)
        have hrl := HR.out.below HB.out HBw.out
        have C := Lib.hid (HD.out (x.drop k) b (off + k) (x.length - k) (c - k) wr (by simp) (HG.out.fresh HBw.out) hne (hrl.drop k))
        have HN2 := Lib.hid (any_more HN.out hR.no)
        have h1 := hR.one
        have hle := hR.le
        rw [List.length_drop] at hle
        have hw4 := hR.four
        have hlow := hR.low
        have hhigh := hR.high
        have hE := Lib.hid hR.enc
        clear hR hrl HN HT HD0 HM hne
        generalize (Lib.decodeL (x.drop k)).1 = r at *
        generalize (Lib.decodeL (x.drop k)).2 = wd at *
        have hkc : ¬ (c = k) := by omega
        have y256 := y.toNat_lt
        have hm := (HG.out.fresh HBw.out).ml
        go_wp2_with fail
        go_at_call 147
        refine C.out.mono ?_
        rintro e w2 ⟨rfl, hb2⟩
        have HB2 := Lib.hid (Below.and HBw.out hb2)
        clear hb2 C hcl hm
        have HG2 := Lib.hid (HG.out.fresh HB2.out)
        by_cases hr : r = 65533
        · subst hr
          clear hE
          go_wp2_with fail
          obtain ⟨w3, rfl⟩ : ∃ w3 : World, w3 = w2 := ⟨_, rfl⟩
          go_loopg [] 2 (fun g wx => ∃ i : Nat, i + g = 2 ∧ wx = w3.iter ⟨#[13, 10]⟩ i)
          case atStart => exact ⟨0, rfl, rfl⟩
          case round =>
            obtain ⟨i, hig, rfl⟩ := hrel
            cases gk with
            | zero =>
              obtain rfl : i = 2 := by omega
              have hnx := run_next_end (P := Tryz.prog) w3 ⟨#[13, 10]⟩ 2
              go_wp2_with fail
              go_roundw
              case rel => exact ⟨k + wd, by omega, by go_num, HN2, Lib.hid (HB2.out.trans ((iter_below w3 _ _).mono HB2.out.size))⟩
              case measure => simp [intOf]; omega
            | succ g =>
              rcases (show i = 0 ∨ i = 1 by omega) with rfl | rfl
              · have hnx := fun ty => run_next_ascii (P := Tryz.prog) w3 ⟨#[13, 10]⟩ 0 ty (by decide) (by decide)
                have hnx : ∀ ty, _ = _ := hnx
                go_wp2_with fail
                go_roundg g
                case measure => omega
                case rel => exact ⟨1, by omega, rfl⟩
              · have hnx := fun ty => run_next_ascii (P := Tryz.prog) w3 ⟨#[13, 10]⟩ 1 ty (by decide) (by decide)
                go_wp2_with fail
                go_roundg g
                case measure => omega
                case rel => exact ⟨2, by omega, rfl⟩
        · obtain ⟨hw2, henc, hhi⟩ := hE.out hr
          have hrn : ((r : Int) != 65533) = true := by rw [bne_iff_ne]; omega
          have hes := enc_same r
          rw [henc] at hes
          have htl : ((x.drop k).take wd).length = wd := by simp; omega
          obtain ⟨hix, hne2⟩ := no_place hhi (by omega)
          generalize (x.drop k).take wd = t at *
          have hs2 : (Utf8.encode (r : Int)).size = wd := by rw [hes, mk_size]; exact htl
          by_cases h22 : wd = 2
          · have q1 : ((2 : Int) == (wd : Int)) = true := by rw [beq_iff_eq]; omega
            have q2 : (([13, 10] : List UInt8) == (Utf8.encode (r : Int)).toList) = false := by
              rw [hes, Lib.toList_data, beq_eq_false_iff_ne]
              intro e
              exact hne2 (by simpa using e.symm)
            have q3 : ((⟨#[13, 10]⟩ : ByteArray).toList == (Utf8.encode (r : Int)).toList) = false := by rw [Lib.toList_data ⟨#[13, 10]⟩]; exact q2
            clear hes hix hne2 htl hs2 henc hhi hE h22
            go_upto_region 42 with fail
            go_wp2_with fail
            go_roundw
            case rel => exact ⟨k + wd, by omega, by go_num, HN2, HB2⟩
            case measure => simp [intOf]; omega
          · have q1 : ((2 : Int) == (wd : Int)) = false := by rw [beq_eq_false_iff_ne]; omega
            obtain ⟨m, hm⟩ := HG2.out.ml
            by_cases hmw : (wd : Int) ≤ m
            · have hrun := Lib.run_indexString (P := Tryz.prog) ⟨#[13, 10]⟩ (Utf8.encode (r : Int)) w2 2 m (by kernel_rfl) hm (by rw [hs2]; omega) (by rw [hs2]; exact hmw) (by decide)
              have hrun : (Extern.BytealgIndex.index #[.string ⟨#[13, 10]⟩, .string (Utf8.encode (r : Int))]).run Tryz.prog w2 = .ok (.int .i64 (-1)) w2 := by
                rw [hes, mk_toList, hix] at hrun
                rw [hes]
                exact hrun
              clear hes hix hne2 htl hs2 henc hhi hE
              go_wp2_with fail
              rw [run_callFunc_extern Tryz.func120 (by kernel_rfl) (by kernel_rfl) (by kernel_rfl) (e := Extern.BytealgIndex.index) (by kernel_rfl), hrun]
              simp only [Result.andThen]
              rw [Oper.upon_value]
              clear hrun
              go_wp2_with fail
              go_roundw
              case rel => exact ⟨k + wd, by omega, by go_num, HN2, HB2⟩
              case measure => simp [intOf]; omega
            · have r13 : ((r : Int) == (((⟨#[13, 10]⟩ : ByteArray)[0]'(by decide)).toNat : Int)) = false := by
                rw [show (((⟨#[13, 10]⟩ : ByteArray)[0]'(by decide)).toNat : Int) = 13 from rfl, beq_eq_false_iff_ne]; omega
              have r10 : ((r : Int) == (((⟨#[13, 10]⟩ : ByteArray)[1]'(by decide)).toNat : Int)) = false := by
                rw [show (((⟨#[13, 10]⟩ : ByteArray)[1]'(by decide)).toNat : Int) = 10 from rfl, beq_eq_false_iff_ne]; omega
              clear hes hix hne2 htl hs2 henc hhi hE
              go_wp2_with fail
              obtain ⟨w3, rfl⟩ : ∃ w3 : World, w3 = w2 := ⟨_, rfl⟩
              go_loopg [] 2 (fun g wx => ∃ i : Nat, i + g = 2 ∧ wx = w3.iter ⟨#[13, 10]⟩ i)
              case atStart => exact ⟨0, rfl, rfl⟩
              case round =>
                obtain ⟨i, hig, rfl⟩ := hrel
                cases gk with
                | zero =>
                  obtain rfl : i = 2 := by omega
                  have hnx := run_next_end (P := Tryz.prog) w3 ⟨#[13, 10]⟩ 2
                  go_wp2_with fail
                  go_roundw
                  case rel => exact ⟨k + wd, by omega, by go_num, HN2, Lib.hid (HB2.out.trans ((iter_below w3 _ _).mono HB2.out.size))⟩
                  case measure => simp [intOf]; omega
                | succ g =>
                  rcases (show i = 0 ∨ i = 1 by omega) with rfl | rfl
                  · have hnx := fun ty => run_next_ascii (P := Tryz.prog) w3 ⟨#[13, 10]⟩ 0 ty (by decide) (by decide)
                    have hnx : ∀ ty, _ = _ := hnx
                    go_wp2_with fail
                    go_roundg g
                    case measure => omega
                    case rel => exact ⟨1, by omega, rfl⟩
                  · have hnx := fun ty => run_next_ascii (P := Tryz.prog) w3 ⟨#[13, 10]⟩ 1 ty (by decide) (by decide)
                    go_wp2_with fail
                    go_roundg g
                    case measure => omega
                    case rel => exact ⟨2, by omega, rfl⟩
    · obtain rfl : k = x.length := by omega
      have HN' : Hid (x.any crB = false) := by have := HN.out; rwa [List.take_length] at this
      clear HN
      go_wp2_with fail
      go_ret
      exact Exists.intro (-1) ⟨rfl, by rw [HN'.out]; rfl, HBw.out⟩
end Go.Proofs.YthniggdimfldhaaGreatDoor
namespace Go.Proofs
open Go.Shelf
def Tryz.lays7d_ren : Go.Shelf.Ren := ⟨fun | 32 => 147 | 49 => 163 | n => n, fun | 0 => 0 | 3 => 3 | 4 => 4 | 5 => 5 | 21 => 21 | 25 => 104 | 30 => 23 | 33 => 143 | 66 => 160 | 68 => 162 | 69 => 163 | n => n, fun | 2 => 7 | 3 => 8 | n => n⟩
theorem Tryz.lays7d : Go.Proofs.Lays7.n32 Tryz.prog Tryz.lays7d_ren := {
  mixed := by kernel_rfl
  f32 := Tryz.func147.trans (congrArg some (by kernel_rfl))
  f49 := Tryz.func163.trans (congrArg some (by kernel_rfl))
  t0 := Tryz.underlying0
  a0 := Tryz.isAgg0
  z0 := Tryz.sizeOf0
  v0 := Tryz.zeroValue0
  i0 := by kernel_rfl
  t3 := Tryz.underlying3
  a3 := Tryz.isAgg3
  z3 := Tryz.sizeOf3
  v3 := Tryz.zeroValue3
  i3 := by kernel_rfl
  t4 := Tryz.underlying4
  a4 := Tryz.isAgg4
  z4 := Tryz.sizeOf4
  v4 := Tryz.zeroValue4
  i4 := by kernel_rfl
  t5 := Tryz.underlying5
  a5 := Tryz.isAgg5
  z5 := Tryz.sizeOf5
  v5 := Tryz.zeroValue5
  i5 := by kernel_rfl
  t21 := Tryz.underlying21
  a21 := Tryz.isAgg21
  z21 := Tryz.sizeOf21
  v21 := Tryz.zeroValue21
  i21 := by kernel_rfl
  t25 := Tryz.underlying104
  a25 := Tryz.isAgg104
  z25 := Tryz.sizeOf104
  v25 := Tryz.zeroValue104
  i25 := by kernel_rfl
  t30 := Tryz.underlying23
  a30 := Tryz.isAgg23
  z30 := Tryz.sizeOf23
  v30 := Tryz.zeroValue23
  i30 := by kernel_rfl
  t33 := Tryz.underlying143
  a33 := Tryz.isAgg143
  z33 := Tryz.sizeOf143
  v33 := Tryz.zeroValue143
  i33 := by kernel_rfl
  t66 := Tryz.underlying160
  a66 := Tryz.isAgg160
  z66 := Tryz.sizeOf160
  t68 := Tryz.underlying162
  a68 := Tryz.isAgg162
  z68 := Tryz.sizeOf162
  v68 := Tryz.zeroValue162
  i68 := by kernel_rfl
  t69 := Tryz.underlying163
  a69 := Tryz.isAgg163
  z69 := Tryz.sizeOf163
  v69 := Tryz.zeroValue163
  i69 := by kernel_rfl
  g2 := by kernel_rfl
  g3 := by kernel_rfl }
open Go.RowKit Go.Lib in
theorem Tryz.utf8_DecodeRune (s : ByteArray) (b off cap : Nat) (w : World) (hT : Lib.Utf8Tabs 7 8 w) (hp : ∀ j, j < s.size → w.cell? ⟨b, off + j, none⟩ = some (.int .u8 (s.get! j).toNat)) :
    Calls Tryz.prog 147 #[.slice (some ⟨b, off, none⟩) s.size cap] w fun e w' => e = .returned (.tuple #[.int .i32 (Lib.decodeGo s).1, .int .i64 (Lib.decodeGo s).2]) ∧ Below w.heap.size w w' := Any7.utf8_DecodeRune Tryz.lays7d s b off cap w hT hp
end Go.Proofs
namespace Go.Proofs.YthniggdimfldhaaGreatDoor
open Go Go.RowKit Go.Shelf
theorem decR : DecR := fun l b off n cap w hn hG hne hc => by
  subst hn
  have hsz := mk_size l
  have hd : Lib.decodeGo ⟨l.toArray⟩ = Lib.decodeL l := by
    unfold Lib.decodeGo Lib.decodeL
    rw [if_neg (by rw [hsz]; intro e; exact hne (List.eq_nil_of_length_eq_zero e))]
  have := Tryz.utf8_DecodeRune ⟨l.toArray⟩ b off cap w hG.u8 (fun j hj => by
    rw [hsz] at hj
    rw [hc j hj]
    congr 3
    show _ = ((⟨l.toArray⟩ : ByteArray).get! j).toNat
    have hj' : j < (⟨l.toArray⟩ : ByteArray).size := by rw [hsz]; exact hj
    rw [Utf8W.get!_of_lt _ _ hj']
    rfl)
  rw [hsz, hd] at this
  exact this
set_option maxRecDepth 100000 in
theorem indexAny_none (A : Option Addr) (c : Nat) (w : World) : Calls Tryz.prog 124 #[.slice A 0 c, .string ⟨#[13, 10]⟩] w (AnyPost [] w) := by
  go_enter Tryz.func124, Tryz.ntmps124
  go_wp2_with (go_at_call 144; refine (should_o anyP _ _).mono ?_; rintro e w' ⟨rfl, hw⟩; rw [hw])
  go_loopg [12] 0 (fun g i wx => i = .int .i64 0 ∧ wx = w)
  case atStart => exact ⟨rfl, rfl⟩
  case round =>
    obtain ⟨rfl, rfl⟩ := hrel
    go_wp2_with fail
    go_ret
    exact Exists.intro (-1) ⟨rfl, rfl, Below.refl _ _⟩
set_option maxRecDepth 100000 in
theorem indexAny_one (b off c : Nat) (y : UInt8) (w : World) (hc : w.cell? ⟨b, off, none⟩ = some (.int .u8 (y.toNat : Int))) : Calls Tryz.prog 124 #[.slice (some ⟨b, off, none⟩) 1 c, .string ⟨#[13, 10]⟩] w (AnyPost [y] w) := by
  have y256 := y.toNat_lt
  have hix := ix_cr y
  have HA := Lib.hid (show ([y].any crB) = crB y by simp)
  by_cases h128 : y.toNat < 128
  · cases hin : crB y <;> rw [hin] at hix
    · have hneg : ¬ (0 ≤ Lib.indexByte [13, 10] y) := of_decide_eq_false hix
      rw [hin] at HA
      clear hin hix
      go_enter Tryz.func124, Tryz.ntmps124
      go_wp2_with fail
      rw [run_callFunc_extern Tryz.func138 (by kernel_rfl) (by kernel_rfl) (by kernel_rfl) (e := Extern.BytealgIndexByte.indexByte) (by kernel_rfl), Lib.run_indexByteString]
      simp only [Result.andThen]
      rw [Oper.upon_value]
      rw [show ((y.toNat : Int)).toNat.toUInt8 = y by simp]
      go_wp2_with fail
      go_ret
      exact Exists.intro (-1) ⟨rfl, by rw [HA.out]; rfl, Below.refl _ _⟩
    · have hpos : 0 ≤ Lib.indexByte [13, 10] y := of_decide_eq_true hix
      rw [hin] at HA
      clear hin hix
      go_enter Tryz.func124, Tryz.ntmps124
      go_wp2_with fail
      rw [run_callFunc_extern Tryz.func138 (by kernel_rfl) (by kernel_rfl) (by kernel_rfl) (e := Extern.BytealgIndexByte.indexByte) (by kernel_rfl), Lib.run_indexByteString]
      simp only [Result.andThen]
      rw [Oper.upon_value]
      rw [show ((y.toNat : Int)).toNat.toUInt8 = y by simp]
      go_wp2_with fail
      go_ret
      exact Exists.intro 0 ⟨rfl, by rw [HA.out]; rfl, Below.refl _ _⟩
  · have hno := cr_high (c := y) (by omega)
    rw [hno] at HA
    clear hno hix
    go_enter Tryz.func124, Tryz.ntmps124
    go_wp2_with fail
    obtain ⟨w3, rfl⟩ : ∃ w3 : World, w3 = w := ⟨_, rfl⟩
    go_loopg [] 2 (fun g wx => ∃ i : Nat, i + g = 2 ∧ wx = w3.iter ⟨#[13, 10]⟩ i)
    case atStart => exact ⟨0, rfl, rfl⟩
    case round =>
      obtain ⟨i, hig, rfl⟩ := hrel
      cases gk with
      | zero =>
        obtain rfl : i = 2 := by omega
        have hnx := run_next_end (P := Tryz.prog) w3 ⟨#[13, 10]⟩ 2
        go_wp2_with fail
        go_ret
        exact Exists.intro (-1) ⟨rfl, by rw [HA.out]; rfl, iter_below _ _ _⟩
      | succ g =>
        rcases (show i = 0 ∨ i = 1 by omega) with rfl | rfl
        · have hnx := fun ty => run_next_ascii (P := Tryz.prog) w3 ⟨#[13, 10]⟩ 0 ty (by decide) (by decide)
          go_wp2_with fail
          go_roundg g
          case measure => omega
          case rel => exact ⟨1, by omega, rfl⟩
        · have hnx := fun ty => run_next_ascii (P := Tryz.prog) w3 ⟨#[13, 10]⟩ 1 ty (by decide) (by decide)
          go_wp2_with fail
          go_roundg g
          case measure => omega
          case rel => exact ⟨2, by omega, rfl⟩
theorem Rb.cells {D : Nat} {w : World} {A : Option Addr} {c : Nat} {x : List UInt8} (h : Rb D w A c x) (h0 : 0 < x.length) : ∃ b off, A = some ⟨b, off, none⟩ ∧ b < D ∧ Cells w b off x := by
  obtain ⟨b, off, e, hl, _⟩ := h.rd 0 h0
  refine ⟨b, off, e, hl, fun j hj => ?_⟩
  obtain ⟨b', off', e', _, hc⟩ := h.rd j hj
  cases e.symm.trans e'
  exact hc
theorem indexAny_any {D : Nat} {A : Option Addr} {c : Nat} {x : List UInt8} {w : World} (h : Rb D w A c x) (hD : D ≤ w.heap.size) (hG : Gl w) (hs : x.length ≤ 1000000) :
    Calls Tryz.prog 124 #[.slice A x.length c, .string ⟨#[13, 10]⟩] w (AnyPost x w) := by
  by_cases h0 : x.length = 0
  · obtain rfl : x = [] := List.eq_nil_of_length_eq_zero h0
    exact indexAny_none A c w
  · obtain ⟨b, off, rfl, hb, hc⟩ := h.cells (by omega)
    by_cases h1 : x.length = 1
    · match x, h1, hc with
      | [y], _, hc => exact indexAny_one b off c y w (hc 0 (by show 0 < 1; decide))
    · by_cases h8 : x.length ≤ 8
      · exact indexAny_short decR b off c x w hG (by omega) h8 h.cap (by omega) hc
      · exact indexAny_long anyP b off c x w (by omega) hs h.cap (by omega) hc
set_option maxRecDepth 100000 in
/-- bytes.ContainsAny of a line's bytes -/
theorem containsAny_any {D : Nat} {A : Option Addr} {c : Nat} {x : List UInt8} {w : World} (h : Rb D w A c x) (hD : D ≤ w.heap.size) (hG : Gl w) (hs : x.length ≤ 1000000) :
    Calls Tryz.prog 107 #[.slice A x.length c, .string ⟨#[13, 10]⟩] w fun e w' => e = .returned (.bool (x.any crB)) ∧ Below w.heap.size w w' := by
  have C := Lib.hid (indexAny_any h hD hG hs)
  go_enter Tryz.func107, Tryz.ntmps107
  go_wp2_with fail
  go_at_call 124
  refine C.out.mono ?_
  rintro e w1 ⟨n, rfl, hn, hb⟩
  clear C
  have HN := Lib.hid hn
  clear hn
  go_wp2_with fail
  go_ret
  exact ⟨ret_bool HN.out, hb⟩
end Go.Proofs.YthniggdimfldhaaGreatDoor
