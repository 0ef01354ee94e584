/- The program's reader: contents. -/
import Derived.Test.YtiakbmllpnabnaaGreatDoorKt
namespace Go.Proofs.YtiakbmllpnabnaaGreatDoor
open Go Go.RowKit

def e8 (B : List UInt8) : Cu := muC (tkC (some B) 2) (decide (nmV (some B) 2 = 771))
def e9 (B : List UInt8) : Cu := tkC (e8 B) 32
def e10 (B : List UInt8) : Cu := flC (e9 B) 1
def e11 (B : List UInt8) : Cu := muC (flC (e10 B) 2) (decide ((flV (e10 B) 2).length % 2 = 0))
def e12 (B : List UInt8) : Cu := flC (e11 B) 1
def e13 (B : List UInt8) : Cu := reC (e12 B) 2
def grtE (mi : Int) (B : List UInt8) (l : List (Int × List UInt8)) (s : List UInt8) : Grt :=
  ⟨mi, tkV (e8 B) 32, flV (e9 B) 1, suitesL (flV (e10 B) 2), flV (e11 B) 1, s, (atX l : Nat), l.eraseIdx (atX l)⟩
/-- what is made of the extensions -/
def conX (mi : Int) (B : List UInt8) (l : List (Int × List UInt8)) : Option Grt :=
  if h : atX l < l.length then match hoC (l[atX l]).2 with
    | none => none
    | some s => some (grtE mi B l s)
  else none
def conG (mi : Int) (B : List UInt8) : Option Grt :=
  match e13 B with
  | none => none
  | some x => match unA x with
    | none => none
    | some l => conX mi B l
/-- Parse, by what contents tells -/
def parG (b : List UInt8) : Option Grt :=
  match d7 (c4 b) with
  | none => none
  | some B => match conG (nmV (c2 b) 1 : Nat) B with
    | none => none
    | some g => if okG g then some g else none
theorem par_prog (b : List UInt8) : parG b = progG b := by
  unfold parG progG
  cases h7 : d7 (c4 b) with
  | none =>
    have h8 : d8 (c4 b) = none := by unfold d8; rw [h7]; exact muN _
    have h13 : d13 (c4 b) = none := by
      unfold d13 d12 d11 d10 d9
      rw [h8]
      have : ∀ k, flC none k = none := fun _ => rfl
      rw [tkN, this, this, muN, this]
      exact muN _
    rw [h13]
  | some B =>
    have q8 : d8 (c4 b) = e8 B := by unfold d8 e8; rw [h7]
    have q9 : d9 (c4 b) = e9 B := by unfold d9 e9; rw [q8]
    have q10 : d10 (c4 b) = e10 B := by unfold d10 e10; rw [q9]
    have q11 : d11 (c4 b) = e11 B := by unfold d11 e11; rw [q10]
    have q12 : d12 (c4 b) = e12 B := by unfold d12 e12; rw [q11]
    have q13 : d13 (c4 b) = e13 B := by unfold d13 e13; rw [q12]
    have qg : ∀ l s, grtP b l s = grtE (nmV (c2 b) 1 : Nat) B l s := fun l s => by unfold grtP grtE; rw [q8, q9, q10, q11]
    simp only
    rw [q13]
    cases h13 : e13 B with
    | none =>
      have hc : conG (nmV (c2 b) 1 : Nat) B = none := by unfold conG; rw [h13]
      rw [hc]
    | some x =>
      have hc : conG (nmV (c2 b) 1 : Nat) B = match unA x with | none => none | some l => conX (nmV (c2 b) 1 : Nat) B l := by unfold conG; rw [h13]
      rw [hc]
      simp only
      cases hu : unA x with
      | none => rfl
      | some l =>
        simp only
        by_cases hi : atX l < l.length
        · have hx : conX (nmV (c2 b) 1 : Nat) B l = match hoC (l[atX l]).2 with | none => none | some s => some (grtE (nmV (c2 b) 1 : Nat) B l s) := by unfold conX; rw [dif_pos hi]
          rw [hx, dif_pos hi]
          cases hh : hoC (l[atX l]).2 with
          | none => rfl
          | some s => simp only [qg]
        · have hx : conX (nmV (c2 b) 1 : Nat) B l = none := by unfold conX; rw [dif_neg hi]
          rw [hx, dif_neg hi]
/- what stands in memory -/
/-- the greeting's cells -/
def gCells (mi : Int) (rnd : List UInt8) (s u m h p x : Value) : List Value := .int .i64 mi :: (rnd.map fun c => Value.int .u8 (c.toNat : Int)) ++ [s, u, m, h, p, x]
theorem gCells_len (mi : Int) (rnd : List UInt8) (s u m h p x : Value) (hr : rnd.length = 32) : (gCells mi rnd s u m h p x).length = 39 := by
  unfold gCells
  simp [hr]
theorem gCells_at (mi : Int) (rnd : List UInt8) (s u m h p x : Value) (hr : rnd.length = 32) : (gCells mi rnd s u m h p x)[33]? = some s ∧ (gCells mi rnd s u m h p x)[34]? = some u ∧ (gCells mi rnd s u m h p x)[35]? = some m ∧ (gCells mi rnd s u m h p x)[36]? = some h ∧ (gCells mi rnd s u m h p x)[37]? = some p ∧ (gCells mi rnd s u m h p x)[38]? = some x := by
  unfold gCells
  have hl : ((rnd.map fun c => Value.int .u8 (c.toNat : Int))).length = 32 := by rw [List.length_map, hr]
  have : ∀ j, (Value.int .i64 mi :: (rnd.map fun c => Value.int .u8 (c.toNat : Int)) ++ [s, u, m, h, p, x])[33 + j]? = [s, u, m, h, p, x][j]? := fun j => by
    rw [List.getElem?_append_right (by rw [List.length_cons, hl]; omega), List.length_cons, hl]
    congr 1
    omega
  exact ⟨this 0, this 1, this 2, this 3, this 4, this 5⟩
theorem gCells_set (mi : Int) (rnd : List UInt8) (s u m h p x v : Value) (hr : rnd.length = 32) : (gCells mi rnd s u m h p x).set 33 v = gCells mi rnd v u m h p x ∧ (gCells mi rnd s u m h p x).set 34 v = gCells mi rnd s v m h p x ∧ (gCells mi rnd s u m h p x).set 35 v = gCells mi rnd s u v h p x ∧ (gCells mi rnd s u m h p x).set 36 v = gCells mi rnd s u m v p x ∧ (gCells mi rnd s u m h p x).set 37 v = gCells mi rnd s u m h v x ∧ (gCells mi rnd s u m h p x).set 38 v = gCells mi rnd s u m h p v := by
  unfold gCells
  have hl : (Value.int .i64 mi :: (rnd.map fun c => Value.int .u8 (c.toNat : Int))).length = 33 := by rw [List.length_cons, List.length_map, hr]
  have : ∀ j, (Value.int .i64 mi :: (rnd.map fun c => Value.int .u8 (c.toNat : Int)) ++ [s, u, m, h, p, x]).set (33 + j) v = Value.int .i64 mi :: (rnd.map fun c => Value.int .u8 (c.toNat : Int)) ++ [s, u, m, h, p, x].set j v := fun j => by
    rw [List.set_append_right _ _ (by omega), hl]
    congr 2
    omega
  exact ⟨this 0, this 1, this 2, this 3, this 4, this 5⟩
theorem gCells_grt (g : Grt) (a : Adr) (hr : g.rnd.length = 32) : gCells g.minor g.rnd (.slice a.a1 g.ses.length a.c1) (.slice a.a2 g.suites.length a.c2) (.slice a.a3 g.meth.length a.c3) (.string ⟨g.host.toArray⟩) (.int .i64 g.pos) (.slice a.a4 g.exts.length a.c4) = (grtA g a).toList := by
  have h32 : g.rnd = [g.rnd.getD 0 0, g.rnd.getD 1 0, g.rnd.getD 2 0, g.rnd.getD 3 0, g.rnd.getD 4 0, g.rnd.getD 5 0, g.rnd.getD 6 0, g.rnd.getD 7 0, g.rnd.getD 8 0, g.rnd.getD 9 0, g.rnd.getD 10 0, g.rnd.getD 11 0, g.rnd.getD 12 0, g.rnd.getD 13 0, g.rnd.getD 14 0, g.rnd.getD 15 0, g.rnd.getD 16 0, g.rnd.getD 17 0, g.rnd.getD 18 0, g.rnd.getD 19 0, g.rnd.getD 20 0, g.rnd.getD 21 0, g.rnd.getD 22 0, g.rnd.getD 23 0, g.rnd.getD 24 0, g.rnd.getD 25 0, g.rnd.getD 26 0, g.rnd.getD 27 0, g.rnd.getD 28 0, g.rnd.getD 29 0, g.rnd.getD 30 0, g.rnd.getD 31 0] := by
    apply List.ext_getElem
    · rw [hr]; rfl
    · intro i h1 h2
      have : i = 0 ∨ i = 1 ∨ i = 2 ∨ i = 3 ∨ i = 4 ∨ i = 5 ∨ i = 6 ∨ i = 7 ∨ i = 8 ∨ i = 9 ∨ i = 10 ∨ i = 11 ∨ i = 12 ∨ i = 13 ∨ i = 14 ∨ i = 15 ∨ i = 16 ∨ i = 17 ∨ i = 18 ∨ i = 19 ∨ i = 20 ∨ i = 21 ∨ i = 22 ∨ i = 23 ∨ i = 24 ∨ i = 25 ∨ i = 26 ∨ i = 27 ∨ i = 28 ∨ i = 29 ∨ i = 30 ∨ i = 31 := by omega
      rcases this with rfl | rfl | rfl | rfl | rfl | rfl | rfl | rfl | rfl | rfl | rfl | rfl | rfl | rfl | rfl | rfl | rfl | rfl | rfl | rfl | rfl | rfl | rfl | rfl | rfl | rfl | rfl | rfl | rfl | rfl | rfl | rfl <;> (simp only [List.getElem_cons_succ, List.getElem_cons_zero]; rw [List.getD_eq_getElem?_getD, List.getElem?_eq_getElem h1]; rfl)
  unfold gCells
  conv => lhs; rw [h32]
  rfl
theorem RowG.kp {g : Nat} {w w' : World} {base : Nat} {A : Option Addr} {c : Nat} {l : List UInt8} (h : RowG w base A c l) (hb : Kp g w.heap.size w w') (hg : g < base) : RowG w' base A c l :=
  h.keep hb.size fun q e => hb.block q (h.lt e).2 (by have := (h.lt e).1; omega)
theorem RowG.set {g j : Nat} {v : Value} {w : World} {base : Nat} {A : Option Addr} {c : Nat} {l : List UInt8} (h : RowG w base A c l) (hg : g < base) : RowG (w.setCell ⟨g, j, none⟩ v) base A c l :=
  h.keep (by simp [World.setCell]) fun q e => Below.heap_setCell _ _ _ _ (by have := (h.lt e).1; show q ≠ g; omega)
theorem RowV.set {sz g j : Nat} {v : Value} {w : World} {base : Nat} {A : Option Addr} {n c : Nat} {vs : List Value} (h : RowV sz w base A n c vs) (hg : g < base) : RowV sz (w.setCell ⟨g, j, none⟩ v) base A n c vs :=
  h.keep (by simp [World.setCell]) fun q e => Below.heap_setCell _ _ _ _ (by have := (h.lt e).1; show q ≠ g; omega)
theorem Rdr.set {w : World} {g D : Nat} {B : List UInt8} {A : Option Addr} {c : Nat} (h : Rdr w g D B A c) {q j : Nat} {v : Value} (hq : g ≠ q) (hD : D ≤ q) : Rdr (w.setCell ⟨q, j, none⟩ v) g D B A c :=
  ⟨h.cs.keep (by simp [World.setCell]) (Below.heap_setCell _ _ _ _ hq), h.dg, h.rb.keep fun k hk => Below.heap_setCell _ _ _ _ (show k ≠ q by omega), h.le⟩
theorem Cs.kp {w w' : World} {g q : Nat} {l : List Value} (h : Cs w q l) (hb : Kp g w.heap.size w w') (hne : q ≠ g) : Cs w' q l := h.keep hb.size (hb.block q h.lt hne)
theorem Cs.setCells {g : Nat} : ∀ (vs : List Value) (o : Nat) (w : World) (l : List Value), Cs w g l → o + vs.length ≤ l.length → Cs (w.setCells g o vs) g (l.take o ++ vs ++ l.drop (o + vs.length))
  | [], o, w, l, h, _ => by
    have e : l.take o ++ [] ++ l.drop (o + ([] : List Value).length) = l := by simp
    rw [e]; exact h
  | v :: vs, o, w, l, h, hl => by
    rw [List.length_cons] at hl
    have ih := Cs.setCells vs (o + 1) (w.setCell ⟨g, o, none⟩ v) (l.set o v) (h.set o (by omega) v) (by rw [List.length_set]; omega)
    have e : (l.set o v).take (o + 1) ++ vs ++ (l.set o v).drop (o + 1 + vs.length) = l.take o ++ v :: vs ++ l.drop (o + (v :: vs).length) := by
      rw [List.take_succ_eq_append_getElem (by rw [List.length_set]; omega), List.take_set_of_le (Nat.le_refl _), List.getElem_set_self, List.drop_set_of_lt (by omega), List.length_cons, show o + 1 + vs.length = o + (vs.length + 1) by omega]
      simp
    rw [e] at ih
    exact ih
theorem byteCells_eq (X : List UInt8) : Lib.byteCells X = X.map fun c => Value.int .u8 (c.toNat : Int) := rfl
theorem Cs.copy {g : Nat} {w : World} {mi : Int} {r X : List UInt8} {s u m h p x : Value} (hc : Cs w g (gCells mi r s u m h p x)) (hr : r.length = 32) (hX : X.length = 32) : Cs (w.setCells g 1 (Lib.byteCells X)) g (gCells mi X s u m h p x) := by
  have hb : (Lib.byteCells X).length = 32 := by rw [Lib.byteCells_length, hX]
  have := Cs.setCells (Lib.byteCells X) 1 w _ hc (by rw [gCells_len _ _ _ _ _ _ _ _ hr, hb]; decide)
  rw [hb] at this
  have e : (gCells mi r s u m h p x).take 1 ++ Lib.byteCells X ++ (gCells mi r s u m h p x).drop (1 + 32) = gCells mi X s u m h p x := by
    unfold gCells
    have hl : ((r.map fun c => Value.int .u8 (c.toNat : Int))).length = 32 := by rw [List.length_map, hr]
    rw [show (1 + 32 : Nat) = 33 from rfl, List.drop_append_of_le_length (by rw [List.length_cons, hl]; omega), List.drop_of_length_le (by rw [List.length_cons, hl]; omega), byteCells_eq]
    simp
  rw [e] at this
  exact this
theorem run_copy_rnd {g D : Nat} {w : World} {F : Option Addr} {mi : Int} {r X : List UInt8} {s u m h p x : Value} (hF : Rb D w F 32 X) (hX : X.length = 32) (hc : Cs w g (gCells mi r s u m h p x)) (hr : r.length = 32) (ty : TypeId) :
    (Builtin.copy_ #[22, 22] ty #[.slice (some ⟨g, 1, none⟩) 32 32, .slice F 32 32]).run Tryz.prog w = .ok (goInt 32) (w.setCells g 1 (Lib.byteCells X)) := by
  obtain ⟨i0, hi0, _, h1, _⟩ := info_parts info5
  have hsz : (Tryz.prog.info? 5).map (·.size) = some 1 := by rw [hi0]; simp [h1]
  have hb : (Lib.byteCells X).length = 32 := by rw [Lib.byteCells_length, hX]
  obtain ⟨ad, rfl⟩ : ∃ ad, F = some ad := by
    cases F with
    | none => have := hF.nil rfl; cases this
    | some ad => exact ⟨ad, rfl⟩
  have hlen := gCells_len mi r s u m h p x hr
  have := run_copy_cells (P := Tryz.prog) w 22 22 ty 5 g 1 32 32 ad 32 32 (Lib.byteCells X) Tryz.underlying22 hsz (by rw [hb]; rfl)
    (fun j v hj => by
      have hjl : j < X.length := by
        have := (List.getElem?_eq_some_iff.1 hj).1
        rwa [Lib.byteCells_length] at this
      obtain ⟨b, off, e, _, hcl⟩ := hF.rd j hjl
      have e := Option.some.inj e
      rw [e, add_pl, hcl, ← hj]
      unfold Lib.byteCells
      rw [List.getElem?_map, List.getElem?_eq_getElem hjl]
      rfl)
    (fun j hj => by rw [hc.cell (1 + j) (by rw [hlen]; omega), List.getElem?_eq_getElem (by rw [hlen]; omega)]; rfl)
    (fun j hj => hc.free (1 + j) (by rw [hlen]; omega))
    (fun v hv => by
      unfold Lib.byteCells at hv
      obtain ⟨y, _, rfl⟩ := List.mem_map.1 hv
      rfl)
  rw [hb] at this
  exact this
end Go.Proofs.YtiakbmllpnabnaaGreatDoor
