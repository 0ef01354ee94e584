/- The program's reader: read, of each field. -/
import Derived.Test.YtajkbkllgbalkaaUk
namespace Go.Proofs.Ytajkbkllgbalkaa
open Go Go.RowKit

/-- what read hands back -/
def RedP (base g D : Nat) (q : Psh) (st : St) (w : World) (E : Ending) (w' : World) : Prop :=
  ∃ A n c, E = .returned (.agg (pshA q A n c)) ∧ Own w' base (.slice A n c) q.lines ∧ RdP 75 g D st w w'
theorem pshA_one (p : Psh) (A : Option Addr) (n c : Nat) : (pshA p A n c).all (·.oneCell') = true := by kernel_rfl
theorem below_setRow11 {B g : Nat} {w0 w : World} (hb : Below B w0 w) (hBg : B ≤ g) (cs : Array Value) : Below B w0 (w.setRow g cs) := by
  obtain ⟨h1, h2, h3, h4, h5⟩ := hb
  exact ⟨h1, h2, h3, by rw [size_setRow]; exact h4, fun k hk => (setRow_other _ _ _ _ (by omega)).trans (h5 k hk)⟩
/-- both boxes of read -/
structure Two (w : World) (b : Nat) (q : Array Value) (z : Array Value) : Prop where
  p : Box w b 24 q
  r : Box w (b + 1) 24 z
/-- the end of read: the packet is laid into the result's box -/
theorem read_fin {base g D b : Nat} {q : Psh} {st : St} {w wy : World} {A : Option Addr} {n c : Nat} {z : Array Value} (h2 : Two wy b (pshA q A n c) z) (ho : Own wy base (.slice A n c) q.lines) (hob : ∀ k, (Value.slice A n c).ownBlock = some k → k < b ∨ b + 1 < k) (hk : Kp g w.heap.size w wy) (hb : w.heap.size ≤ b) (hgb : g < b) (hr : ∃ A' n' c' e', Rdm 75 wy g D st A' n' c' e') :
    Own (wy.setRow (b + 1) (pshA q A n c)) base (.slice A n c) q.lines ∧ RdP 75 g D st w (wy.setRow (b + 1) (pshA q A n c)) ∧ Box (wy.setRow (b + 1) (pshA q A n c)) (b + 1) 24 (pshA q A n c) := by
  have hbl : Below (b + 1) wy (wy.setRow (b + 1) (pshA q A n c)) := below_setRow11 (Below.refl _ _) (Nat.le_refl _) _
  refine ⟨World.ownsRow.kept (row := some (b + 1)) ho ⟨rfl, rfl, rfl, by rw [size_setRow]; exact Nat.le_refl _, fun k hk' hne => setRow_other _ _ _ _ fun e => hne (by rw [e])⟩ ?_, ⟨hk.trans (kp_below (hbl.mono (by omega))), ?_⟩, ?_⟩
  · cases hv : (Value.slice A n c).ownBlock with
    | none => simp
    | some k =>
      have := hob k hv
      simp
      omega
  · obtain ⟨A', n', c', e', h⟩ := hr
    exact ⟨A', n', c', e', h.low hbl (by omega)⟩
  · exact setRow_heap wy (b + 1) z _ _ _ h2.r
set_option maxRecDepth 100000 in
set_option maxHeartbeats 400000 in
theorem read_0 {w : World} {base g D : Nat} {st : St} {A : Option Addr} {n c : Nat} {e : Int} {p : Psh} {B : Option Addr} {m d : Nat} (hr : Rdm 75 w g D st A n c e) (ho : Own w base (.slice B m d) p.lines) (hg : g < base) :
    Calls Try.prog 56 #[.pointer (some ⟨g, 0, none⟩), .agg (pshA p B m d), .int .i64 1] w (RedP base g D (setF p st 0) (rdC st 0) w) := by
  have hb2 : Below w.heap.size w ((w.alloc (.cells (pshA p B m d) 24)).alloc (.cells #[.int .i64 0, .int .i64 0, .int .i64 0, .int .i64 0, .int .i64 0, .int .i64 0, .int .i64 0, .string { data := #[] }, .slice none 0 0] 24)) := (below_new w _).alloc (by simp) _
  have hsz : ((w.alloc (.cells (pshA p B m d) 24)).alloc (.cells #[.int .i64 0, .int .i64 0, .int .i64 0, .int .i64 0, .int .i64 0, .int .i64 0, .int .i64 0, .string { data := #[] }, .slice none 0 0] 24)).heap.size = w.heap.size + 2 := by simp
  have HT : Hid (Two ((w.alloc (.cells (pshA p B m d) 24)).alloc (.cells #[.int .i64 0, .int .i64 0, .int .i64 0, .int .i64 0, .int .i64 0, .int .i64 0, .int .i64 0, .string { data := #[] }, .slice none 0 0] 24)) w.heap.size (pshA p B m d) #[.int .i64 0, .int .i64 0, .int .i64 0, .int .i64 0, .int .i64 0, .int .i64 0, .int .i64 0, .string { data := #[] }, .slice none 0 0]) := Lib.hid ⟨(box_new w _ _).below (below_new _ _), by have := box_new (w.alloc (.cells (pshA p B m d) 24)) 24 #[.int .i64 0, .int .i64 0, .int .i64 0, .int .i64 0, .int .i64 0, .int .i64 0, .int .i64 0, .string { data := #[] }, .slice none 0 0]; simpa using this⟩
  have CN := Lib.hid (rnumber_prog (hr.below hb2) 7 (by decide))
  have HO := Lib.hid (ho.below hb2)
  have HOB : Hid (∀ k, (Value.slice B m d).ownBlock = some k → k < w.heap.size) := Lib.hid fun k hk => (World.ownsRow.lt ho k hk).2
  have HB := Lib.hid hb2
  have hgw := hr.box.lt
  have HS : Hid (rdC st 0 = tkC st 7 ∧ setF p st 0 = { p with ver := (nmV st 7 : Nat) }) := Lib.hid ⟨rfl, rfl⟩
  clear hr ho hb2
  unfold RedP
  rw [HS.out.1, HS.out.2]
  unfold NumP RdP at CN
  generalize nmV st 7 = v at *
  generalize tkC st 7 = S at *
  clear HS
  go_enter Try.func56, Try.ntmps56
  go_upto_region 2 with fail
  generalize ((w.alloc (.cells (pshA p B m d) 24)).alloc (.cells #[.int .i64 0, .int .i64 0, .int .i64 0, .int .i64 0, .int .i64 0, .int .i64 0, .int .i64 0, .string { data := #[] }, .slice none 0 0] 24)) = w2 at *
  go_upto_region 7 with (first
    | (go_at_call 69; refine (numberIn_0 _ _).mono ?_; rintro E w1 ⟨rfl, rfl⟩)
    | (go_at_call 54; refine CN.out.mono ?_; rintro E w3 ⟨rfl, hk3, A3, n3, c3, e3, hr3⟩; have K3 := Lib.hid hk3; have R3 := Lib.hid hr3; have hs3 := hk3.size; have T3 : Hid (Two w3 w.heap.size (pshA p B m d) #[.int .i64 0, .int .i64 0, .int .i64 0, .int .i64 0, .int .i64 0, .int .i64 0, .int .i64 0, .string { data := #[] }, .slice none 0 0]) := Lib.hid ⟨HT.out.p.kp hk3 (by omega) (by omega), HT.out.r.kp hk3 (by omega) (by omega)⟩; have d3 := T3.out.p.cell 1; have f3 := T3.out.p.frozen 1; have O3 := Lib.hid (HO.out.kp hk3 (Nat.le_refl _) hg); clear hk3 hr3))
  have hgb : g < w.heap.size := hgw
  have TY : Hid (Two (w3.setCell ⟨w.heap.size, 1, none⟩ (.int .i64 (v : Nat))) w.heap.size (pshA { p with ver := (v : Nat) } B m d) #[.int .i64 0, .int .i64 0, .int .i64 0, .int .i64 0, .int .i64 0, .int .i64 0, .int .i64 0, .string { data := #[] }, .slice none 0 0]) := Lib.hid ⟨T3.out.p.set 1 _, (Below.heap_setCell _ _ _ _ (show w.heap.size + 1 ≠ w.heap.size by omega)).trans T3.out.r⟩
  have hbs : Below w.heap.size w3 (w3.setCell ⟨w.heap.size, 1, none⟩ (.int .i64 (v : Nat))) := (Below.refl _ _).setCell (p := ⟨w.heap.size, 1, none⟩) (Nat.le_refl _) _
  have FIN := Lib.hid (read_fin (base := base) (g := g) (D := D) (st := S) (w := w) (q := { p with ver := (v : Nat) }) TY.out (World.ownsRow.kept (row := some w.heap.size) O3.out ⟨rfl, rfl, rfl, by simp [World.setCell], fun k hk' hne => Below.heap_setCell _ _ _ _ (fun e => hne (by rw [e]))⟩ (by
      cases hv : (Value.slice B m d).ownBlock with
      | none => simp
      | some k => have := HOB.out k hv; simp; omega)) (fun k hk => .inl (HOB.out k hk)) ((kp_below HB.out).trans ((K3.out.mono (by omega)).trans (kp_below hbs))) (Nat.le_refl _) hgb ⟨A3, n3, c3, e3, R3.out.low hbs hgb⟩)
  generalize w3.setCell ⟨w.heap.size, 1, none⟩ (.int .i64 (v : Nat)) = wy at *
  go_wp2_with (first
    | (refine wpList_load_row rfl 24 (.tmp 4) rfl w.heap.size rfl 24 _ (0, 0) _ TY.out.p Try.underlying24 rfl pshInfo ?_)
    | (refine wpList_store_row rfl 24 (.tmp 6) (.tmp 23) rfl (w.heap.size + 1) _ rfl rfl 24 _ TY.out.r pshInfo rfl (pshA_one _ _ _ _) ?_))
  refine bodyPost_ret (results_cell_row rfl _ _ (w.heap.size + 1) 24 _ (0, 0) _ rfl FIN.out.2.2 Try.underlying24 rfl pshInfo) rfl ?_
  exact ⟨B, m, d, rfl, FIN.out.1, FIN.out.2.1⟩
set_option maxRecDepth 100000 in
set_option maxHeartbeats 400000 in
theorem read_1 {w : World} {base g D : Nat} {st : St} {A : Option Addr} {n c : Nat} {e : Int} {p : Psh} {B : Option Addr} {m d : Nat} (hr : Rdm 75 w g D st A n c e) (ho : Own w base (.slice B m d) p.lines) (hg : g < base) :
    Calls Try.prog 56 #[.pointer (some ⟨g, 0, none⟩), .agg (pshA p B m d), .int .i64 2] w (RedP base g D (setF p st 1) (rdC st 1) w) := by
  have hb2 : Below w.heap.size w ((w.alloc (.cells (pshA p B m d) 24)).alloc (.cells #[.int .i64 0, .int .i64 0, .int .i64 0, .int .i64 0, .int .i64 0, .int .i64 0, .int .i64 0, .string { data := #[] }, .slice none 0 0] 24)) := (below_new w _).alloc (by simp) _
  have hsz : ((w.alloc (.cells (pshA p B m d) 24)).alloc (.cells #[.int .i64 0, .int .i64 0, .int .i64 0, .int .i64 0, .int .i64 0, .int .i64 0, .int .i64 0, .string { data := #[] }, .slice none 0 0] 24)).heap.size = w.heap.size + 2 := by simp
  have HT : Hid (Two ((w.alloc (.cells (pshA p B m d) 24)).alloc (.cells #[.int .i64 0, .int .i64 0, .int .i64 0, .int .i64 0, .int .i64 0, .int .i64 0, .int .i64 0, .string { data := #[] }, .slice none 0 0] 24)) w.heap.size (pshA p B m d) #[.int .i64 0, .int .i64 0, .int .i64 0, .int .i64 0, .int .i64 0, .int .i64 0, .int .i64 0, .string { data := #[] }, .slice none 0 0]) := Lib.hid ⟨(box_new w _ _).below (below_new _ _), by have := box_new (w.alloc (.cells (pshA p B m d) 24)) 24 #[.int .i64 0, .int .i64 0, .int .i64 0, .int .i64 0, .int .i64 0, .int .i64 0, .int .i64 0, .string { data := #[] }, .slice none 0 0]; simpa using this⟩
  have CN := Lib.hid (rnumber_prog (hr.below hb2) 7 (by decide))
  have HO := Lib.hid (ho.below hb2)
  have HOB : Hid (∀ k, (Value.slice B m d).ownBlock = some k → k < w.heap.size) := Lib.hid fun k hk => (World.ownsRow.lt ho k hk).2
  have HB := Lib.hid hb2
  have hgw := hr.box.lt
  have HS : Hid (rdC st 1 = tkC st 7 ∧ setF p st 1 = { p with frm := (nmV st 7 : Nat) }) := Lib.hid ⟨rfl, rfl⟩
  clear hr ho hb2
  unfold RedP
  rw [HS.out.1, HS.out.2]
  unfold NumP RdP at CN
  generalize nmV st 7 = v at *
  generalize tkC st 7 = S at *
  clear HS
  go_enter Try.func56, Try.ntmps56
  go_upto_region 2 with fail
  generalize ((w.alloc (.cells (pshA p B m d) 24)).alloc (.cells #[.int .i64 0, .int .i64 0, .int .i64 0, .int .i64 0, .int .i64 0, .int .i64 0, .int .i64 0, .string { data := #[] }, .slice none 0 0] 24)) = w2 at *
  go_upto_region 7 with (first
    | (go_at_call 69; refine (numberIn_1 _ _).mono ?_; rintro E w1 ⟨rfl, rfl⟩)
    | (go_at_call 54; refine CN.out.mono ?_; rintro E w3 ⟨rfl, hk3, A3, n3, c3, e3, hr3⟩; have K3 := Lib.hid hk3; have R3 := Lib.hid hr3; have hs3 := hk3.size; have T3 : Hid (Two w3 w.heap.size (pshA p B m d) #[.int .i64 0, .int .i64 0, .int .i64 0, .int .i64 0, .int .i64 0, .int .i64 0, .int .i64 0, .string { data := #[] }, .slice none 0 0]) := Lib.hid ⟨HT.out.p.kp hk3 (by omega) (by omega), HT.out.r.kp hk3 (by omega) (by omega)⟩; have d3 := T3.out.p.cell 2; have f3 := T3.out.p.frozen 2; have O3 := Lib.hid (HO.out.kp hk3 (Nat.le_refl _) hg); clear hk3 hr3))
  have hgb : g < w.heap.size := hgw
  have TY : Hid (Two (w3.setCell ⟨w.heap.size, 2, none⟩ (.int .i64 (v : Nat))) w.heap.size (pshA { p with frm := (v : Nat) } B m d) #[.int .i64 0, .int .i64 0, .int .i64 0, .int .i64 0, .int .i64 0, .int .i64 0, .int .i64 0, .string { data := #[] }, .slice none 0 0]) := Lib.hid ⟨T3.out.p.set 2 _, (Below.heap_setCell _ _ _ _ (show w.heap.size + 1 ≠ w.heap.size by omega)).trans T3.out.r⟩
  have hbs : Below w.heap.size w3 (w3.setCell ⟨w.heap.size, 2, none⟩ (.int .i64 (v : Nat))) := (Below.refl _ _).setCell (p := ⟨w.heap.size, 2, none⟩) (Nat.le_refl _) _
  have FIN := Lib.hid (read_fin (base := base) (g := g) (D := D) (st := S) (w := w) (q := { p with frm := (v : Nat) }) TY.out (World.ownsRow.kept (row := some w.heap.size) O3.out ⟨rfl, rfl, rfl, by simp [World.setCell], fun k hk' hne => Below.heap_setCell _ _ _ _ (fun e => hne (by rw [e]))⟩ (by
      cases hv : (Value.slice B m d).ownBlock with
      | none => simp
      | some k => have := HOB.out k hv; simp; omega)) (fun k hk => .inl (HOB.out k hk)) ((kp_below HB.out).trans ((K3.out.mono (by omega)).trans (kp_below hbs))) (Nat.le_refl _) hgb ⟨A3, n3, c3, e3, R3.out.low hbs hgb⟩)
  generalize w3.setCell ⟨w.heap.size, 2, none⟩ (.int .i64 (v : Nat)) = wy at *
  go_wp2_with (first
    | (refine wpList_load_row rfl 24 (.tmp 4) rfl w.heap.size rfl 24 _ (0, 0) _ TY.out.p Try.underlying24 rfl pshInfo ?_)
    | (refine wpList_store_row rfl 24 (.tmp 6) (.tmp 23) rfl (w.heap.size + 1) _ rfl rfl 24 _ TY.out.r pshInfo rfl (pshA_one _ _ _ _) ?_))
  refine bodyPost_ret (results_cell_row rfl _ _ (w.heap.size + 1) 24 _ (0, 0) _ rfl FIN.out.2.2 Try.underlying24 rfl pshInfo) rfl ?_
  exact ⟨B, m, d, rfl, FIN.out.1, FIN.out.2.1⟩
set_option maxRecDepth 100000 in
set_option maxHeartbeats 400000 in
theorem read_2 {w : World} {base g D : Nat} {st : St} {A : Option Addr} {n c : Nat} {e : Int} {p : Psh} {B : Option Addr} {m d : Nat} (hr : Rdm 75 w g D st A n c e) (ho : Own w base (.slice B m d) p.lines) (hg : g < base) :
    Calls Try.prog 56 #[.pointer (some ⟨g, 0, none⟩), .agg (pshA p B m d), .int .i64 4] w (RedP base g D (setF p st 2) (rdC st 2) w) := by
  have hb2 : Below w.heap.size w ((w.alloc (.cells (pshA p B m d) 24)).alloc (.cells #[.int .i64 0, .int .i64 0, .int .i64 0, .int .i64 0, .int .i64 0, .int .i64 0, .int .i64 0, .string { data := #[] }, .slice none 0 0] 24)) := (below_new w _).alloc (by simp) _
  have hsz : ((w.alloc (.cells (pshA p B m d) 24)).alloc (.cells #[.int .i64 0, .int .i64 0, .int .i64 0, .int .i64 0, .int .i64 0, .int .i64 0, .int .i64 0, .string { data := #[] }, .slice none 0 0] 24)).heap.size = w.heap.size + 2 := by simp
  have HT : Hid (Two ((w.alloc (.cells (pshA p B m d) 24)).alloc (.cells #[.int .i64 0, .int .i64 0, .int .i64 0, .int .i64 0, .int .i64 0, .int .i64 0, .int .i64 0, .string { data := #[] }, .slice none 0 0] 24)) w.heap.size (pshA p B m d) #[.int .i64 0, .int .i64 0, .int .i64 0, .int .i64 0, .int .i64 0, .int .i64 0, .int .i64 0, .string { data := #[] }, .slice none 0 0]) := Lib.hid ⟨(box_new w _ _).below (below_new _ _), by have := box_new (w.alloc (.cells (pshA p B m d) 24)) 24 #[.int .i64 0, .int .i64 0, .int .i64 0, .int .i64 0, .int .i64 0, .int .i64 0, .int .i64 0, .string { data := #[] }, .slice none 0 0]; simpa using this⟩
  have CN := Lib.hid (rnumber_prog (hr.below hb2) 7 (by decide))
  have HO := Lib.hid (ho.below hb2)
  have HOB : Hid (∀ k, (Value.slice B m d).ownBlock = some k → k < w.heap.size) := Lib.hid fun k hk => (World.ownsRow.lt ho k hk).2
  have HB := Lib.hid hb2
  have hgw := hr.box.lt
  have HS : Hid (rdC st 2 = tkC st 7 ∧ setF p st 2 = { p with node := (nmV st 7 : Nat) }) := Lib.hid ⟨rfl, rfl⟩
  clear hr ho hb2
  unfold RedP
  rw [HS.out.1, HS.out.2]
  unfold NumP RdP at CN
  generalize nmV st 7 = v at *
  generalize tkC st 7 = S at *
  clear HS
  go_enter Try.func56, Try.ntmps56
  go_upto_region 2 with fail
  generalize ((w.alloc (.cells (pshA p B m d) 24)).alloc (.cells #[.int .i64 0, .int .i64 0, .int .i64 0, .int .i64 0, .int .i64 0, .int .i64 0, .int .i64 0, .string { data := #[] }, .slice none 0 0] 24)) = w2 at *
  go_upto_region 7 with (first
    | (go_at_call 69; refine (numberIn_2 _ _).mono ?_; rintro E w1 ⟨rfl, rfl⟩)
    | (go_at_call 54; refine CN.out.mono ?_; rintro E w3 ⟨rfl, hk3, A3, n3, c3, e3, hr3⟩; have K3 := Lib.hid hk3; have R3 := Lib.hid hr3; have hs3 := hk3.size; have T3 : Hid (Two w3 w.heap.size (pshA p B m d) #[.int .i64 0, .int .i64 0, .int .i64 0, .int .i64 0, .int .i64 0, .int .i64 0, .int .i64 0, .string { data := #[] }, .slice none 0 0]) := Lib.hid ⟨HT.out.p.kp hk3 (by omega) (by omega), HT.out.r.kp hk3 (by omega) (by omega)⟩; have d3 := T3.out.p.cell 3; have f3 := T3.out.p.frozen 3; have O3 := Lib.hid (HO.out.kp hk3 (Nat.le_refl _) hg); clear hk3 hr3))
  have hgb : g < w.heap.size := hgw
  have TY : Hid (Two (w3.setCell ⟨w.heap.size, 3, none⟩ (.int .i64 (v : Nat))) w.heap.size (pshA { p with node := (v : Nat) } B m d) #[.int .i64 0, .int .i64 0, .int .i64 0, .int .i64 0, .int .i64 0, .int .i64 0, .int .i64 0, .string { data := #[] }, .slice none 0 0]) := Lib.hid ⟨T3.out.p.set 3 _, (Below.heap_setCell _ _ _ _ (show w.heap.size + 1 ≠ w.heap.size by omega)).trans T3.out.r⟩
  have hbs : Below w.heap.size w3 (w3.setCell ⟨w.heap.size, 3, none⟩ (.int .i64 (v : Nat))) := (Below.refl _ _).setCell (p := ⟨w.heap.size, 3, none⟩) (Nat.le_refl _) _
  have FIN := Lib.hid (read_fin (base := base) (g := g) (D := D) (st := S) (w := w) (q := { p with node := (v : Nat) }) TY.out (World.ownsRow.kept (row := some w.heap.size) O3.out ⟨rfl, rfl, rfl, by simp [World.setCell], fun k hk' hne => Below.heap_setCell _ _ _ _ (fun e => hne (by rw [e]))⟩ (by
      cases hv : (Value.slice B m d).ownBlock with
      | none => simp
      | some k => have := HOB.out k hv; simp; omega)) (fun k hk => .inl (HOB.out k hk)) ((kp_below HB.out).trans ((K3.out.mono (by omega)).trans (kp_below hbs))) (Nat.le_refl _) hgb ⟨A3, n3, c3, e3, R3.out.low hbs hgb⟩)
  generalize w3.setCell ⟨w.heap.size, 3, none⟩ (.int .i64 (v : Nat)) = wy at *
  go_wp2_with (first
    | (refine wpList_load_row rfl 24 (.tmp 4) rfl w.heap.size rfl 24 _ (0, 0) _ TY.out.p Try.underlying24 rfl pshInfo ?_)
    | (refine wpList_store_row rfl 24 (.tmp 6) (.tmp 23) rfl (w.heap.size + 1) _ rfl rfl 24 _ TY.out.r pshInfo rfl (pshA_one _ _ _ _) ?_))
  refine bodyPost_ret (results_cell_row rfl _ _ (w.heap.size + 1) 24 _ (0, 0) _ rfl FIN.out.2.2 Try.underlying24 rfl pshInfo) rfl ?_
  exact ⟨B, m, d, rfl, FIN.out.1, FIN.out.2.1⟩
set_option maxRecDepth 100000 in
set_option maxHeartbeats 400000 in
theorem read_3 {w : World} {base g D : Nat} {st : St} {A : Option Addr} {n c : Nat} {e : Int} {p : Psh} {B : Option Addr} {m d : Nat} (hr : Rdm 75 w g D st A n c e) (ho : Own w base (.slice B m d) p.lines) (hg : g < base) :
    Calls Try.prog 56 #[.pointer (some ⟨g, 0, none⟩), .agg (pshA p B m d), .int .i64 8] w (RedP base g D (setF p st 3) (rdC st 3) w) := by
  have hb2 : Below w.heap.size w ((w.alloc (.cells (pshA p B m d) 24)).alloc (.cells #[.int .i64 0, .int .i64 0, .int .i64 0, .int .i64 0, .int .i64 0, .int .i64 0, .int .i64 0, .string { data := #[] }, .slice none 0 0] 24)) := (below_new w _).alloc (by simp) _
  have hsz : ((w.alloc (.cells (pshA p B m d) 24)).alloc (.cells #[.int .i64 0, .int .i64 0, .int .i64 0, .int .i64 0, .int .i64 0, .int .i64 0, .int .i64 0, .string { data := #[] }, .slice none 0 0] 24)).heap.size = w.heap.size + 2 := by simp
  have HT : Hid (Two ((w.alloc (.cells (pshA p B m d) 24)).alloc (.cells #[.int .i64 0, .int .i64 0, .int .i64 0, .int .i64 0, .int .i64 0, .int .i64 0, .int .i64 0, .string { data := #[] }, .slice none 0 0] 24)) w.heap.size (pshA p B m d) #[.int .i64 0, .int .i64 0, .int .i64 0, .int .i64 0, .int .i64 0, .int .i64 0, .int .i64 0, .string { data := #[] }, .slice none 0 0]) := Lib.hid ⟨(box_new w _ _).below (below_new _ _), by have := box_new (w.alloc (.cells (pshA p B m d) 24)) 24 #[.int .i64 0, .int .i64 0, .int .i64 0, .int .i64 0, .int .i64 0, .int .i64 0, .int .i64 0, .string { data := #[] }, .slice none 0 0]; simpa using this⟩
  have CN := Lib.hid (rnumber_prog (hr.below hb2) 7 (by decide))
  have HO := Lib.hid (ho.below hb2)
  have HOB : Hid (∀ k, (Value.slice B m d).ownBlock = some k → k < w.heap.size) := Lib.hid fun k hk => (World.ownsRow.lt ho k hk).2
  have HB := Lib.hid hb2
  have hgw := hr.box.lt
  have HS : Hid (rdC st 3 = tkC st 7 ∧ setF p st 3 = { p with tick := (nmV st 7 : Nat) }) := Lib.hid ⟨rfl, rfl⟩
  clear hr ho hb2
  unfold RedP
  rw [HS.out.1, HS.out.2]
  unfold NumP RdP at CN
  generalize nmV st 7 = v at *
  generalize tkC st 7 = S at *
  clear HS
  go_enter Try.func56, Try.ntmps56
  go_upto_region 2 with fail
  generalize ((w.alloc (.cells (pshA p B m d) 24)).alloc (.cells #[.int .i64 0, .int .i64 0, .int .i64 0, .int .i64 0, .int .i64 0, .int .i64 0, .int .i64 0, .string { data := #[] }, .slice none 0 0] 24)) = w2 at *
  go_upto_region 7 with (first
    | (go_at_call 69; refine (numberIn_3 _ _).mono ?_; rintro E w1 ⟨rfl, rfl⟩)
    | (go_at_call 54; refine CN.out.mono ?_; rintro E w3 ⟨rfl, hk3, A3, n3, c3, e3, hr3⟩; have K3 := Lib.hid hk3; have R3 := Lib.hid hr3; have hs3 := hk3.size; have T3 : Hid (Two w3 w.heap.size (pshA p B m d) #[.int .i64 0, .int .i64 0, .int .i64 0, .int .i64 0, .int .i64 0, .int .i64 0, .int .i64 0, .string { data := #[] }, .slice none 0 0]) := Lib.hid ⟨HT.out.p.kp hk3 (by omega) (by omega), HT.out.r.kp hk3 (by omega) (by omega)⟩; have d3 := T3.out.p.cell 4; have f3 := T3.out.p.frozen 4; have O3 := Lib.hid (HO.out.kp hk3 (Nat.le_refl _) hg); clear hk3 hr3))
  have hgb : g < w.heap.size := hgw
  have TY : Hid (Two (w3.setCell ⟨w.heap.size, 4, none⟩ (.int .i64 (v : Nat))) w.heap.size (pshA { p with tick := (v : Nat) } B m d) #[.int .i64 0, .int .i64 0, .int .i64 0, .int .i64 0, .int .i64 0, .int .i64 0, .int .i64 0, .string { data := #[] }, .slice none 0 0]) := Lib.hid ⟨T3.out.p.set 4 _, (Below.heap_setCell _ _ _ _ (show w.heap.size + 1 ≠ w.heap.size by omega)).trans T3.out.r⟩
  have hbs : Below w.heap.size w3 (w3.setCell ⟨w.heap.size, 4, none⟩ (.int .i64 (v : Nat))) := (Below.refl _ _).setCell (p := ⟨w.heap.size, 4, none⟩) (Nat.le_refl _) _
  have FIN := Lib.hid (read_fin (base := base) (g := g) (D := D) (st := S) (w := w) (q := { p with tick := (v : Nat) }) TY.out (World.ownsRow.kept (row := some w.heap.size) O3.out ⟨rfl, rfl, rfl, by simp [World.setCell], fun k hk' hne => Below.heap_setCell _ _ _ _ (fun e => hne (by rw [e]))⟩ (by
      cases hv : (Value.slice B m d).ownBlock with
      | none => simp
      | some k => have := HOB.out k hv; simp; omega)) (fun k hk => .inl (HOB.out k hk)) ((kp_below HB.out).trans ((K3.out.mono (by omega)).trans (kp_below hbs))) (Nat.le_refl _) hgb ⟨A3, n3, c3, e3, R3.out.low hbs hgb⟩)
  generalize w3.setCell ⟨w.heap.size, 4, none⟩ (.int .i64 (v : Nat)) = wy at *
  go_wp2_with (first
    | (refine wpList_load_row rfl 24 (.tmp 4) rfl w.heap.size rfl 24 _ (0, 0) _ TY.out.p Try.underlying24 rfl pshInfo ?_)
    | (refine wpList_store_row rfl 24 (.tmp 6) (.tmp 23) rfl (w.heap.size + 1) _ rfl rfl 24 _ TY.out.r pshInfo rfl (pshA_one _ _ _ _) ?_))
  refine bodyPost_ret (results_cell_row rfl _ _ (w.heap.size + 1) 24 _ (0, 0) _ rfl FIN.out.2.2 Try.underlying24 rfl pshInfo) rfl ?_
  exact ⟨B, m, d, rfl, FIN.out.1, FIN.out.2.1⟩
set_option maxRecDepth 100000 in
set_option maxHeartbeats 400000 in
theorem read_4 {w : World} {base g D : Nat} {st : St} {A : Option Addr} {n c : Nat} {e : Int} {p : Psh} {B : Option Addr} {m d : Nat} (hr : Rdm 75 w g D st A n c e) (ho : Own w base (.slice B m d) p.lines) (hg : g < base) :
    Calls Try.prog 56 #[.pointer (some ⟨g, 0, none⟩), .agg (pshA p B m d), .int .i64 16] w (RedP base g D (setF p st 4) (rdC st 4) w) := by
  have hb2 : Below w.heap.size w ((w.alloc (.cells (pshA p B m d) 24)).alloc (.cells #[.int .i64 0, .int .i64 0, .int .i64 0, .int .i64 0, .int .i64 0, .int .i64 0, .int .i64 0, .string { data := #[] }, .slice none 0 0] 24)) := (below_new w _).alloc (by simp) _
  have hsz : ((w.alloc (.cells (pshA p B m d) 24)).alloc (.cells #[.int .i64 0, .int .i64 0, .int .i64 0, .int .i64 0, .int .i64 0, .int .i64 0, .int .i64 0, .string { data := #[] }, .slice none 0 0] 24)).heap.size = w.heap.size + 2 := by simp
  have HT : Hid (Two ((w.alloc (.cells (pshA p B m d) 24)).alloc (.cells #[.int .i64 0, .int .i64 0, .int .i64 0, .int .i64 0, .int .i64 0, .int .i64 0, .int .i64 0, .string { data := #[] }, .slice none 0 0] 24)) w.heap.size (pshA p B m d) #[.int .i64 0, .int .i64 0, .int .i64 0, .int .i64 0, .int .i64 0, .int .i64 0, .int .i64 0, .string { data := #[] }, .slice none 0 0]) := Lib.hid ⟨(box_new w _ _).below (below_new _ _), by have := box_new (w.alloc (.cells (pshA p B m d) 24)) 24 #[.int .i64 0, .int .i64 0, .int .i64 0, .int .i64 0, .int .i64 0, .int .i64 0, .int .i64 0, .string { data := #[] }, .slice none 0 0]; simpa using this⟩
  have CN := Lib.hid (rnumber_prog (hr.below hb2) 7 (by decide))
  have HO := Lib.hid (ho.below hb2)
  have HOB : Hid (∀ k, (Value.slice B m d).ownBlock = some k → k < w.heap.size) := Lib.hid fun k hk => (World.ownsRow.lt ho k hk).2
  have HB := Lib.hid hb2
  have hgw := hr.box.lt
  have HS : Hid (rdC st 4 = tkC st 7 ∧ setF p st 4 = { p with head := (nmV st 7 : Nat) }) := Lib.hid ⟨rfl, rfl⟩
  clear hr ho hb2
  unfold RedP
  rw [HS.out.1, HS.out.2]
  unfold NumP RdP at CN
  generalize nmV st 7 = v at *
  generalize tkC st 7 = S at *
  clear HS
  go_enter Try.func56, Try.ntmps56
  go_upto_region 2 with fail
  generalize ((w.alloc (.cells (pshA p B m d) 24)).alloc (.cells #[.int .i64 0, .int .i64 0, .int .i64 0, .int .i64 0, .int .i64 0, .int .i64 0, .int .i64 0, .string { data := #[] }, .slice none 0 0] 24)) = w2 at *
  go_upto_region 7 with (first
    | (go_at_call 69; refine (numberIn_4 _ _).mono ?_; rintro E w1 ⟨rfl, rfl⟩)
    | (go_at_call 54; refine CN.out.mono ?_; rintro E w3 ⟨rfl, hk3, A3, n3, c3, e3, hr3⟩; have K3 := Lib.hid hk3; have R3 := Lib.hid hr3; have hs3 := hk3.size; have T3 : Hid (Two w3 w.heap.size (pshA p B m d) #[.int .i64 0, .int .i64 0, .int .i64 0, .int .i64 0, .int .i64 0, .int .i64 0, .int .i64 0, .string { data := #[] }, .slice none 0 0]) := Lib.hid ⟨HT.out.p.kp hk3 (by omega) (by omega), HT.out.r.kp hk3 (by omega) (by omega)⟩; have d3 := T3.out.p.cell 5; have f3 := T3.out.p.frozen 5; have O3 := Lib.hid (HO.out.kp hk3 (Nat.le_refl _) hg); clear hk3 hr3))
  have hgb : g < w.heap.size := hgw
  have TY : Hid (Two (w3.setCell ⟨w.heap.size, 5, none⟩ (.int .i64 (v : Nat))) w.heap.size (pshA { p with head := (v : Nat) } B m d) #[.int .i64 0, .int .i64 0, .int .i64 0, .int .i64 0, .int .i64 0, .int .i64 0, .int .i64 0, .string { data := #[] }, .slice none 0 0]) := Lib.hid ⟨T3.out.p.set 5 _, (Below.heap_setCell _ _ _ _ (show w.heap.size + 1 ≠ w.heap.size by omega)).trans T3.out.r⟩
  have hbs : Below w.heap.size w3 (w3.setCell ⟨w.heap.size, 5, none⟩ (.int .i64 (v : Nat))) := (Below.refl _ _).setCell (p := ⟨w.heap.size, 5, none⟩) (Nat.le_refl _) _
  have FIN := Lib.hid (read_fin (base := base) (g := g) (D := D) (st := S) (w := w) (q := { p with head := (v : Nat) }) TY.out (World.ownsRow.kept (row := some w.heap.size) O3.out ⟨rfl, rfl, rfl, by simp [World.setCell], fun k hk' hne => Below.heap_setCell _ _ _ _ (fun e => hne (by rw [e]))⟩ (by
      cases hv : (Value.slice B m d).ownBlock with
      | none => simp
      | some k => have := HOB.out k hv; simp; omega)) (fun k hk => .inl (HOB.out k hk)) ((kp_below HB.out).trans ((K3.out.mono (by omega)).trans (kp_below hbs))) (Nat.le_refl _) hgb ⟨A3, n3, c3, e3, R3.out.low hbs hgb⟩)
  generalize w3.setCell ⟨w.heap.size, 5, none⟩ (.int .i64 (v : Nat)) = wy at *
  go_wp2_with (first
    | (refine wpList_load_row rfl 24 (.tmp 4) rfl w.heap.size rfl 24 _ (0, 0) _ TY.out.p Try.underlying24 rfl pshInfo ?_)
    | (refine wpList_store_row rfl 24 (.tmp 6) (.tmp 23) rfl (w.heap.size + 1) _ rfl rfl 24 _ TY.out.r pshInfo rfl (pshA_one _ _ _ _) ?_))
  refine bodyPost_ret (results_cell_row rfl _ _ (w.heap.size + 1) 24 _ (0, 0) _ rfl FIN.out.2.2 Try.underlying24 rfl pshInfo) rfl ?_
  exact ⟨B, m, d, rfl, FIN.out.1, FIN.out.2.1⟩
set_option maxRecDepth 100000 in
set_option maxHeartbeats 400000 in
theorem read_5 {w : World} {base g D : Nat} {st : St} {A : Option Addr} {n c : Nat} {e : Int} {p : Psh} {B : Option Addr} {m d : Nat} (hr : Rdm 75 w g D st A n c e) (ho : Own w base (.slice B m d) p.lines) (hg : g < base) :
    Calls Try.prog 56 #[.pointer (some ⟨g, 0, none⟩), .agg (pshA p B m d), .int .i64 32] w (RedP base g D (setF p st 5) (rdC st 5) w) := by
  have hb2 : Below w.heap.size w ((w.alloc (.cells (pshA p B m d) 24)).alloc (.cells #[.int .i64 0, .int .i64 0, .int .i64 0, .int .i64 0, .int .i64 0, .int .i64 0, .int .i64 0, .string { data := #[] }, .slice none 0 0] 24)) := (below_new w _).alloc (by simp) _
  have hsz : ((w.alloc (.cells (pshA p B m d) 24)).alloc (.cells #[.int .i64 0, .int .i64 0, .int .i64 0, .int .i64 0, .int .i64 0, .int .i64 0, .int .i64 0, .string { data := #[] }, .slice none 0 0] 24)).heap.size = w.heap.size + 2 := by simp
  have HT : Hid (Two ((w.alloc (.cells (pshA p B m d) 24)).alloc (.cells #[.int .i64 0, .int .i64 0, .int .i64 0, .int .i64 0, .int .i64 0, .int .i64 0, .int .i64 0, .string { data := #[] }, .slice none 0 0] 24)) w.heap.size (pshA p B m d) #[.int .i64 0, .int .i64 0, .int .i64 0, .int .i64 0, .int .i64 0, .int .i64 0, .int .i64 0, .string { data := #[] }, .slice none 0 0]) := Lib.hid ⟨(box_new w _ _).below (below_new _ _), by have := box_new (w.alloc (.cells (pshA p B m d) 24)) 24 #[.int .i64 0, .int .i64 0, .int .i64 0, .int .i64 0, .int .i64 0, .int .i64 0, .int .i64 0, .string { data := #[] }, .slice none 0 0]; simpa using this⟩
  have CN := Lib.hid (rnumber_prog (hr.below hb2) 7 (by decide))
  have HO := Lib.hid (ho.below hb2)
  have HOB : Hid (∀ k, (Value.slice B m d).ownBlock = some k → k < w.heap.size) := Lib.hid fun k hk => (World.ownsRow.lt ho k hk).2
  have HB := Lib.hid hb2
  have hgw := hr.box.lt
  have HS : Hid (rdC st 5 = tkC st 7 ∧ setF p st 5 = { p with tail := (nmV st 7 : Nat) }) := Lib.hid ⟨rfl, rfl⟩
  clear hr ho hb2
  unfold RedP
  rw [HS.out.1, HS.out.2]
  unfold NumP RdP at CN
  generalize nmV st 7 = v at *
  generalize tkC st 7 = S at *
  clear HS
  go_enter Try.func56, Try.ntmps56
  go_upto_region 2 with fail
  generalize ((w.alloc (.cells (pshA p B m d) 24)).alloc (.cells #[.int .i64 0, .int .i64 0, .int .i64 0, .int .i64 0, .int .i64 0, .int .i64 0, .int .i64 0, .string { data := #[] }, .slice none 0 0] 24)) = w2 at *
  go_upto_region 7 with (first
    | (go_at_call 69; refine (numberIn_5 _ _).mono ?_; rintro E w1 ⟨rfl, rfl⟩)
    | (go_at_call 54; refine CN.out.mono ?_; rintro E w3 ⟨rfl, hk3, A3, n3, c3, e3, hr3⟩; have K3 := Lib.hid hk3; have R3 := Lib.hid hr3; have hs3 := hk3.size; have T3 : Hid (Two w3 w.heap.size (pshA p B m d) #[.int .i64 0, .int .i64 0, .int .i64 0, .int .i64 0, .int .i64 0, .int .i64 0, .int .i64 0, .string { data := #[] }, .slice none 0 0]) := Lib.hid ⟨HT.out.p.kp hk3 (by omega) (by omega), HT.out.r.kp hk3 (by omega) (by omega)⟩; have d3 := T3.out.p.cell 6; have f3 := T3.out.p.frozen 6; have O3 := Lib.hid (HO.out.kp hk3 (Nat.le_refl _) hg); clear hk3 hr3))
  have hgb : g < w.heap.size := hgw
  have TY : Hid (Two (w3.setCell ⟨w.heap.size, 6, none⟩ (.int .i64 (v : Nat))) w.heap.size (pshA { p with tail := (v : Nat) } B m d) #[.int .i64 0, .int .i64 0, .int .i64 0, .int .i64 0, .int .i64 0, .int .i64 0, .int .i64 0, .string { data := #[] }, .slice none 0 0]) := Lib.hid ⟨T3.out.p.set 6 _, (Below.heap_setCell _ _ _ _ (show w.heap.size + 1 ≠ w.heap.size by omega)).trans T3.out.r⟩
  have hbs : Below w.heap.size w3 (w3.setCell ⟨w.heap.size, 6, none⟩ (.int .i64 (v : Nat))) := (Below.refl _ _).setCell (p := ⟨w.heap.size, 6, none⟩) (Nat.le_refl _) _
  have FIN := Lib.hid (read_fin (base := base) (g := g) (D := D) (st := S) (w := w) (q := { p with tail := (v : Nat) }) TY.out (World.ownsRow.kept (row := some w.heap.size) O3.out ⟨rfl, rfl, rfl, by simp [World.setCell], fun k hk' hne => Below.heap_setCell _ _ _ _ (fun e => hne (by rw [e]))⟩ (by
      cases hv : (Value.slice B m d).ownBlock with
      | none => simp
      | some k => have := HOB.out k hv; simp; omega)) (fun k hk => .inl (HOB.out k hk)) ((kp_below HB.out).trans ((K3.out.mono (by omega)).trans (kp_below hbs))) (Nat.le_refl _) hgb ⟨A3, n3, c3, e3, R3.out.low hbs hgb⟩)
  generalize w3.setCell ⟨w.heap.size, 6, none⟩ (.int .i64 (v : Nat)) = wy at *
  go_wp2_with (first
    | (refine wpList_load_row rfl 24 (.tmp 4) rfl w.heap.size rfl 24 _ (0, 0) _ TY.out.p Try.underlying24 rfl pshInfo ?_)
    | (refine wpList_store_row rfl 24 (.tmp 6) (.tmp 23) rfl (w.heap.size + 1) _ rfl rfl 24 _ TY.out.r pshInfo rfl (pshA_one _ _ _ _) ?_))
  refine bodyPost_ret (results_cell_row rfl _ _ (w.heap.size + 1) 24 _ (0, 0) _ rfl FIN.out.2.2 Try.underlying24 rfl pshInfo) rfl ?_
  exact ⟨B, m, d, rfl, FIN.out.1, FIN.out.2.1⟩
set_option maxRecDepth 100000 in
set_option maxHeartbeats 400000 in
theorem read_6 {w : World} {base g D : Nat} {st : St} {A : Option Addr} {n c : Nat} {e : Int} {p : Psh} {B : Option Addr} {m d : Nat} (hr : Rdm 75 w g D st A n c e) (ho : Own w base (.slice B m d) p.lines) (hg : g < base) :
    Calls Try.prog 56 #[.pointer (some ⟨g, 0, none⟩), .agg (pshA p B m d), .int .i64 64] w (RedP base g D (setF p st 6) (rdC st 6) w) := by
  have hb2 : Below w.heap.size w ((w.alloc (.cells (pshA p B m d) 24)).alloc (.cells #[.int .i64 0, .int .i64 0, .int .i64 0, .int .i64 0, .int .i64 0, .int .i64 0, .int .i64 0, .string { data := #[] }, .slice none 0 0] 24)) := (below_new w _).alloc (by simp) _
  have hsz : ((w.alloc (.cells (pshA p B m d) 24)).alloc (.cells #[.int .i64 0, .int .i64 0, .int .i64 0, .int .i64 0, .int .i64 0, .int .i64 0, .int .i64 0, .string { data := #[] }, .slice none 0 0] 24)).heap.size = w.heap.size + 2 := by simp
  have HT : Hid (Two ((w.alloc (.cells (pshA p B m d) 24)).alloc (.cells #[.int .i64 0, .int .i64 0, .int .i64 0, .int .i64 0, .int .i64 0, .int .i64 0, .int .i64 0, .string { data := #[] }, .slice none 0 0] 24)) w.heap.size (pshA p B m d) #[.int .i64 0, .int .i64 0, .int .i64 0, .int .i64 0, .int .i64 0, .int .i64 0, .int .i64 0, .string { data := #[] }, .slice none 0 0]) := Lib.hid ⟨(box_new w _ _).below (below_new _ _), by have := box_new (w.alloc (.cells (pshA p B m d) 24)) 24 #[.int .i64 0, .int .i64 0, .int .i64 0, .int .i64 0, .int .i64 0, .int .i64 0, .int .i64 0, .string { data := #[] }, .slice none 0 0]; simpa using this⟩
  have CN := Lib.hid (text_prog (hr.below hb2))
  have HO := Lib.hid (ho.below hb2)
  have HOB : Hid (∀ k, (Value.slice B m d).ownBlock = some k → k < w.heap.size) := Lib.hid fun k hk => (World.ownsRow.lt ho k hk).2
  have HB := Lib.hid hb2
  have hgw := hr.box.lt
  have HS : Hid (rdC st 6 = txC st ∧ setF p st 6 = { p with text := txV st }) := Lib.hid ⟨rfl, rfl⟩
  clear hr ho hb2
  unfold RedP
  rw [HS.out.1, HS.out.2]
  unfold TxtP RdP at CN
  generalize txV st = v at *
  generalize txC st = S at *
  clear HS
  go_enter Try.func56, Try.ntmps56
  go_upto_region 4 with fail
  generalize ((w.alloc (.cells (pshA p B m d) 24)).alloc (.cells #[.int .i64 0, .int .i64 0, .int .i64 0, .int .i64 0, .int .i64 0, .int .i64 0, .int .i64 0, .string { data := #[] }, .slice none 0 0] 24)) = w2 at *
  go_upto_region 7 with (go_at_call 76; refine CN.out.mono ?_; rintro E w3 ⟨rfl, hk3, A3, n3, c3, e3, hr3⟩; have K3 := Lib.hid hk3; have R3 := Lib.hid hr3; have hs3 := hk3.size; have T3 : Hid (Two w3 w.heap.size (pshA p B m d) #[.int .i64 0, .int .i64 0, .int .i64 0, .int .i64 0, .int .i64 0, .int .i64 0, .int .i64 0, .string { data := #[] }, .slice none 0 0]) := Lib.hid ⟨HT.out.p.kp hk3 (by omega) (by omega), HT.out.r.kp hk3 (by omega) (by omega)⟩; have d3 := T3.out.p.cell 7; have f3 := T3.out.p.frozen 7; have O3 := Lib.hid (HO.out.kp hk3 (Nat.le_refl _) hg); clear hk3 hr3)
  have hgb : g < w.heap.size := hgw
  have TY : Hid (Two (w3.setCell ⟨w.heap.size, 7, none⟩ (.string ⟨v.toArray⟩)) w.heap.size (pshA { p with text := v } B m d) #[.int .i64 0, .int .i64 0, .int .i64 0, .int .i64 0, .int .i64 0, .int .i64 0, .int .i64 0, .string { data := #[] }, .slice none 0 0]) := Lib.hid ⟨T3.out.p.set 7 _, (Below.heap_setCell _ _ _ _ (show w.heap.size + 1 ≠ w.heap.size by omega)).trans T3.out.r⟩
  have hbs : Below w.heap.size w3 (w3.setCell ⟨w.heap.size, 7, none⟩ (.string ⟨v.toArray⟩)) := (Below.refl _ _).setCell (p := ⟨w.heap.size, 7, none⟩) (Nat.le_refl _) _
  have FIN := Lib.hid (read_fin (base := base) (g := g) (D := D) (st := S) (w := w) (q := { p with text := v }) TY.out (World.ownsRow.kept (row := some w.heap.size) O3.out ⟨rfl, rfl, rfl, by simp [World.setCell], fun k hk' hne => Below.heap_setCell _ _ _ _ (fun e => hne (by rw [e]))⟩ (by
      cases hv : (Value.slice B m d).ownBlock with
      | none => simp
      | some k => have := HOB.out k hv; simp; omega)) (fun k hk => .inl (HOB.out k hk)) ((kp_below HB.out).trans ((K3.out.mono (by omega)).trans (kp_below hbs))) (Nat.le_refl _) hgb ⟨A3, n3, c3, e3, R3.out.low hbs hgb⟩)
  generalize w3.setCell ⟨w.heap.size, 7, none⟩ (.string ⟨v.toArray⟩) = wy at *
  go_wp2_with (first
    | (refine wpList_load_row rfl 24 (.tmp 4) rfl w.heap.size rfl 24 _ (0, 0) _ TY.out.p Try.underlying24 rfl pshInfo ?_)
    | (refine wpList_store_row rfl 24 (.tmp 6) (.tmp 23) rfl (w.heap.size + 1) _ rfl rfl 24 _ TY.out.r pshInfo rfl (pshA_one _ _ _ _) ?_))
  refine bodyPost_ret (results_cell_row rfl _ _ (w.heap.size + 1) 24 _ (0, 0) _ rfl FIN.out.2.2 Try.underlying24 rfl pshInfo) rfl ?_
  exact ⟨B, m, d, rfl, FIN.out.1, FIN.out.2.1⟩
theorem Own.slice {w : World} {base : Nat} {v : Value} {l : List Bs} (h : Own w base v l) : ∃ A c, v = .slice A l.length c := by
  obtain ⟨A, c, e, _⟩ := h.ts
  exact ⟨A, c, e⟩
set_option maxRecDepth 100000 in
set_option maxHeartbeats 400000 in
theorem read_7 {w : World} {base g D : Nat} {st : St} {A : Option Addr} {n c : Nat} {e : Int} {p : Psh} {B : Option Addr} {m d : Nat} (hr : Rdm 75 w g D st A n c e) (ho : Own w base (.slice B m d) p.lines) (_ : g < base) (hbw : base ≤ w.heap.size) :
    Calls Try.prog 56 #[.pointer (some ⟨g, 0, none⟩), .agg (pshA p B m d), .int .i64 128] w (RedP base g D (setF p st 7) (rdC st 7) w) := by
  have hb2 : Below w.heap.size w ((w.alloc (.cells (pshA p B m d) 24)).alloc (.cells #[.int .i64 0, .int .i64 0, .int .i64 0, .int .i64 0, .int .i64 0, .int .i64 0, .int .i64 0, .string { data := #[] }, .slice none 0 0] 24)) := (below_new w _).alloc (by simp) _
  have hsz : ((w.alloc (.cells (pshA p B m d) 24)).alloc (.cells #[.int .i64 0, .int .i64 0, .int .i64 0, .int .i64 0, .int .i64 0, .int .i64 0, .int .i64 0, .string { data := #[] }, .slice none 0 0] 24)).heap.size = w.heap.size + 2 := by simp
  have HT : Hid (Two ((w.alloc (.cells (pshA p B m d) 24)).alloc (.cells #[.int .i64 0, .int .i64 0, .int .i64 0, .int .i64 0, .int .i64 0, .int .i64 0, .int .i64 0, .string { data := #[] }, .slice none 0 0] 24)) w.heap.size (pshA p B m d) #[.int .i64 0, .int .i64 0, .int .i64 0, .int .i64 0, .int .i64 0, .int .i64 0, .int .i64 0, .string { data := #[] }, .slice none 0 0]) := Lib.hid ⟨(box_new w _ _).below (below_new _ _), by have := box_new (w.alloc (.cells (pshA p B m d) 24)) 24 #[.int .i64 0, .int .i64 0, .int .i64 0, .int .i64 0, .int .i64 0, .int .i64 0, .int .i64 0, .string { data := #[] }, .slice none 0 0]; simpa using this⟩
  have CN := Lib.hid (lines_prog (hr.below hb2))
  have HO := Lib.hid (ho.below hb2)
  have HOB : Hid (∀ k, (Value.slice B m d).ownBlock = some k → k < w.heap.size) := Lib.hid fun k hk => (World.ownsRow.lt ho k hk).2
  have HB := Lib.hid hb2
  have hgw := hr.box.lt
  have HS : Hid (rdC st 7 = lsC st ∧ setF p st 7 = { p with lines := lsV st }) := Lib.hid ⟨rfl, rfl⟩
  clear hr ho hb2
  unfold RedP
  rw [HS.out.1, HS.out.2]
  unfold LinP RdP at CN
  generalize lsV st = L at *
  generalize lsC st = S at *
  clear HS
  go_enter Try.func56, Try.ntmps56
  go_upto_region 6 with fail
  generalize ((w.alloc (.cells (pshA p B m d) 24)).alloc (.cells #[.int .i64 0, .int .i64 0, .int .i64 0, .int .i64 0, .int .i64 0, .int .i64 0, .int .i64 0, .string { data := #[] }, .slice none 0 0] 24)) = w2 at *
  go_upto_region 7 with (go_at_call 77; refine CN.out.mono ?_; rintro E w3 ⟨v, rfl, ho3, hk3, A3, n3, c3, e3, hr3⟩; obtain ⟨A9, c9, rfl⟩ := ho3.slice; have K3 := Lib.hid hk3; have R3 := Lib.hid hr3; have hs3 := hk3.size; have T3 : Hid (Two w3 w.heap.size (pshA p B m d) #[.int .i64 0, .int .i64 0, .int .i64 0, .int .i64 0, .int .i64 0, .int .i64 0, .int .i64 0, .string { data := #[] }, .slice none 0 0]) := Lib.hid ⟨HT.out.p.kp hk3 (by omega) (by omega), HT.out.r.kp hk3 (by omega) (by omega)⟩; have d3 := T3.out.p.cell 8; have f3 := T3.out.p.frozen 8; have O3 := Lib.hid ho3; clear hk3 hr3 ho3)
  have hgb : g < w.heap.size := hgw
  have TY : Hid (Two (w3.setCell ⟨w.heap.size, 8, none⟩ (.slice A9 L.length c9)) w.heap.size (pshA { p with lines := L } A9 L.length c9) #[.int .i64 0, .int .i64 0, .int .i64 0, .int .i64 0, .int .i64 0, .int .i64 0, .int .i64 0, .string { data := #[] }, .slice none 0 0]) := Lib.hid ⟨T3.out.p.set 8 _, (Below.heap_setCell _ _ _ _ (show w.heap.size + 1 ≠ w.heap.size by omega)).trans T3.out.r⟩
  have hbs : Below w.heap.size w3 (w3.setCell ⟨w.heap.size, 8, none⟩ (.slice A9 L.length c9)) := (Below.refl _ _).setCell (p := ⟨w.heap.size, 8, none⟩) (Nat.le_refl _) _
  have hlo : ∀ k, (Value.slice A9 L.length c9).ownBlock = some k → w.heap.size + 1 < k := fun k hk => by have := (World.ownsRow.lt O3.out k hk).1; omega
  have FIN := Lib.hid (read_fin (base := base) (g := g) (D := D) (st := S) (w := w) (q := { p with lines := L }) TY.out (World.ownsRow.kept (row := some w.heap.size) (O3.out.up (base' := base) (by omega)) ⟨rfl, rfl, rfl, by simp [World.setCell], fun k hk' hne => Below.heap_setCell _ _ _ _ (fun e => hne (by rw [e]))⟩ (by
      cases hv : (Value.slice A9 L.length c9).ownBlock with
      | none => simp
      | some k => have := hlo k hv; simp; omega)) (fun k hk => .inr (hlo k hk)) ((kp_below HB.out).trans ((K3.out.mono (by omega)).trans (kp_below hbs))) (Nat.le_refl _) hgb ⟨A3, n3, c3, e3, R3.out.low hbs hgb⟩)
  generalize w3.setCell ⟨w.heap.size, 8, none⟩ (.slice A9 L.length c9) = wy at *
  go_wp2_with (first
    | (refine wpList_load_row rfl 24 (.tmp 4) rfl w.heap.size rfl 24 _ (0, 0) _ TY.out.p Try.underlying24 rfl pshInfo ?_)
    | (refine wpList_store_row rfl 24 (.tmp 6) (.tmp 23) rfl (w.heap.size + 1) _ rfl rfl 24 _ TY.out.r pshInfo rfl (pshA_one _ _ _ _) ?_))
  refine bodyPost_ret (results_cell_row rfl _ _ (w.heap.size + 1) 24 _ (0, 0) _ rfl FIN.out.2.2 Try.underlying24 rfl pshInfo) rfl ?_
  exact ⟨A9, L.length, c9, rfl, FIN.out.1, FIN.out.2.1⟩
theorem read_any {w : World} {base g D : Nat} {st : St} {A : Option Addr} {n c : Nat} {e : Int} {p : Psh} {B : Option Addr} {m d : Nat} (hr : Rdm 75 w g D st A n c e) (ho : Own w base (.slice B m d) p.lines) (hg : g < base) (hbw : base ≤ w.heap.size) (k : Nat) (hk : k < 8) :
    Calls Try.prog 56 #[.pointer (some ⟨g, 0, none⟩), .agg (pshA p B m d), .int .i64 (bitI k)] w (RedP base g D (setF p st k) (rdC st k) w) := by
  match k, hk with
  | 0, _ => exact read_0 hr ho hg
  | 1, _ => exact read_1 hr ho hg
  | 2, _ => exact read_2 hr ho hg
  | 3, _ => exact read_3 hr ho hg
  | 4, _ => exact read_4 hr ho hg
  | 5, _ => exact read_5 hr ho hg
  | 6, _ => exact read_6 hr ho hg
  | 7, _ => exact read_7 hr ho hg hbw
end Go.Proofs.Ytajkbkllgbalkaa
