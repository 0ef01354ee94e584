/- Greetings in one block, one behind the other. -/
import Derived.Test.YtiakbmllpnabnaaGreatDoorLj
import Derived.Deep.MidRow
namespace Go.Proofs.YtiakbmllpnabnaaGreatDoor
open Go Go.RowKit

def gaL (x : Grt × Adr) : List Value := (grtA x.1 x.2).toList
theorem gaL_len (x : Grt × Adr) : (gaL x).length = 39 := rfl
theorem gaL_arr (x : Grt × Adr) : (gaL x).toArray = grtA x.1 x.2 := rfl
/-- the rows stand in block B -/
structure Rws (w : World) (B : Nat) (l : List (Grt × Adr)) : Prop where
  lt : B < w.heap.size
  row : ∀ k (h : k < l.length), w.rangeAt B (k * 39) (gaL l[k])
  th : w.there B 0 (39 * l.length)
theorem Rws.keep {w w' : World} {B : Nat} {l : List (Grt × Adr)} (h : Rws w B l) (hb : w'.heap[B]? = w.heap[B]?) (hs : w.heap.size ≤ w'.heap.size) : Rws w' B l := by
  refine ⟨Nat.lt_of_lt_of_le h.lt hs, fun k hk j v hv => ?_, fun j hj => ?_⟩
  · have := h.row k hk j v hv
    unfold World.cell? at this ⊢
    rw [hb]; exact this
  · have := h.th j hj
    unfold World.cell? World.frozen? at this ⊢
    rw [hb]; exact this
theorem Rws.there {w : World} {B : Nat} {l : List (Grt × Adr)} (h : Rws w B l) (o n : Nat) (hn : o + n ≤ 39 * l.length) : w.there B o n := fun j hj => by
  have := h.th (o + j) (by omega)
  rw [Nat.zero_add] at this
  exact this
theorem setCells_other (B : Nat) : ∀ (vs : List Value) (o : Nat) (w : World) (k : Nat), k ≠ B → (w.setCells B o vs).heap[k]? = w.heap[k]?
  | [], _, _, _, _ => rfl
  | v :: r, o, w, k, hk => by
    rw [World.setCells, setCells_other B r (o + 1) _ k hk]
    exact Below.heap_setCell _ _ _ _ hk
theorem setCells_size (B : Nat) : ∀ (vs : List Value) (o : Nat) (w : World), (w.setCells B o vs).heap.size = w.heap.size
  | [], _, _ => rfl
  | v :: r, o, w => by
    rw [World.setCells, setCells_size B r (o + 1) _]
    simp [World.setCell]
theorem setCells_below {D : Nat} {w0 : World} (B : Nat) (hD : D ≤ B) : ∀ (vs : List Value) (o : Nat) (w : World), Below D w0 w → Below D w0 (w.setCells B o vs)
  | [], _, _, h => h
  | v :: r, o, w, h => by
    rw [World.setCells]
    exact setCells_below B hD r (o + 1) _ (h.setCell (p := ⟨B, o, none⟩) hD v)
theorem Rws.store {w : World} {B : Nat} {l : List (Grt × Adr)} (h : Rws w B l) (k : Nat) (hk : k < l.length) (x : Grt × Adr) : Rws (w.setCells B (k * 39) (gaL x)) B (l.set k x) := by
  refine ⟨by rw [setCells_size]; exact h.lt, fun i hi => ?_, ?_⟩
  · rw [List.length_set] at hi
    by_cases e : k = i
    · subst e
      rw [List.getElem_set_self]
      exact World.rangeAt_setCells_same w B _ _ (h.there _ _ (by rw [gaL_len]; omega))
    · rw [List.getElem_set_ne e]
      exact World.rangeAt_setCells_apart (h.row i hi) B _ _ (by rw [gaL_len, gaL_len]; omega)
  · rw [List.length_set]
    exact World.there_setCells h.th _ _ _
theorem Rws.put {w : World} {B : Nat} {l : List (Grt × Adr)} (h : Rws w B l) (k : Nat) (hk : k < l.length) (j : Nat) (hj : j < 39) (v : Value) (x : Grt × Adr) (hx : (gaL l[k]).set j v = gaL x) : Rws (w.setCell ⟨B, k * 39 + j, none⟩ v) B (l.set k x) := by
  have e : w.setCell ⟨B, k * 39 + j, none⟩ v = w.setCells B (k * 39 + j) [v] := rfl
  rw [e]
  refine ⟨by rw [setCells_size]; exact h.lt, fun i hi => ?_, ?_⟩
  · rw [List.length_set] at hi
    by_cases e : k = i
    · subst e
      rw [List.getElem_set_self, ← hx]
      intro i v' hv'
      rw [List.getElem?_set] at hv'
      split at hv'
      · rename_i e; subst e
        rw [gaL_len, if_pos hj] at hv'
        exact World.rangeAt_setCells_same w B (k * 39 + j) [v] (h.there _ _ (by rw [List.length_singleton]; omega)) 0 v' hv'
      · rename_i e
        have := h.row k hk i v' hv'
        have h39 : i < 39 := by
          have := (List.getElem?_eq_some_iff.1 hv').1
          rw [gaL_len] at this; exact this
        rw [World.cell?_setCells_out B [v] (k * 39 + j) w ⟨B, k * 39 + i, none⟩ (fun _ _ => by
          rw [List.length_singleton]
          show k * 39 + i < k * 39 + j ∨ k * 39 + j + 1 ≤ k * 39 + i
          omega)]
        exact this
    · rw [List.getElem_set_ne e]
      exact World.rangeAt_setCells_apart (h.row i hi) B _ _ (by rw [gaL_len, List.length_singleton]; omega)
  · rw [List.length_set]
    exact World.there_setCells h.th _ _ _
theorem flat_at : ∀ (l : List (Grt × Adr)) (k : Nat) (h : k < l.length) (j : Nat), j < 39 → (l.flatMap gaL)[k * 39 + j]? = (gaL l[k])[j]?
  | x :: l, 0, _, j, hj => by
    rw [List.flatMap_cons, List.getElem?_append_left (by rw [gaL_len]; omega), Nat.zero_mul, Nat.zero_add]; rfl
  | x :: l, k + 1, h, j, hj => by
    rw [List.flatMap_cons, List.getElem?_append_right (by rw [gaL_len]; omega), gaL_len, show (k + 1) * 39 + j - 39 = k * 39 + j by omega]
    exact flat_at l k (by simpa using h) j hj
theorem flat_len : ∀ l : List (Grt × Adr), (l.flatMap gaL).length = 39 * l.length
  | [] => rfl
  | x :: l => by rw [List.flatMap_cons, List.length_append, gaL_len, flat_len l, List.length_cons]; omega
theorem rws_of {w : World} {B : Nat} {l : List (Grt × Adr)} {t : TypeId} (hb : w.heap[B]? = some (.cells (l.flatMap gaL).toArray t (0, 0))) : Rws w B l := by
  have hl : B < w.heap.size := (Array.getElem?_eq_some_iff.1 hb).1
  refine ⟨hl, fun k hk j v hv => ?_, fun j hj => ?_⟩
  · have h39 : j < 39 := by
      have := (List.getElem?_eq_some_iff.1 hv).1
      rw [gaL_len] at this; exact this
    rw [(row_cell hb (k * 39 + j)).1, ← hv, ← flat_at l k hk j h39]
    simp
  · obtain ⟨h1, h2⟩ := row_cell hb (0 + j)
    refine ⟨?_, h2⟩
    rw [h1, Nat.zero_add, List.getElem?_toArray, List.getElem?_eq_getElem (by rw [flat_len]; omega)]; rfl
/-- and each is a greeting whose parts stand elsewhere -/
structure Rwc (w : World) (B : Nat) (l : List (Grt × Adr)) : Prop where
  rws : Rws w B l
  gr : ∀ k (h : k < l.length), GrC (fun i => i ≠ B ∧ i < w.heap.size) w l[k].1 l[k].2
theorem Rwc.below {w w' : World} {B : Nat} {l : List (Grt × Adr)} (h : Rwc w B l) (hb : Below w.heap.size w w') : Rwc w' B l :=
  ⟨h.rws.keep (hb.block B h.rws.lt) hb.size, fun k hk => (h.gr k hk).keep fun i hi => ⟨hb.block i hi.2, hi.1, Nat.lt_of_lt_of_le hi.2 hb.size⟩⟩
theorem Rwc.set {w wx : World} {B : Nat} {l : List (Grt × Adr)} (h : Rwc w B l) (k : Nat) (x : Grt × Adr) (h1 : Rws wx B (l.set k x)) (ho : ∀ i, i ≠ B → wx.heap[i]? = w.heap[i]?) (hs : wx.heap.size = w.heap.size)
    (hx : GrC (fun i => i ≠ B ∧ i < w.heap.size) w x.1 x.2) : Rwc wx B (l.set k x) := by
  refine ⟨h1, fun i hi => ?_⟩
  rw [List.length_set] at hi
  by_cases e : k = i
  · subst e
    rw [List.getElem_set_self]
    exact hx.keep fun j hj => ⟨ho j hj.1, hj.1, by rw [hs]; exact hj.2⟩
  · rw [List.getElem_set_ne e]
    exact (h.gr i hi).keep fun j hj => ⟨ho j hj.1, hj.1, by rw [hs]; exact hj.2⟩
theorem Rwc.store {w : World} {B : Nat} {l : List (Grt × Adr)} (h : Rwc w B l) (k : Nat) (hk : k < l.length) (x : Grt × Adr) (hx : GrC (fun i => i ≠ B ∧ i < w.heap.size) w x.1 x.2) : Rwc (w.setCells B (k * 39) (gaL x)) B (l.set k x) :=
  h.set k x (h.rws.store k hk x) (fun i hi => setCells_other B _ _ _ i hi) (setCells_size B _ _ _) hx
theorem Rwc.put {w : World} {B : Nat} {l : List (Grt × Adr)} (h : Rwc w B l) (k : Nat) (hk : k < l.length) (j : Nat) (hj : j < 39) (v : Value) (x : Grt × Adr) (hv : (gaL l[k]).set j v = gaL x) (hx : GrC (fun i => i ≠ B ∧ i < w.heap.size) w x.1 x.2) :
    Rwc (w.setCell ⟨B, k * 39 + j, none⟩ v) B (l.set k x) :=
  h.set k x (h.rws.put k hk j hj v x hv) (fun i hi => Below.heap_setCell _ _ _ _ hi) (by simp [World.setCell]) hx
theorem GrS.grC {S : Nat → Prop} {w : World} {g : Grt} {a : Adr} (h : GrS S w g a) (h2 : g.suites.length ≤ a.c2) : GrC S w g a := ⟨h.ses, h.sui, h2, h.met, h.ext, h.rl⟩
theorem grC_pl {S : Nat → Prop} {w : World} {a : Adr} (h : GrS S w plG a) (h2 : 1 ≤ a.c2) : GrC S w plG a := h.grC h2
theorem rowOne {x : Grt × Adr} : (gaL x).toArray.all (·.oneCell') = true := grtA_one x.1 x.2
end Go.Proofs.YtiakbmllpnabnaaGreatDoor
namespace Go.Proofs.YtiakbmllpnabnaaGreatDoor
open Go Go.RowKit

/-! the greetings of HelloKnown -/
def o0 : Grt := ⟨1, List.replicate 32 0, List.replicate 33 0, [4865], [0], [97], 0, []⟩
def o1 : Grt := ⟨1, List.replicate 32 0, [], [], [0], [97], 0, []⟩
def o2 : Grt := ⟨1, List.replicate 32 0, [], [4865], [1, 2], [97], 0, []⟩
def o3 : Grt := ⟨1, List.replicate 32 0, [], [4865], [0], [97, 58, 56, 48], 0, []⟩
def o4 : Grt := ⟨1, List.replicate 32 0, [], [4865], [0], [], 0, []⟩
def o5 : Grt := ⟨1, List.replicate 32 0, [], [4865], [0], [97], 0, [(5, []), (5, [])]⟩
theorem o0_no : okG o0 = false := by kernel_rfl
theorem o1_no : okG o1 = false := by kernel_rfl
theorem o2_no : okG o2 = false := by kernel_rfl
theorem o3_no : okG o3 = false := by kernel_rfl
theorem o4_no : okG o4 = false := by kernel_rfl
theorem o5_no : okG o5 = false := by kernel_rfl
def lgE (k : Nat) : Grt := ⟨1, List.replicate 32 0, [], [4865], [0], [97], 0, [(7, List.replicate k 0)]⟩
theorem lgE_msg (k : Nat) : (msgG (lgE k)).length = 61 + k := by
  have e : allX (lgE k) = encX [] ++ encE 0 (encN [97]) ++ encX [(7, List.replicate k 0)] := rfl
  have e1 : (encX [(7, List.replicate k (0 : UInt8))]).length = k + 4 := by
    rw [encX_one, encE_len, List.length_replicate]
  have e2 : (encE 0 (encN [97])).length = 10 := by kernel_rfl
  have e3 : (allX (lgE k)).length = 14 + k := by
    rw [e, List.length_append, List.length_append, e1, e2]
    show 0 + 10 + (k + 4) = 14 + k
    omega
  rw [msgG_len, bodyG_len, e3]
  have e4 : (encS (lgE k).suites).length = 2 := by rw [encS_len]; rfl
  rw [e4]
  show 2 + 32 + (0 + 1) + (2 + 2) + (1 + 1) + (14 + k + 2) + 4 = 61 + k
  omega
theorem lgE_may (k : Nat) (hk : k ≤ 60000) : mayG (lgE k) = true := by
  have e : mayG (lgE k) = (true && true && true && true && true && methOk [0] && isH [97] && extsOk [(7, List.replicate k 0)] 0 && suitesOk [4865]) := rfl
  have e1 : methOk [0] = true := by kernel_rfl
  have e2 : isH [97] = true := by kernel_rfl
  have e3 : suitesOk [4865] = true := by kernel_rfl
  have e4 : extsOk [(7, List.replicate k 0)] 0 = true := by
    unfold extsOk typesOk
    simp [typesOk]
    omega
  rw [e, e1, e2, e3, e4]; rfl
theorem lg_ok : okG (lgE 16323) = true := by
  unfold okG
  rw [lgE_may _ (by decide), lgE_msg]; rfl
theorem lg_no : okG (lgE 16324) = false := by
  unfold okG
  rw [lgE_may _ (by decide), lgE_msg]; rfl
theorem lg_len : (recG (lgE 16323)).length = 16389 := by
  show (fillB (msgG (lgE 16323)) 2).length + 1 + 1 + 1 = 16389
  rw [fillB_len, lgE_msg]
theorem lg_sni : sniB (recG (lgE 16323)) [97] 0 = true := sni_yes (parG_of rfl lg_ok) rfl
end Go.Proofs.YtiakbmllpnabnaaGreatDoor
namespace Go.Proofs.YtiakbmllpnabnaaGreatDoor
open Go Go.RowKit

def z4 : Array Value := ((List.replicate 4 (zG, zA)).flatMap gaL).toArray
theorem zero4 : (Tryz.prog.info? 60).map (fun i => (i.zero, i.size)) = some (some (.agg z4), 156) := by kernel_rfl
theorem run_alloc4 (ρ : Operand → Value) (o : Oper) (ho : o.op = .alloc 60) (w : World) : (execOp ρ o).run Tryz.prog w = .ok (.value (.pointer (some ⟨w.heap.size, 0, none⟩))) (w.alloc (.cells z4 60)) := by
  have hz := (zero_of_info zero4).1
  unfold execOp
  simp only [ho, Instr.alloc, Sem.run_bind, hz, Result.andThen_ok]
  simp [newVar, newRow, Value.cells, go_sem]
theorem wpList_alloc4 {ops : Array Oper} {rest : List Oper} {o : Oper} {a : Act} {w : World} {Q : Exit → Act → World → Prop} (hg : o.guard = none) (ho : o.op = .alloc 60)
    (h : ∀ (n : Nat) (wx : World), n = w.heap.size → wx = w.alloc (.cells z4 60) → wpList Tryz.prog ops Q rest (a.put o.dst (.pointer (some ⟨n, 0, none⟩))) wx) : wpList Tryz.prog ops Q (o :: rest) a w :=
  Go.Great.wpList_allocTo hg _ rfl _ _ (run_alloc4 a.eval o ho w) (h _ _ rfl rfl)
theorem grC_z (S : Nat → Prop) (w : World) : GrC S w zG zA := (zG_in S w).grC (Nat.le_refl 0)
/-- the four behind their alloc -/
theorem rwc_z4 (w : World) : Rwc (w.alloc (.cells z4 60)) w.heap.size (List.replicate 4 (zG, zA)) :=
  ⟨rws_of (heap_alloc_new w _), fun k hk => by rw [List.getElem_replicate]; exact grC_z _ _⟩
def endsA : Array Value := #[.int .i64 (-9223372036854775808), .int .i64 (-1), .int .i64 0, .int .i64 1, .int .i64 4, .int .i64 5, .int .i64 65535, .int .i64 65536, .int .i64 9223372036854775807]
theorem ends_at : ∀ (i : Nat), i < 9 → ∃ x : Int, endsA[i]? = some (.int .i64 x)
  | 0, _ => ⟨_, rfl⟩
  | 1, _ => ⟨_, rfl⟩
  | 2, _ => ⟨_, rfl⟩
  | 3, _ => ⟨_, rfl⟩
  | 4, _ => ⟨_, rfl⟩
  | 5, _ => ⟨_, rfl⟩
  | 6, _ => ⟨_, rfl⟩
  | 7, _ => ⟨_, rfl⟩
  | 8, _ => ⟨_, rfl⟩
  | n + 9, h => absurd h (by omega)
/-- what stands while the ends are gone through -/
structure Ens (w2 w : World) (E : Nat) : Prop where
  bel : Below w2.heap.size w2 w
  blk : w.heap[E]? = some (.cells endsA 3 (0, 0))
theorem Ens.below {w2 w w' : World} {E : Nat} (h : Ens w2 w E) (hb : Below w.heap.size w w') : Ens w2 w' E :=
  ⟨h.bel.trans (hb.mono h.bel.size), (hb.block E (lt_of_block h.blk)).trans h.blk⟩
/-- the rows while they are filled -/
structure Fil (w2 w : World) (E B k : Nat) (l : List (Grt × Adr)) : Prop where
  ens : Ens w2 w E
  rwc : Rwc w B l
  four : l.length = 4
  lo : w2.heap.size ≤ B
  ne : E ≠ B
  pl : ∀ j (h : j < l.length), j < k → l[j].1 = plG
theorem Fil.start {w2 w : World} {E : Nat} (h : Ens w2 w E) : Fil w2 (w.alloc (.cells z4 60)) E w.heap.size 0 (List.replicate 4 (zG, zA)) :=
  ⟨h.below (below_new w _), rwc_z4 w, rfl, h.bel.size, by have := lt_of_block h.blk; omega, fun _ _ h => absurd h (Nat.not_lt_zero _)⟩
theorem Fil.store {w2 w w' : World} {E B k : Nat} {l : List (Grt × Adr)} (h : Fil w2 w E B k l) (hk : k < 4) (hb : Below w.heap.size w w') (a : Adr) (hg : GrS (New w.heap.size w') w' plG a) (h2 : 1 ≤ a.c2) :
    w'.there B (k * 39) 39 ∧ Fil w2 (w'.setCells B (k * 39) (gaL (plG, a))) E B (k + 1) (l.set k (plG, a)) := by
  have r := h.rwc.below hb
  have e := h.ens.below hb
  have hB : B < w.heap.size := h.rwc.rws.lt
  have f4 := h.four
  have rw1 := r.store k (by omega) (plG, a) ((hg.grC h2).keep fun i hi => ⟨rfl, by have := hi.1; omega, hi.2⟩)
  refine ⟨r.rws.there _ _ (by omega), ⟨setCells_below B h.lo _ _ _ e.bel, (setCells_other B _ _ _ E h.ne).trans e.blk⟩, rw1, by rw [List.length_set]; exact f4, h.lo, h.ne, fun j hj hjk => ?_⟩
  rw [List.length_set] at hj
  by_cases ej : k = j
  · subst ej
    rw [List.getElem_set_self]
  · rw [List.getElem_set_ne ej]
    exact h.pl j hj (by omega)
theorem wpList_store_ga {ops : Array Oper} {rest : List Oper} {o : Oper} {a : Act} {w : World} {Q : Exit → Act → World → Prop} (hgd : o.guard = none) (x y : Operand) (ho : o.op = .store 28 x y)
    (B off : Nat) (g : Grt) (ad : Adr) (hx : a.eval x = .pointer (some ⟨B, off, none⟩)) (hy : a.eval y = .agg (grtA g ad)) (ht : w.there B off 39)
    (h : wpList Tryz.prog ops Q rest (a.put o.dst undef) (w.setCells B off (gaL (g, ad)))) : wpList Tryz.prog ops Q (o :: rest) a w :=
  wpList_store_mid hgd 28 x y ho B off (grtA g ad) hx hy ht (infoGA g ad) (grtA_one g ad) h
theorem wpList_load_ga {ops : Array Oper} {rest : List Oper} {o : Oper} {a : Act} {w : World} {Q : Exit → Act → World → Prop} (hgd : Region.wanted o (yielded ops a.tmps) = true) (x : Operand) (ho : o.op = .load 28 x)
    (B off : Nat) (hx : a.eval x = .pointer (some ⟨B, off, none⟩)) (g : Grt) (ad : Adr) (hr : w.rangeAt B off (gaL (g, ad)))
    (h : wpList Tryz.prog ops Q rest (a.put o.dst (.agg (grtA g ad))) w) : wpList Tryz.prog ops Q (o :: rest) a w := by
  refine wpList_step fun K hK => ?_
  rw [if_pos hgd]
  exact wp_load_mid 28 x ho B off hx (gaL (g, ad)) _ hr Tryz.underlying28 rfl (infoGA g ad) (hK _ _ h)
end Go.Proofs.YtiakbmllpnabnaaGreatDoor
namespace Go.Proofs.YtiakbmllpnabnaaGreatDoor
open Go Go.RowKit

theorem Fil.done {w2 w : World} {E B : Nat} {l : List (Grt × Adr)} (h : Fil w2 w E B 4 l) : ∃ b0 b1 b2 b3 : Adr, Fil w2 w E B 4 [(plG, b0), (plG, b1), (plG, b2), (plG, b3)] := by
  obtain ⟨x0, x1, x2, x3, rfl⟩ : ∃ x0 x1 x2 x3, l = [x0, x1, x2, x3] := by
    have := h.four
    match l, this with
    | [x0, x1, x2, x3], _ => exact ⟨x0, x1, x2, x3, rfl⟩
  obtain ⟨g0, b0⟩ := x0
  obtain ⟨g1, b1⟩ := x1
  obtain ⟨g2, b2⟩ := x2
  obtain ⟨g3, b3⟩ := x3
  obtain rfl : g0 = plG := h.pl 0 (by show 0 < 4; decide) (by decide)
  obtain rfl : g1 = plG := h.pl 1 (by show 1 < 4; decide) (by decide)
  obtain rfl : g2 = plG := h.pl 2 (by show 2 < 4; decide) (by decide)
  obtain rfl : g3 = plG := h.pl 3 (by show 3 < 4; decide) (by decide)
  exact ⟨b0, b1, b2, b3, h⟩
def gMin (x : Int) : Grt := ⟨x, List.replicate 32 0, [], [4865], [0], [97], 0, []⟩
def gAt (x : Int) : Grt := ⟨1, List.replicate 32 0, [], [4865], [0], [97], x, []⟩
def gSui (x : Int) : Grt := ⟨1, List.replicate 32 0, [], [x], [0], [97], 0, []⟩
def gExt (x : Int) : Grt := ⟨1, List.replicate 32 0, [], [4865], [0], [97], 0, [(x, []), (1, [])]⟩
def aSui (a : Adr) (n : Nat) : Adr := ⟨a.a1, a.c1, some ⟨n, 0, none⟩, 1, a.a3, a.c3, a.a4, a.c4⟩
def aExt (a : Adr) (n k : Nat) : Adr := ⟨a.a1, a.c1, a.a2, a.c2, a.a3, a.c3, some ⟨n, 0, none⟩, k⟩
def rowsAt (x : Int) (b0 b1 b2 b3 : Adr) (s p q : Nat) : List (Grt × Adr) :=
  match s with
  | 0 => [(plG, b0), (plG, b1), (plG, b2), (plG, b3)]
  | 1 => [(gMin x, b0), (plG, b1), (plG, b2), (plG, b3)]
  | 2 => [(gMin x, b0), (gAt x, b1), (plG, b2), (plG, b3)]
  | 3 => [(gMin x, b0), (gAt x, b1), (gSui x, aSui b2 p), (plG, b3)]
  | _ => [(gMin x, b0), (gAt x, b1), (gSui x, aSui b2 p), (gExt x, aExt b3 q 2)]
/-- while the four are turned -/
structure St (w2 : World) (E B : Nat) (x : Int) (b0 b1 b2 b3 : Adr) (s : Nat) (p q : Option Nat) (w : World) : Prop where
  ens : Ens w2 w E
  rwc : Rwc w B (rowsAt x b0 b1 b2 b3 s (p.getD 0) (q.getD 0))
  lo : w2.heap.size ≤ B
  ne : E ≠ B
  hp : ∀ n, p = some n → n ≠ B ∧ w.heap[n]? = some (.cells #[.int .i64 x] 3 (0, 0))
  hq : ∀ n, q = some n → n ≠ B ∧ w.heap[n]? = some (.cells #[.int .i64 x, .slice none 0 0, .int .i64 1, .slice none 0 0] 62 (0, 0))
variable {w2 w : World} {E B : Nat} {x : Int} {b0 b1 b2 b3 : Adr} {s : Nat} {p q : Option Nat}
theorem St.put (h : St w2 E B x b0 b1 b2 b3 s p q w) (k : Nat) (hk : k < 4) (j : Nat) (hj : j < 39) (v : Value) (y : Grt × Adr) (s' : Nat)
    (e : (rowsAt x b0 b1 b2 b3 s (p.getD 0) (q.getD 0)).set k y = rowsAt x b0 b1 b2 b3 s' (p.getD 0) (q.getD 0)) (hl : (rowsAt x b0 b1 b2 b3 s (p.getD 0) (q.getD 0)).length = 4)
    (hv : (gaL ((rowsAt x b0 b1 b2 b3 s (p.getD 0) (q.getD 0))[k]'(by omega))).set j v = gaL y) (hx : GrC (fun i => i ≠ B ∧ i < w.heap.size) w y.1 y.2) :
    St w2 E B x b0 b1 b2 b3 s' p q (w.setCell ⟨B, k * 39 + j, none⟩ v) :=
  ⟨⟨h.ens.bel.setCell (p := ⟨B, k * 39 + j, none⟩) h.lo _, (Below.heap_setCell _ _ _ _ h.ne).trans h.ens.blk⟩, e ▸ h.rwc.put k (by omega) j hj v y hv hx, h.lo, h.ne,
    fun n hn => ⟨(h.hp n hn).1, (Below.heap_setCell _ _ _ _ (h.hp n hn).1).trans (h.hp n hn).2⟩, fun n hn => ⟨(h.hq n hn).1, (Below.heap_setCell _ _ _ _ (h.hq n hn).1).trans (h.hq n hn).2⟩⟩
theorem St.below {w' : World} (h : St w2 E B x b0 b1 b2 b3 s p q w) (hb : Below w.heap.size w w') : St w2 E B x b0 b1 b2 b3 s p q w' :=
  ⟨h.ens.below hb, h.rwc.below hb, h.lo, h.ne, fun n hn => ⟨(h.hp n hn).1, (hb.block n (lt_of_block (h.hp n hn).2)).trans (h.hp n hn).2⟩, fun n hn => ⟨(h.hq n hn).1, (hb.block n (lt_of_block (h.hq n hn).2)).trans (h.hq n hn).2⟩⟩
theorem St.s0 (h : St w2 E B x b0 b1 b2 b3 0 p q w) : St w2 E B x b0 b1 b2 b3 1 p q (w.setCell ⟨B, 0, none⟩ (.int .i64 x)) :=
  h.put 0 (by decide) 0 (by decide) _ (gMin x, b0) 1 rfl rfl rfl (by
    have := h.rwc.gr 0 (by show 0 < 4; decide)
    exact ⟨this.ses, this.sui, this.su2, this.met, this.ext, this.rl⟩)
theorem St.s1 (h : St w2 E B x b0 b1 b2 b3 1 p q w) : St w2 E B x b0 b1 b2 b3 2 p q (w.setCell ⟨B, 76, none⟩ (.int .i64 x)) :=
  h.put 1 (by decide) 37 (by decide) _ (gAt x, b1) 2 rfl rfl rfl (by
    have := h.rwc.gr 1 (by show 1 < 4; decide)
    exact ⟨this.ses, this.sui, this.su2, this.met, this.ext, this.rl⟩)
theorem St.s2 {n : Nat} (h : St w2 E B x b0 b1 b2 b3 2 (some n) q w) : St w2 E B x b0 b1 b2 b3 3 (some n) q (w.setCell ⟨B, 112, none⟩ (.slice (some ⟨n, 0, none⟩) 1 1)) :=
  h.put 2 (by decide) 34 (by decide) _ (gSui x, aSui b2 n) 3 rfl rfl rfl (by
    have := h.rwc.gr 2 (by show 2 < 4; decide)
    obtain ⟨n1, n2⟩ := h.hp n rfl
    refine ⟨this.ses, fun i hi => ?_, Nat.le_refl 1, this.met, this.ext, this.rl⟩
    have : i = 0 := by simp [gSui] at hi; omega
    subst this
    exact ⟨n, 0, rfl, ⟨n1, lt_of_block n2⟩, (row_cell n2 0).1⟩)
theorem St.s3 {n : Nat} (h : St w2 E B x b0 b1 b2 b3 3 p (some n) w) : St w2 E B x b0 b1 b2 b3 4 p (some n) (w.setCell ⟨B, 155, none⟩ (.slice (some ⟨n, 0, none⟩) 2 2)) :=
  h.put 3 (by decide) 38 (by decide) _ (gExt x, aExt b3 n 2) 4 rfl rfl rfl (by
    have := h.rwc.gr 3 (by show 3 < 4; decide)
    obtain ⟨n1, n2⟩ := h.hq n rfl
    refine ⟨this.ses, this.sui, this.su2, this.met, fun i hi => ?_, this.rl⟩
    have hi2 : i < 2 := hi
    rcases (by omega : i = 0 ∨ i = 1) with rfl | rfl
    · exact ⟨n, 0, none, 0, rfl, ⟨n1, lt_of_block n2⟩, (row_cell n2 0).1, (row_cell n2 1).1, ⟨Nat.zero_le _, fun _ => rfl, fun j hj => by simp [gExt] at hj⟩⟩
    · exact ⟨n, 0, none, 0, rfl, ⟨n1, lt_of_block n2⟩, (row_cell n2 2).1, (row_cell n2 3).1, ⟨Nat.zero_le _, fun _ => rfl, fun j hj => by simp [gExt] at hj⟩⟩)
theorem St.n2 {n : Nat} (h : St w2 E B x b0 b1 b2 b3 s none q w) (hs : s ≤ 2) (hn : w.heap.size = n) : St w2 E B x b0 b1 b2 b3 s (some n) q (w.alloc (.cells #[.int .i64 x] 3)) := by
  subst hn
  have g := h.below (below_new w (.cells #[.int .i64 x] 3))
  refine ⟨g.ens, ?_, g.lo, g.ne, fun n hn => ?_, g.hq⟩
  · rcases (by omega : s = 0 ∨ s = 1 ∨ s = 2) with rfl | rfl | rfl <;> exact g.rwc
  · obtain rfl := Option.some.inj hn
    exact ⟨by have := h.rwc.rws.lt; omega, heap_alloc_new w _⟩
theorem St.n3 {n : Nat} (h : St w2 E B x b0 b1 b2 b3 s p none w) (hs : s ≤ 3) (hn : w.heap.size = n) : St w2 E B x b0 b1 b2 b3 s p (some n) (w.alloc (.cells #[.int .i64 x, .slice none 0 0, .int .i64 1, .slice none 0 0] 62)) := by
  subst hn
  have g := h.below (below_new w (.cells #[.int .i64 x, .slice none 0 0, .int .i64 1, .slice none 0 0] 62))
  refine ⟨g.ens, ?_, g.lo, g.ne, g.hp, fun n hn => ?_⟩
  · rcases (by omega : s = 0 ∨ s = 1 ∨ s = 2 ∨ s = 3) with rfl | rfl | rfl | rfl <;> exact g.rwc
  · obtain rfl := Option.some.inj hn
    exact ⟨by have := h.rwc.rws.lt; omega, heap_alloc_new w _⟩
theorem St.start (h : Fil w2 w E B 4 [(plG, b0), (plG, b1), (plG, b2), (plG, b3)]) : St w2 E B x b0 b1 b2 b3 0 none none w.drew :=
  by
  have g : St w2 E B x b0 b1 b2 b3 0 none none w := ⟨h.ens, h.rwc, h.lo, h.ne, fun n hn => (by cases hn), fun n hn => (by cases hn)⟩
  exact g.below (Below.refl w.heap.size w).drew
end Go.Proofs.YtiakbmllpnabnaaGreatDoor
namespace Go.Proofs.YtiakbmllpnabnaaGreatDoor
open Go Go.RowKit
theorem Fil.cells {w2 w : World} {E B i : Nat} {b0 b1 b2 b3 : Adr} {x : Int} (h : Fil w2 w E B 4 [(plG, b0), (plG, b1), (plG, b2), (plG, b3)]) (hx : endsA[i]? = some (.int .i64 x)) :
    w.cell? ⟨E, i, none⟩ = some (.int .i64 x) ∧ (w.cell? ⟨B, 0, none⟩ = some (.int .i64 1) ∧ w.frozen? ⟨B, 0, none⟩ = false) ∧ (w.cell? ⟨B, 76, none⟩ = some (.int .i64 0) ∧ w.frozen? ⟨B, 76, none⟩ = false) ∧
      (w.cell? ⟨B, 112, none⟩ = some (.slice b2.a2 1 b2.c2) ∧ w.frozen? ⟨B, 112, none⟩ = false) ∧ w.cell? ⟨B, 155, none⟩ = some (.slice b3.a4 0 b3.c4) ∧ w.frozen? ⟨B, 155, none⟩ = false := by
  have t := fun j hj => (h.rwc.rws.th j hj).2
  simp only [Nat.zero_add] at t
  refine ⟨(row_cell h.ens.blk i).1.trans hx, ⟨?_, t 0 (by show 0 < 156; decide)⟩, ⟨?_, t 76 (by show 76 < 156; decide)⟩, ⟨?_, t 112 (by show 112 < 156; decide)⟩, ?_, t 155 (by show 155 < 156; decide)⟩
  · exact h.rwc.rws.row 0 (by show 0 < 4; decide) 0 _ rfl
  · exact h.rwc.rws.row 1 (by show 1 < 4; decide) 37 _ rfl
  · exact h.rwc.rws.row 2 (by show 2 < 4; decide) 34 _ rfl
  · exact h.rwc.rws.row 3 (by show 3 < 4; decide) 38 _ rfl
end Go.Proofs.YtiakbmllpnabnaaGreatDoor
namespace Go.Proofs.YtiakbmllpnabnaaGreatDoor
open Go Go.RowKit
theorem k_drew {w : World} {p : Addr} {v : Value} (h : w.cell? p = some v) : w.drew.cell? p = some v := h
theorem k_alloc {w : World} {p : Addr} {v : Value} {o : Obj} (h : w.cell? p = some v) : (w.alloc o).cell? p = some v :=
  (World.cell?_alloc_lt w o p (World.block_lt_of_cell? w p h)).trans h
theorem k_set {w : World} {E B i o : Nat} {v u : Value} (hne : B ≠ E) (h : w.cell? ⟨E, i, none⟩ = some v) : (w.setCell ⟨B, o, none⟩ u).cell? ⟨E, i, none⟩ = some v :=
  (World.cell?_setCell_other w _ _ u (fun e => hne (by cases e; rfl))).trans h
end Go.Proofs.YtiakbmllpnabnaaGreatDoor
namespace Go.Proofs.YtiakbmllpnabnaaGreatDoor
open Go Go.RowKit
theorem past2 (w : World) (o1 o2 : Obj) (B i : Nat) (v : Value) (h : B < w.heap.size) : ((w.alloc o1).alloc o2).setCell ⟨B, i, none⟩ v = ((w.setCell ⟨B, i, none⟩ v).alloc o1).alloc o2 := by
  rw [World.setCell_alloc_past _ _ _ _ (by simp; omega), World.setCell_alloc_past _ _ _ _ h]
theorem past2x4 (w : World) (o1 o2 : Obj) (B : Nat) (v0 v1 v2 v3 : Value) (h : B < w.heap.size) :
    (((((w.alloc o1).alloc o2).setCell ⟨B, 0, none⟩ v0).setCell ⟨B, 76, none⟩ v1).setCell ⟨B, 112, none⟩ v2).setCell ⟨B, 155, none⟩ v3 = ((((((w.setCell ⟨B, 0, none⟩ v0).setCell ⟨B, 76, none⟩ v1).setCell ⟨B, 112, none⟩ v2).setCell ⟨B, 155, none⟩ v3).alloc o1).alloc o2) := by
  have hs : ∀ (w : World) (p : Addr) (v : Value), (w.setCell p v).heap.size = w.heap.size := fun w p v => by simp [World.setCell]
  rw [past2 _ _ _ _ _ _ h, past2 _ _ _ _ _ _ (by rw [hs]; exact h), past2 _ _ _ _ _ _ (by rw [hs, hs]; exact h), past2 _ _ _ _ _ _ (by rw [hs, hs, hs]; exact h)]
variable {w2 w : World} {E B : Nat} {x : Int} {b0 b1 b2 b3 : Adr}
theorem St.start0 (h : Fil w2 w E B 4 [(plG, b0), (plG, b1), (plG, b2), (plG, b3)]) : St w2 E B x b0 b1 b2 b3 0 none none w := ⟨h.ens, h.rwc, h.lo, h.ne, fun n hn => (by cases hn), fun n hn => (by cases hn)⟩
theorem St.finA (h : Fil w2 w E B 4 [(plG, b0), (plG, b1), (plG, b2), (plG, b3)]) : ∃ p q, St w2 E B x b0 b1 b2 b3 4 p q
    ((((((w.setCell ⟨B, 0, none⟩ (.int .i64 x)).setCell ⟨B, 76, none⟩ (.int .i64 x)).setCell ⟨B, 112, none⟩ (.slice (some ⟨w.heap.size, 0, none⟩) 1 1)).setCell ⟨B, 155, none⟩ (.slice (some ⟨w.heap.size + 1, 0, none⟩) 2 2)).alloc (.cells #[.int .i64 x] 3)).alloc (.cells #[.int .i64 x, .slice none 0 0, .int .i64 1, .slice none 0 0] 62)).drew := by
  have g := ((((((St.start0 (x := x) h).n2 (by decide) rfl).n3 (n := w.heap.size + 1) (by decide) (by simp)).s0).s1).s2).s3
  rw [past2x4 _ _ _ _ _ _ _ _ h.rwc.rws.lt] at g
  exact ⟨_, _, g.below (Below.refl _ _).drew⟩
theorem St.finB (h : Fil w2 w E B 4 [(plG, b0), (plG, b1), (plG, b2), (plG, b3)]) : ∃ p q, St w2 E B x b0 b1 b2 b3 4 p q
    ((((((w.setCell ⟨B, 0, none⟩ (.int .i64 x)).setCell ⟨B, 76, none⟩ (.int .i64 x)).setCell ⟨B, 112, none⟩ (.slice (some ⟨w.heap.size + 1, 0, none⟩) 1 1)).setCell ⟨B, 155, none⟩ (.slice (some ⟨w.heap.size, 0, none⟩) 2 2)).alloc (.cells #[.int .i64 x, .slice none 0 0, .int .i64 1, .slice none 0 0] 62)).alloc (.cells #[.int .i64 x] 3)).drew := by
  have g := ((((((St.start0 (x := x) h).n3 (by decide) rfl).n2 (n := w.heap.size + 1) (by decide) (by simp)).s0).s1).s2).s3
  rw [past2x4 _ _ _ _ _ _ _ _ h.rwc.rws.lt] at g
  exact ⟨_, _, g.below (Below.refl _ _).drew⟩
end Go.Proofs.YtiakbmllpnabnaaGreatDoor
namespace Go.Proofs.YtiakbmllpnabnaaGreatDoor
open Go Go.RowKit
theorem run_storeVar_at (w : World) (b o : Nat) (ty : TypeId) (v : Value) (ht : w.there b o 1) (hi : (Tryz.prog.info? ty).map (·.size) = some 1) (h1 : v.oneCell' = true) :
    (storeVar ty ⟨b, o, none⟩ v).run Tryz.prog w = .ok () (w.setCell ⟨b, o, none⟩ v) := by
  have := run_storeCells_cells (P := Tryz.prog) b o [v] 0 w (fun j hj => by simpa using (ht j (by simpa using hj)).1) (fun j hj => by simpa using (ht j (by simpa using hj)).2) (fun x hx => by simp at hx; subst hx; exact h1)
  have hc : v.cells = #[v] := by cases v <;> first | rfl | cases h1
  cases hq : Tryz.prog.info? ty with
  | none => simp [hq] at hi
  | some i =>
    have hs : i.size = 1 := by simpa [hq] using hi
    simp only [Nat.add_zero] at this
    simp [storeVar, sizeOf, typeInfo, hq, hc, hs, this]
    rfl
/-- a part of a row is stored -/
theorem store_gr {ops : Array Oper} {rest : List Oper} {o : Oper} {a : Act} {w : World} {Q : Exit → Act → World → Prop} {B : Nat} {l : List (Grt × Adr)} (H : Rwc w B l) (hgd : o.guard = none) (ty : TypeId) (x y : Operand) (ho : o.op = .store ty x y)
    (k : Nat) (j : Nat) (v : Value) (hx : a.eval x = .pointer (some ⟨B, k * 39 + j, none⟩)) (hy : a.eval y = v) (hi : (Tryz.prog.info? ty).map (·.size) = some 1) (h1 : v.oneCell' = true) (hk : k < l.length) (hj : j < 39) (z : Grt × Adr) (hv : (gaL l[k]).set j v = gaL z)
    (hg : GrC (fun i => i ≠ B ∧ i < w.heap.size) w z.1 z.2)
    (h : ∀ w' : World, Rwc w' B (l.set k z) → (∀ D (w0 : World), D ≤ B → Below D w0 w → Below D w0 w') → wpList Tryz.prog ops Q rest (a.put o.dst undef) w') : wpList Tryz.prog ops Q (o :: rest) a w :=
  wpList_plain hgd fun _ hK => by
    unfold Oper.wp execOp
    simp only [ho, hx, hy, Instr.storeAt, Instr.sureAddr, Sem.run_bind, Sem.run_pure, Result.andThen_ok, run_storeVar_at w B (k * 39 + j) ty v (H.rws.there _ _ (by omega)) hi h1]
    exact hK _ _ (h _ (H.put k hk j hj v z hv hg) fun D w0 hD hb => hb.setCell (p := ⟨B, k * 39 + j, none⟩) hD v)
theorem infoU8 : (Tryz.prog.info? 5).map (fun i => (i.zero, i.size, i.bytes)) = some (some (.int .u8 0), 1, 1) := by kernel_rfl
/-- so many bytes, all nought -/
structure Zrs (w wx : World) (n : Nat) : Prop where
  bel : Below w.heap.size w wx
  size : wx.heap.size = w.heap.size + 1
  row : RbS (fun k => k = w.heap.size) wx (some ⟨w.heap.size, 0, none⟩) n (List.replicate n 0)
theorem made_zeros (n : Nat) (h : n ≤ 1000000) : ∃ M : Array Value, (∀ w : World, (Instr.makeSlice 22 (.int .i64 n) (.int .i64 n)).run Tryz.prog w = .ok (.slice (some ⟨w.heap.size, 0, none⟩) n n) (w.alloc (.cells M 5))) ∧ ∀ w : World, Zrs w (w.alloc (.cells M 5)) n := by
  obtain ⟨i0, hi, hz0, hz1, hz2⟩ := info_parts infoU8
  have hM : (madeCells (Value.int .u8 0).cells (n * i0.size)).toList = List.replicate n (.int .u8 0) := by
    rw [hz1, Nat.mul_one]; exact toList_madeCells_one (.int .u8 0) n
  refine ⟨madeCells (Value.int .u8 0).cells (n * i0.size), fun w => ?_, fun w => ⟨below_new w _, by simp, ⟨by rw [List.length_replicate]; exact Nat.le_refl n, (fun e => by cases e), fun i hi => ?_⟩⟩⟩
  · have hr := run_make (P := Tryz.prog) w 22 5 i0 (.int .u8 0) Tryz.underlying22 hi hz0 .i64 .i64 n n (by omega) (by omega) (by rw [hz2]; omega) (by omega)
    simpa using hr
  · rw [List.length_replicate] at hi
    refine ⟨_, 0, rfl, rfl, ?_⟩
    rw [World.cell?_alloc_at _ _ _ _ rfl, Nat.zero_add, ← Array.getElem?_toList, hM, List.getElem?_replicate, if_pos hi, List.getElem_replicate]
    rfl
theorem wpList_zrs {ops : Array Oper} {rest : List Oper} {o : Oper} {a : Act} {w : World} {Q : Exit → Act → World → Prop} (hg : o.guard = none) (n : Nat) (m : Int) (hm : m = (n : Int)) (hn : n ≤ 1000000) (ho : o.op = .makeSlice 22 (.const (.int .i64 m)) (.const (.int .i64 m)))
    (h : ∀ wx : World, Zrs w wx n → wpList Tryz.prog ops Q rest (a.put o.dst (.slice (some ⟨w.heap.size, 0, none⟩) n n)) wx) : wpList Tryz.prog ops Q (o :: rest) a w := by
  obtain ⟨M, h1, h2⟩ := made_zeros n hn
  subst hm
  refine Go.Great.wpList_allocTo hg _ rfl (.slice (some ⟨w.heap.size, 0, none⟩) n n) (.cells M 5) ?_ (h _ (h2 w))
  unfold execOp
  simp only [ho]
  show ((Instr.makeSlice 22 (.int .i64 n) (.int .i64 n)) >>= fun x => pure (Next.value x)).run Tryz.prog w = _
  rw [Sem.run_bind, h1]
  rfl
theorem infoG8 : (Tryz.prog.info? 28).map (fun i => (i.zero, i.size)) = some (some (.agg (gArr 0)), 39) := zero7
theorem wpList_build6 {ops : Array Oper} {rest : List Oper} {o : Oper} {a : Act} {w : World} {Q : Exit → Act → World → Prop} (hg : o.guard = none) (parts : Array (Nat × Operand)) (ho : o.op = .buildSlice 63 6 parts)
    (l : List (Nat × Value)) (hl : (parts.map fun (i, x) => (i, a.eval x)).toList = l) (L : List (Grt × Adr)) (hf : Instr.fill (fun i => some (i * 39, 39)) ((Array.range (6 * 39)).map ((Value.agg (gArr 0)).cells[· % (Value.agg (gArr 0)).cells.size]!)) l = some (L.flatMap gaL).toArray)
    (h : ∀ (n : Nat) (wx : World), n = w.heap.size → wx = w.alloc (.cells (L.flatMap gaL).toArray 28) → wpList Tryz.prog ops Q rest (a.put o.dst (.slice (some ⟨n, 0, none⟩) 6 6)) wx) : wpList Tryz.prog ops Q (o :: rest) a w := by
  subst hl
  cases hq : Tryz.prog.info? 28 with
  | none => have := infoG8; rw [hq] at this; cases this
  | some i =>
    have h8 := infoG8
    rw [hq] at h8
    have h9 : (i.zero, i.size) = (some (Value.agg (gArr 0)), 39) := Option.some.inj h8
    have e1 : i.zero = some (.agg (gArr 0)) := congrArg Prod.fst h9
    have e2 : i.size = 39 := congrArg Prod.snd h9
    exact wpList_buildSlice hg 63 28 6 parts ho _ i (.agg (gArr 0)) Tryz.underlying63 hq e1 (by rw [e2]; decide) (by rw [e2]; decide) (by rw [e2]; exact hf) (h _ _ rfl rfl)
theorem wp_build6 {o : Oper} {a : Act} {w : World} {K : Act → World → Prop} {Q : Exit → Act → World → Prop} (parts : Array (Nat × Operand)) (ho : o.op = .buildSlice 63 6 parts)
    (l : List (Nat × Value)) (hl : (parts.map fun (i, x) => (i, a.eval x)).toList = l) (L : List (Grt × Adr)) (hf : Instr.fill (fun i => some (i * 39, 39)) ((Array.range (6 * 39)).map ((Value.agg (gArr 0)).cells[· % (Value.agg (gArr 0)).cells.size]!)) l = some (L.flatMap gaL).toArray)
    (h : ∀ (n : Nat) (wx : World), n = w.heap.size → wx = w.alloc (.cells (L.flatMap gaL).toArray 28) → K (a.put o.dst (.slice (some ⟨n, 0, none⟩) 6 6)) wx) : o.wp Tryz.prog a w K Q := by
  subst hl
  cases hq : Tryz.prog.info? 28 with
  | none => have := infoG8; rw [hq] at this; cases this
  | some i =>
    have h8 := infoG8
    rw [hq] at h8
    have h9 : (i.zero, i.size) = (some (Value.agg (gArr 0)), 39) := Option.some.inj h8
    have e1 : i.zero = some (.agg (gArr 0)) := congrArg Prod.fst h9
    have e2 : i.size = 39 := congrArg Prod.snd h9
    exact wp_buildSlice 63 28 6 parts ho _ i (.agg (gArr 0)) Tryz.underlying63 hq e1 (by rw [e2]; decide) (by rw [e2]; decide) (by rw [e2]; exact hf) (h _ _ rfl rfl)
theorem fill6 (a0 a1 a2 a3 a4 a5 : Adr) : Instr.fill (fun i => some (i * 39, 39)) ((Array.range (6 * 39)).map ((Value.agg (gArr 0)).cells[· % (Value.agg (gArr 0)).cells.size]!)) [(0, .agg (grtA plG a0)), (1, .agg (grtA plG a1)), (2, .agg (grtA plG a2)), (3, .agg (grtA plG a3)), (4, .agg (grtA plG a4)), (5, .agg (grtA plG a5))] = some ([(plG, a0), (plG, a1), (plG, a2), (plG, a3), (plG, a4), (plG, a5)].flatMap gaL).toArray := by kernel_rfl
end Go.Proofs.YtiakbmllpnabnaaGreatDoor
namespace Go.Proofs.YtiakbmllpnabnaaGreatDoor
open Go Go.RowKit
/-- the six while they are turned -/
structure Odr (w2 w : World) (B : Nat) (l : List (Grt × Adr)) : Prop where
  rwc : Rwc w B l
  bel : Below w2.heap.size w2 w
  lo : w2.heap.size ≤ B
theorem Odr.below {w2 w w' : World} {B : Nat} {l : List (Grt × Adr)} (h : Odr w2 w B l) (hb : Below w.heap.size w w') : Odr w2 w' B l := ⟨h.rwc.below hb, h.bel.trans (hb.mono h.bel.size), h.lo⟩
theorem store_od {ops : Array Oper} {rest : List Oper} {o : Oper} {a : Act} {w2 w : World} {Q : Exit → Act → World → Prop} {B : Nat} {l : List (Grt × Adr)} (H : Odr w2 w B l) (hgd : o.guard = none) (ty : TypeId) (x y : Operand) (ho : o.op = .store ty x y)
    (k : Nat) (j : Nat) (v : Value) (hx : a.eval x = .pointer (some ⟨B, k * 39 + j, none⟩)) (hy : a.eval y = v) (hi : (Tryz.prog.info? ty).map (·.size) = some 1) (h1 : v.oneCell' = true) (hk : k < l.length) (hj : j < 39) (z : Grt × Adr) (hv : (gaL l[k]).set j v = gaL z)
    (hg : GrC (fun i => i ≠ B ∧ i < w.heap.size) w z.1 z.2)
    (h : ∀ w' : World, Odr w2 w' B (l.set k z) → wpList Tryz.prog ops Q rest (a.put o.dst undef) w') : wpList Tryz.prog ops Q (o :: rest) a w :=
  store_gr H.rwc hgd ty x y ho k j v hx hy hi h1 hk hj z hv hg fun w' h1 h2 => h w' ⟨h1, h2 _ _ H.lo H.bel, H.lo⟩
theorem GrC.low {w w' : World} {g : Grt} {a : Adr} (h : GrC (fun k => k < w.heap.size) w g a) (hb : Below w.heap.size w w') : GrC (fun k => k < w'.heap.size) w' g a := h.keep fun k hk => ⟨hb.block k hk, Nat.lt_of_lt_of_le hk hb.size⟩
theorem grC_new {lo : Nat} {w : World} {a : Adr} (h : GrS (New lo w) w plG a) (h2 : 1 ≤ a.c2) : GrC (fun k => k < w.heap.size) w plG a := (h.grC h2).keep fun _ hk => ⟨rfl, hk.2⟩
theorem odr6 {w2 w : World} {b0 b1 b2 b3 b4 b5 : Adr} (hb : Below w2.heap.size w2 w) (g0 : GrC (fun k => k < w.heap.size) w plG b0) (g1 : GrC (fun k => k < w.heap.size) w plG b1) (g2 : GrC (fun k => k < w.heap.size) w plG b2) (g3 : GrC (fun k => k < w.heap.size) w plG b3) (g4 : GrC (fun k => k < w.heap.size) w plG b4) (g5 : GrC (fun k => k < w.heap.size) w plG b5) :
    Odr w2 (w.alloc (.cells ([(plG, b0), (plG, b1), (plG, b2), (plG, b3), (plG, b4), (plG, b5)].flatMap gaL).toArray 28)) w.heap.size [(plG, b0), (plG, b1), (plG, b2), (plG, b3), (plG, b4), (plG, b5)] := by
  have hn := below_new w (.cells ([(plG, b0), (plG, b1), (plG, b2), (plG, b3), (plG, b4), (plG, b5)].flatMap gaL).toArray 28)
  have up : ∀ {a : Adr}, GrC (fun k => k < w.heap.size) w plG a → GrC (fun i => i ≠ w.heap.size ∧ i < (w.alloc (.cells ([(plG, b0), (plG, b1), (plG, b2), (plG, b3), (plG, b4), (plG, b5)].flatMap gaL).toArray 28)).heap.size) (w.alloc (.cells ([(plG, b0), (plG, b1), (plG, b2), (plG, b3), (plG, b4), (plG, b5)].flatMap gaL).toArray 28)) plG a :=
    fun h => h.keep fun k hk => ⟨hn.block k hk, Nat.ne_of_lt hk, Nat.lt_of_lt_of_le hk hn.size⟩
  refine ⟨⟨rws_of (heap_alloc_new w _), fun k hk => ?_⟩, hb.trans (hn.mono hb.size), hb.size⟩
  have hk6 : k < 6 := hk
  rcases (by omega : k = 0 ∨ k = 1 ∨ k = 2 ∨ k = 3 ∨ k = 4 ∨ k = 5) with rfl | rfl | rfl | rfl | rfl | rfl
  · exact up g0
  · exact up g1
  · exact up g2
  · exact up g3
  · exact up g4
  · exact up g5
def aSes (a : Adr) (n : Nat) : Adr := ⟨some ⟨n, 0, none⟩, 33, a.a2, a.c2, a.a3, a.c3, a.a4, a.c4⟩
def aNoS (a : Adr) : Adr := ⟨a.a1, a.c1, none, 0, a.a3, a.c3, a.a4, a.c4⟩
def aMet (a : Adr) (n : Nat) : Adr := ⟨a.a1, a.c1, a.a2, a.c2, some ⟨n, 0, none⟩, 2, a.a4, a.c4⟩
variable {S : Nat → Prop} {w wx : World} {b : Adr} {n : Nat}
theorem od0 (h : GrC S w plG b) (hz : RbS S w (some ⟨n, 0, none⟩) 33 (List.replicate 33 0)) : GrC S w o0 (aSes b n) := ⟨hz, h.sui, h.su2, h.met, h.ext, h.rl⟩
theorem od1 (h : GrC S w plG b) : GrC S w o1 (aNoS b) := ⟨h.ses, fun i hi => by simp [o1] at hi, Nat.le_refl 0, h.met, h.ext, h.rl⟩
theorem od2 (h : GrC S w plG b) (hs : S n) (hb : w.heap[n]? = some (.cells #[.int .u8 1, .int .u8 2] 5 (0, 0))) : GrC S w o2 (aMet b n) :=
  ⟨h.ses, h.sui, h.su2, ⟨Nat.le_refl 2, (fun e => by cases e), fun i hi => by
    have hi2 : i < 2 := hi
    rcases (by omega : i = 0 ∨ i = 1) with rfl | rfl
    · exact ⟨n, 0, rfl, hs, (row_cell hb 0).1⟩
    · exact ⟨n, 0, rfl, hs, (row_cell hb 1).1⟩⟩, h.ext, h.rl⟩
theorem od3 (h : GrC S w plG b) : GrC S w o3 b := ⟨h.ses, h.sui, h.su2, h.met, h.ext, h.rl⟩
theorem od4 (h : GrC S w plG b) : GrC S w o4 b := ⟨h.ses, h.sui, h.su2, h.met, h.ext, h.rl⟩
theorem od5 (h : GrC S w plG b) (hs : S n) (hb : w.heap[n]? = some (.cells #[.int .i64 5, .slice none 0 0, .int .i64 5, .slice none 0 0] 62 (0, 0))) : GrC S w o5 (aExt b n 2) :=
  ⟨h.ses, h.sui, h.su2, h.met, fun i hi => by
    have hi2 : i < 2 := hi
    rcases (by omega : i = 0 ∨ i = 1) with rfl | rfl
    · exact ⟨n, 0, none, 0, rfl, hs, (row_cell hb 0).1, (row_cell hb 1).1, ⟨Nat.zero_le _, fun _ => rfl, fun j hj => by simp [o5] at hj⟩⟩
    · exact ⟨n, 0, none, 0, rfl, hs, (row_cell hb 2).1, (row_cell hb 3).1, ⟨Nat.zero_le _, fun _ => rfl, fun j hj => by simp [o5] at hj⟩⟩, h.rl⟩
theorem inf22 : (Tryz.prog.info? 22).map (·.size) = some 1 := by kernel_rfl
theorem inf25 : (Tryz.prog.info? 25).map (·.size) = some 1 := by kernel_rfl
theorem inf26 : (Tryz.prog.info? 26).map (·.size) = some 1 := by kernel_rfl
theorem inf9 : (Tryz.prog.info? 9).map (·.size) = some 1 := by kernel_rfl
/-- what is told of each of the six -/
def BadG (g : Grt) : Prop := okG g = false ∧ SmG g
theorem bad_all {c0 c1 c2 c3 c4 c5 : Adr} : ∀ k (h : k < [(o0, c0), (o1, c1), (o2, c2), (o3, c3), (o4, c4), (o5, c5)].length), BadG ([(o0, c0), (o1, c1), (o2, c2), (o3, c3), (o4, c4), (o5, c5)][k]).1 := by
  have sm : ∀ g : Grt, g.ses.length ≤ 1000 → g.suites.length ≤ 1000 → g.meth.length ≤ 1000 → g.host.length ≤ 1000 → g.exts.length ≤ 1000 → (∀ y ∈ g.exts, y.2.length ≤ 500) → SmG g := fun g h1 h2 h3 h4 h5 h6 => ⟨h1, h2, h3, h4, h5, h6⟩
  intro k hk
  have hk6 : k < 6 := hk
  rcases (by omega : k = 0 ∨ k = 1 ∨ k = 2 ∨ k = 3 ∨ k = 4 ∨ k = 5) with rfl | rfl | rfl | rfl | rfl | rfl
  · exact ⟨o0_no, sm o0 (by decide) (by decide) (by decide) (by decide) (by decide) (fun y hy => by simp [o0] at hy)⟩
  · exact ⟨o1_no, sm o1 (by decide) (by decide) (by decide) (by decide) (by decide) (fun y hy => by simp [o1] at hy)⟩
  · exact ⟨o2_no, sm o2 (by decide) (by decide) (by decide) (by decide) (by decide) (fun y hy => by simp [o2] at hy)⟩
  · exact ⟨o3_no, sm o3 (by decide) (by decide) (by decide) (by decide) (by decide) (fun y hy => by simp [o3] at hy)⟩
  · exact ⟨o4_no, sm o4 (by decide) (by decide) (by decide) (by decide) (by decide) (fun y hy => by simp [o4] at hy)⟩
  · exact ⟨o5_no, sm o5 (by decide) (by decide) (by decide) (by decide) (by decide) (fun y hy => by simp [o5] at hy; subst hy; decide)⟩
end Go.Proofs.YtiakbmllpnabnaaGreatDoor
namespace Go.Proofs.YtiakbmllpnabnaaGreatDoor
open Go Go.RowKit
theorem hset {w : World} {q j k : Nat} {v : Value} (h : k ≠ q) : (w.setCell ⟨q, j, none⟩ v).heap[k]? = w.heap[k]? := Below.heap_setCell _ _ _ _ h
/-- the long one, and what it had ahead -/
structure Lng (w2 w : World) (N D : Nat) (a : Adr) : Prop where
  bel : Below w2.heap.size w2 w
  lo : w2.heap.size ≤ N
  nD : N < D
  dw : D ≤ w.heap.size
  gr : GrC (fun i => i ≠ N ∧ i < D) w plG a
theorem Lng.below {w2 w w' : World} {N D : Nat} {a : Adr} (h : Lng w2 w N D a) (hb : Below w.heap.size w w') : Lng w2 w' N D a :=
  ⟨h.bel.trans (hb.mono h.bel.size), h.lo, h.nD, Nat.le_trans h.dw hb.size, h.gr.keep fun i hi => ⟨hb.block i (Nat.lt_of_lt_of_le hi.2 h.dw), hi⟩⟩
theorem Lng.set {w2 w : World} {N D : Nat} {a : Adr} (h : Lng w2 w N D a) (q j : Nat) (v : Value) (hq : q = N ∨ D ≤ q) : Lng w2 (w.setCell ⟨q, j, none⟩ v) N D a :=
  ⟨h.bel.setCell (p := ⟨q, j, none⟩) (by show w2.heap.size ≤ q; have := h.lo; have := h.nD; omega) v, h.lo, h.nD, by have := h.dw; simpa [World.setCell] using this, h.gr.keep fun i hi => ⟨hset (by omega), hi⟩⟩
theorem lng_start {w2 w : World} {a : Adr} (hb : Below w2.heap.size w2 w) (hg : GrC (fun k => k < w.heap.size) w plG a) : Lng w2 (w.alloc (.cells (grtA plG a) 28)) w.heap.size (w.heap.size + 1) a :=
  ⟨hb.trans ((below_new w _).mono hb.size), hb.size, Nat.lt_succ_self _, by simp, hg.keep fun i hi => ⟨(below_new w _).block i hi, Nat.ne_of_lt hi, Nat.lt_succ_of_lt hi⟩⟩
structure Lge (w2 w : World) (N D n z k : Nat) (a : Adr) : Prop where
  l : Lng w2 w N D a
  bN : w.heap[N]? = some (.cells (grtA (lgE k) (aExt a n 1)) 28 (0, 0))
  bE : w.heap[n]? = some (.cells #[.int .i64 7, .slice (some ⟨z, 0, none⟩) k k] 62 (0, 0))
  rz : RbS (fun i => i = z) w (some ⟨z, 0, none⟩) k (List.replicate k 0)
  hn : D ≤ n
  hz : D ≤ z
  zlt : z < w.heap.size
theorem Lge.below {w2 w w' : World} {N D n z k : Nat} {a : Adr} (h : Lge w2 w N D n z k a) (hb : Below w.heap.size w w') : Lge w2 w' N D n z k a :=
  ⟨h.l.below hb, (hb.block _ (lt_of_block h.bN)).trans h.bN, (hb.block _ (lt_of_block h.bE)).trans h.bE, h.rz.keep fun i hi => ⟨hb.block i (by rw [hi]; exact h.zlt), hi⟩, h.hn, h.hz, Nat.lt_of_lt_of_le h.zlt hb.size⟩
theorem row_lg (a : Adr) (n k : Nat) : (grtA plG a).setIfInBounds 38 (.slice (some ⟨n, 0, none⟩) 1 1) = grtA (lgE k) (aExt a n 1) := rfl
theorem lge_start {w2 w wz : World} {N D k : Nat} {a : Adr} (h : Lng w2 w N D a) (hb : w.heap[N]? = some (.cells (grtA plG a) 28 (0, 0))) (hz : Zrs w wz k) :
    Lge w2 ((wz.alloc (.cells #[.int .i64 7, .slice (some ⟨w.heap.size, 0, none⟩) k k] 62)).setCell ⟨N, 38, none⟩ (.slice (some ⟨wz.heap.size, 0, none⟩) 1 1)) N D wz.heap.size w.heap.size k a := by
  have hnD := h.nD
  have hdw := h.dw
  have hsz := hz.size
  have h1 := h.below hz.bel
  have hn := below_new wz (.cells #[.int .i64 7, .slice (some ⟨w.heap.size, 0, none⟩) k k] 62)
  have h2 := h1.below hn
  have bN1 := (hn.block N (by omega)).trans ((hz.bel.block N (by omega)).trans hb)
  refine ⟨h2.set N 38 _ (.inl rfl), row_put bN1 38 _, (hset (by omega)).trans (heap_alloc_new wz _), hz.row.keep fun i hi => ⟨(hset (by omega)).trans (hn.block i (by omega)), hi⟩, by omega, by omega, ?_⟩
  simp [World.setCell]
  omega
theorem lge_again {w2 w wx : World} {N D n z k k2 : Nat} {a : Adr} (h : Lge w2 w N D n z k a) (hz : Zrs w wx k2) : Lge w2 (wx.setCell ⟨n, 1, none⟩ (.slice (some ⟨w.heap.size, 0, none⟩) k2 k2)) N D n w.heap.size k2 a := by
  have g := h.below hz.bel
  have hnD := h.l.nD
  have hdw := h.l.dw
  have hsz := hz.size
  have hn := h.hn
  have hlt := lt_of_block h.bE
  refine ⟨g.l.set n 1 _ (.inr hn), (hset (by omega)).trans g.bN, row_put g.bE 1 _, hz.row.keep fun i hi => ⟨hset (by omega), hi⟩, hn, by omega, ?_⟩
  simp [World.setCell]
  omega
theorem Lge.grV {w2 w : World} {N D n z k : Nat} {a : Adr} (h : Lge w2 w N D n z k a) : GrV w.heap.size w (lgE k) (aExt a n 1) := by
  have hlt := lt_of_block h.bE
  have hdw := h.l.dw
  have c : GrC (fun i => i < w.heap.size) w (lgE k) (aExt a n 1) := by
    have g := h.l.gr.keep (S' := fun i => i < w.heap.size) fun i hi => ⟨rfl, Nat.lt_of_lt_of_le hi.2 hdw⟩
    refine ⟨g.ses, g.sui, g.su2, g.met, fun i hi => ?_, g.rl⟩
    have : i = 0 := by
      have : i < 1 := hi
      omega
    subst this
    have hl : (List.replicate k (0 : UInt8)).length = k := List.length_replicate
    refine ⟨n, 0, some ⟨z, 0, none⟩, k, rfl, hlt, (row_cell h.bE 0).1, ?_, h.rz.keep fun i hi => ⟨rfl, by rw [hi]; exact h.zlt⟩⟩
    show w.cell? ⟨n, 1, none⟩ = some (.slice (some ⟨z, 0, none⟩) (List.replicate k (0 : UInt8)).length k)
    rw [hl]
    exact (row_cell h.bE 1).1
  have b := c.grB fun i hi => hi
  exact ⟨b.ses, b.sui, b.met, b.ext, by show 0 ≤ 1000000; decide, by show 1 ≤ 1000000; decide, by show 1 ≤ 1000000; decide, by show 1 ≤ 1000000; decide, by show 1 ≤ 1000000; decide, b.rl⟩
theorem lgE_d (k : Nat) (hk : k ≤ 1000000) : ∀ x ∈ (lgE k).exts, x.2.length ≤ 1000000 := fun x hx => by
  have e : x = (7, List.replicate k 0) := by simpa [lgE] using hx
  subst e
  show (List.replicate k (0 : UInt8)).length ≤ 1000000
  rw [List.length_replicate]; exact hk
theorem step_zrs {ops : Array Oper} {o : Oper} {a : Act} {K : Act → World → Prop} {Q : Exit → Act → World → Prop} {E0 : Prop} (hgd : o.guard = none) (n : Nat) (m : Int) (hm : m = (n : Int)) (hn : n ≤ 1000000) (ho : o.op = .makeSlice 22 (.const (.int .i64 m)) (.const (.int .i64 m))) (w : World)
    (hk : ∀ wx : World, Zrs w wx n → K (a.put o.dst (.slice (some ⟨w.heap.size, 0, none⟩) n n)) wx) :
    if Region.wanted o (yielded ops a.tmps) = true then Oper.wp Tryz.prog o a w K Q else E0 := by
  have hw : Region.wanted o (yielded ops a.tmps) = true := by simp [Region.wanted, hgd]
  rw [if_pos hw]
  obtain ⟨M, h1, h2⟩ := made_zeros n hn
  subst hm
  have hr : (execOp a.eval o).run Tryz.prog w = .ok (.value (.slice (some ⟨w.heap.size, 0, none⟩) n n)) (w.alloc (.cells M 5)) := by
    unfold execOp
    simp only [ho]
    show ((Instr.makeSlice 22 (.int .i64 n) (.int .i64 n)) >>= fun x => pure (Next.value x)).run Tryz.prog w = _
    rw [Sem.run_bind, h1]
    rfl
  unfold Oper.wp
  rw [hr]
  exact hk _ (h2 w)
theorem wpList_store_at {ops : Array Oper} {rest : List Oper} {o : Oper} {a : Act} {w : World} {Q : Exit → Act → World → Prop} (hgd : o.guard = none) (ty : TypeId) (x y : Operand) (ho : o.op = .store ty x y)
    (B off : Nat) (v : Value) (hx : a.eval x = .pointer (some ⟨B, off, none⟩)) (hy : a.eval y = v) (hi : (Tryz.prog.info? ty).map (·.size) = some 1) (h1 : v.oneCell' = true) (ht : w.there B off 1)
    (h : wpList Tryz.prog ops Q rest (a.put o.dst undef) (w.setCell ⟨B, off, none⟩ v)) : wpList Tryz.prog ops Q (o :: rest) a w :=
  wpList_plain hgd fun _ hK => by
    unfold Oper.wp execOp
    simp only [ho, hx, hy, Instr.storeAt, Instr.sureAddr, Sem.run_bind, Sem.run_pure, Result.andThen_ok, run_storeVar_at w B off ty v ht hi h1]
    exact hK _ _ h
theorem there_of_row {w : World} {g : Nat} {arr : Array Value} {t : TypeId} (h : w.heap[g]? = some (.cells arr t (0, 0))) (j : Nat) (hj : j < arr.size) : w.there g j 1 := fun i hi => by
  obtain rfl : i = 0 := by omega
  obtain ⟨h1, h2⟩ := row_cell h j
  refine ⟨?_, h2⟩
  show (w.cell? ⟨g, j, none⟩).isSome = true
  rw [h1, Array.getElem?_eq_getElem hj]; rfl
end Go.Proofs.YtiakbmllpnabnaaGreatDoor
namespace Go.Proofs.YtiakbmllpnabnaaGreatDoor
open Go Go.RowKit
theorem lge_past {w2 w : World} {N D n z k k2 : Nat} {a : Adr} {M : Array Value} (h : Lge w2 w N D n z k a) (hz : Zrs w (w.alloc (.cells M 5)) k2) :
    Lge w2 (((w.setCell ⟨n, 1, none⟩ (.slice (some ⟨w.heap.size, 0, none⟩) k2 k2)).alloc (.cells M 5)).drew) N D n w.heap.size k2 a ∧ Below w.heap.size w (w.alloc (.cells M 5)) := by
  have g := lge_again h hz
  rw [World.setCell_alloc_past _ _ _ _ (lt_of_block h.bE)] at g
  exact ⟨g.below (Below.refl _ _).drew, hz.bel⟩
theorem rowG_set {w : World} {base c n j : Nat} {v : Value} {A : Option Addr} {l : List UInt8} (h : RowG w base A c l) (hA : ∀ g, A = some ⟨g, 0, none⟩ → g ≠ n) : RowG (w.setCell ⟨n, j, none⟩ v) base A c l :=
  ⟨h.le, h.most, by
    rcases h.at_ with e | ⟨g, rfl, h1, h2, h3, h4⟩
    · exact .inl e
    · have hne := hA g rfl
      have hc : ∀ i, (w.setCell ⟨n, j, none⟩ v).cell? ⟨g, i, none⟩ = w.cell? ⟨g, i, none⟩ := fun i => by
        unfold World.cell?
        rw [show (w.setCell ⟨n, j, none⟩ v).heap[(⟨g, i, none⟩ : Addr).block]? = w.heap[g]? from hset hne]
      have hf : ∀ i, (w.setCell ⟨n, j, none⟩ v).frozen? ⟨g, i, none⟩ = w.frozen? ⟨g, i, none⟩ := fun i => by
        unfold World.frozen?
        rw [show (w.setCell ⟨n, j, none⟩ v).heap[(⟨g, i, none⟩ : Addr).block]? = w.heap[g]? from hset hne]
      exact .inr ⟨g, rfl, h1, by simpa [World.setCell] using h2, fun i hi => by rw [hc, hf]; exact h3 i hi, fun i hi => by rw [hc]; exact h4 i hi⟩⟩
end Go.Proofs.YtiakbmllpnabnaaGreatDoor
