/- The program's reader: exts. The program's reader: isName, slices.IndexFunc, slices.Delete. Rows of extensions: slices.Delete of one. -/
import Derived.Test.YtiakbmllpnabnaaGreatDoorKo
import Derived.Test.YtiakbmllpnabnaaGreatDoorKe
namespace Go.Proofs.YtiakbmllpnabnaaGreatDoor
open Go Go.RowKit

theorem wpList_pushVG {sz : Nat} {ops : Array Oper} {rest : List Oper} {o : Oper} {a : Act} {Q : Exit → Act → World → Prop} (hgd : o.guard = none) (s x : Operand) (S E tx : TypeId)
    (ho : o.op = .call { callee := .builtin .append, args := #[s, x], argTypes := #[S, tx] }) (i0 : TypeInfo) (z0 : Value) (bz : Nat) (hS : Tryz.prog.underlying S = some (.slice E)) (hi : Tryz.prog.info? E = some i0) (hz0 : i0.zero = some z0) (hz1 : i0.size = sz) (hz2 : i0.bytes = bz) (hzc : z0.cells.size = sz) (hbz : bz ≤ 40)
    (w : World) (base : Nat) (A : Option Addr) (c n m : Nat) (vs news : List Value) (xv : Value) (hm : news.length = m * sz)
    (hs : a.eval s = .slice A n c) (hx : a.eval x = xv) (h : RowV sz w base A n c vs) (hsrc : Src Tryz.prog sz tx xv m news w) (hbase : base ≤ w.heap.size) (hlen : n + m ≤ 1000000000000)
    (hk : ∀ (A' : Option Addr) (c' : Nat) w', RowV sz w' base A' (n + m) c' (vs ++ news) → Gw base A A' w w' → wpList Tryz.prog ops Q rest (a.put o.dst (.slice A' (n + m) c')) w') :
    wpList Tryz.prog ops Q (o :: rest) a w := by
  refine wpList_plain hgd fun K hK => ?_
  obtain ⟨A', c', w', hr, h2, h3, h4, h5⟩ := run_pushV w base S E tx o.type i0 z0 bz hS hi hz0 hz1 hz2 hzc hbz A n c m vs news xv h hsrc hm hbase hlen
  unfold Oper.wp execOp
  simp only [ho, resolve, invoke, builtin, Sem.run_bind, Sem.run_pure, Result.andThen_ok, List.map_toArray, List.map_cons, List.map_nil, hs, hx, hr]
  exact hK _ _ (hk A' c' w' h2 ⟨h3, h4, h5⟩)
/-- bytes that a slice holds, in blocks of a set -/
structure RbS (S : Nat → Prop) (w : World) (A : Option Addr) (c : Nat) (x : List UInt8) : Prop where
  cap : x.length ≤ c
  nil : A = none → c = 0
  rd : ∀ i (hi : i < x.length), ∃ b off, A = some ⟨b, off, none⟩ ∧ S b ∧ w.cell? ⟨b, off + i, none⟩ = some (.int .u8 (x[i].toNat : Int))
theorem RbS.keep {S S' : Nat → Prop} {w w' : World} {A : Option Addr} {c : Nat} {x : List UInt8} (h : RbS S w A c x) (hb : ∀ k, S k → w'.heap[k]? = w.heap[k]? ∧ S' k) : RbS S' w' A c x :=
  ⟨h.cap, h.nil, fun i hi => by
    obtain ⟨b, off, e, hl, hc⟩ := h.rd i hi
    refine ⟨b, off, e, (hb b hl).2, Eq.trans ?_ hc⟩
    unfold World.cell?
    rw [(hb b hl).1]⟩
theorem RbS.rb {S : Nat → Prop} {D : Nat} {w : World} {A : Option Addr} {c : Nat} {x : List UInt8} (h : RbS S w A c x) (hb : ∀ k, S k → k < D) : Rb D w A c x :=
  ⟨h.cap, h.nil, fun i hi => by
    obtain ⟨b, off, e, hl, hc⟩ := h.rd i hi
    exact ⟨b, off, e, hb b hl, hc⟩⟩
theorem RowG.rbS {w : World} {base : Nat} {A : Option Addr} {c : Nat} {l : List UInt8} (h : RowG w base A c l) : RbS (fun k => base ≤ k ∧ k < w.heap.size) w A c l := by
  rcases h.at_ with ⟨rfl, rfl⟩ | ⟨g, rfl, hb, hlt, _, hc⟩
  · have : l = [] := List.eq_nil_of_length_eq_zero (by have := h.le; omega)
    subst this
    exact ⟨Nat.le_refl _, fun _ => rfl, fun i hi => by simp at hi⟩
  · exact ⟨h.le, (fun e => (by cases e)), fun i hi => ⟨g, 0, rfl, ⟨hb, hlt⟩, by rw [Nat.zero_add]; exact hc i hi⟩⟩
/-- the blocks of a row's data: new ones, but not the row's own -/
def Own (base : Nat) (w : World) (A : Option Addr) (k : Nat) : Prop := base ≤ k ∧ k < w.heap.size ∧ A ≠ some ⟨k, 0, none⟩
/-- how far the extensions have been read -/
def ExSt (d : List UInt8) (g D : Nat) (w : World) (f : Nat) (L : List Xc) (A : Option Addr) (c : Nat) (wr : World) : Prop := ∃ (R : List UInt8) (A1 : Option Addr) (c1 : Nat),
  R.length ≤ f ∧ R.length + L.length ≤ d.length ∧ Rdr wr g D R A1 c1 ∧ RowV 2 wr w.heap.size A L.length c (xcV L) ∧ (∀ x ∈ L, RbS (Own w.heap.size wr A) wr x.a x.c x.d) ∧ unA d = (unA R).map (L.map xcE ++ ·) ∧ Kp g w.heap.size w wr
/-- what exts leaves -/
def ExtsP (g : Nat) (w : World) (l : List (Int × List UInt8)) (e : Ending) (w' : World) : Prop := ∃ (A : Option Addr) (c : Nat) (L : List Xc), e = .returned (.slice A l.length c) ∧ L.map xcE = l ∧ RowV 2 w' w.heap.size A l.length c (xcV L) ∧ (∀ x ∈ L, RbS (Own w.heap.size w' A) w' x.a x.c x.d) ∧ Kp g w.heap.size w w'
theorem map_none {α : Type} (f : α → α) : (none : Option α).map f = none := rfl
set_option maxRecDepth 100000 in
set_option maxHeartbeats 1000000 in
theorem rexts_any {D g : Nat} {w : World} {A : Option Addr} {c : Nat} {d : List UInt8} (h : Rdr w g D d A c) :
    Calls Tryz.prog 68 #[.pointer (some ⟨g, 0, none⟩)] w (Out (unA d) g w (ExtsP g w)) := by
  obtain ⟨i0, hi0, hz0, hz1, hz2⟩ := info_parts infoE
  have hgw := h.cs.lt
  have hdl := h.le
  have HGW := Lib.hid hgw
  have H := Lib.hid h
  generalize hU : unA d = U
  have HU := Lib.hid hU
  clear h hU hgw
  unfold Out ExtsP
  go_enter Tryz.func68, Tryz.ntmps68
  go_wp2_with fail
  go_loopg [3] d.length (fun f v wr => ∃ (L : List Xc) (A' : Option Addr) (c' : Nat), v = .slice A' L.length c' ∧ Hid (ExSt d g D w f L A' c' wr))
  case atStart => exact ⟨[], none, 0, rfl, Lib.hid ⟨d, A, c, Nat.le_refl _, Nat.le_refl _, H.out, RowV.nil 2 _ _, (fun x hx => by cases hx), (by cases unA d <;> rfl), Kp.refl _ _ _⟩⟩
  case round =>
    obtain ⟨L, A', c', rfl, hst⟩ := hrel
    obtain ⟨R, A1, c1, hf, hll, hr, hrow, hrb, hun, hk⟩ := hst.out
    have d0 := rdr_c hr
    have HR := Lib.hid hr
    have HROW := Lib.hid hrow
    have HRB := Lib.hid hrb
    have HUN := Lib.hid hun
    have HK := Lib.hid hk
    clear hst hr hrow hrb hun hk
    cases hRl : R with
    | nil =>
      subst hRl
      rw [List.length_nil] at d0
      have HS : Hid (U = some (L.map xcE)) := Lib.hid (by rw [← HU.out, HUN.out, unA_nil, Option.map_some, List.append_nil])
      clear HU HUN HR
      go_wp2_with fail
      go_ret
      exact ⟨(fun e => by rw [HS.out] at e; cases e), fun x e => by
        rw [HS.out] at e
        obtain rfl := Option.some.inj e
        exact ⟨A', c', L, (by rw [List.length_map]; rfl), rfl, (by rw [List.length_map]; exact HROW.out), HRB.out, HK.out⟩⟩
    | cons x r =>
      have hpos : 0 < R.length := by rw [hRl]; simp
      have hposi : (0 : Int) < R.length := by omega
      have HNO : Hid (flC (tkC (some R) 2) 2 = none → U = none) := Lib.hid fun e => by rw [← HU.out, HUN.out]; rw [hRl] at e ⊢; rw [unA_none e]; rfl
      have HYES : Hid (∀ R', flC (tkC (some R) 2) 2 = some R' → unA d = (unA R').map ((L ++ [(⟨((nmV (some R) 2 : Nat) : Int), none, 0, flV (tkC (some R) 2) 2⟩ : Xc)]).map xcE ++ ·) ∧ R'.length + 4 ≤ R.length) := Lib.hid fun R' e => by
        refine ⟨?_, fl_shorter e⟩
        rw [HUN.out]
        rw [hRl] at e ⊢
        rw [unA_some e, Option.map_map]
        congr 1
        funext t
        rw [List.map_append]
        simp [xcE]
      clear hRl HUN
      have CN := Lib.hid (rnumber_any HR.out 2 (by decide))
      go_wp2_with fail
      refine CN.out.mono ?_
      intro e w1 hh
      cases hq : tkC (some R) 2 with
      | none =>
        obtain ⟨rfl, hk1⟩ := hh.1 hq
        have HS : Hid (U = none) := Lib.hid (HNO.out (by rw [hq]; rfl))
        have K1 := Lib.hid (HK.out.trans (hk1.mono HK.out.size))
        clear hh hk1 CN HNO HYES d0 hq HU
        go_wp2_with fail
        exact ⟨rfl, (fun _ => ⟨rfl, K1.out⟩), fun x e => by rw [HS.out] at e; cases e⟩
      | some R1 =>
        obtain ⟨rfl, ⟨A2, c2, hr2⟩, hk1⟩ := hh.2 R1 hq
        rw [hq] at HNO HYES
        have K1 := Lib.hid (HK.out.trans (hk1.mono HK.out.size))
        have ROW1 := Lib.hid (HROW.out.kp hk1 HGW.out)
        have RB1 : Hid (∀ x ∈ L, RbS (Own w.heap.size w1 A') w1 x.a x.c x.d) := Lib.hid fun x hx => (HRB.out x hx).keep fun k hk => ⟨hk1.block k hk.2.1 (by have := HGW.out; have := hk.1; omega), hk.1, Nat.lt_of_lt_of_le hk.2.1 hk1.size, hk.2.2⟩
        have CP := Lib.hid (rpart_any hr2 2 (by decide))
        have hfl : ∀ {R' X}, flC (some R1) 2 = some R' → flV (some R1) 2 = X → X.length ≤ 1000000 := fun {R' X} e e2 => by
          have h1 := (tk_some (c := tkC (some R1) 2) e).2
          have h3 := (tk_yes hq).2.1
          obtain ⟨h4, _⟩ := fl_some (c := some R1) (k := 2) e
          have h5 := congrArg List.length (Option.some.inj h4)
          unfold fillB at h5
          rw [List.length_append, List.length_append] at h5
          have h6 := hr2.le
          rw [← e2]; omega
        have HFL : Hid (∀ R' X, flC (some R1) 2 = some R' → flV (some R1) 2 = X → X.length ≤ 1000000) := Lib.hid fun R' X => hfl
        clear hh hk1 CN d0 hq hr2 hfl HROW HRB HR HK
        generalize nmV (some R) 2 = v at *
        go_wp2_with fail
        refine CP.out.mono ?_
        intro e w2 hh
        generalize hX : flV (some R1) 2 = X at *
        cases hq : flC (some R1) 2 with
        | none =>
          obtain ⟨rfl, hk2⟩ := hh.1 hq
          have HS : Hid (U = none) := Lib.hid (HNO.out hq)
          have K2 := Lib.hid (K1.out.trans (hk2.mono K1.out.size))
          clear hh hk2 CP HNO HYES hq HFL HU
          go_wp2_with fail
          exact ⟨rfl, (fun _ => ⟨rfl, K2.out⟩), fun x e => by rw [HS.out] at e; cases e⟩
        | some R' =>
          obtain ⟨F2, A3, c3, rfl, hf2, hr3, hk2⟩ := hh.2 R' hq
          have HXL := Lib.hid (HFL.out R' X hq rfl)
          obtain ⟨hy1, hy2⟩ := HYES.out R' hq
          have HY1 := Lib.hid hy1
          have K2 := Lib.hid (K1.out.trans (hk2.mono K1.out.size))
          have ROW2 := Lib.hid (ROW1.out.kp hk2 HGW.out)
          have RB2 : Hid (∀ x ∈ L, RbS (Own w.heap.size w2 A') w2 x.a x.c x.d) := Lib.hid fun x hx => (RB1.out x hx).keep fun k hk => ⟨hk2.block k hk.2.1 (by have := HGW.out; have := hk.1; omega), hk.1, Nat.lt_of_lt_of_le hk.2.1 hk2.size, hk.2.2⟩
          have R3 := Lib.hid hr3
          have CC := Lib.hid (bytesClone7 hf2 (Nat.le_trans hr3.dg (Nat.le_of_lt hr3.cs.lt)) rfl HXL.out)
          unfold MadeP at CC
          clear hh hk2 CP HNO HYES hq HFL hf2 hr3 hy1 K1 ROW1 RB1
          go_wp2_with fail
          refine CC.out.mono ?_
          rintro e w3 ⟨A4, c4, rfl, hr4, hb4⟩
          have K3 := Lib.hid (K2.out.trans (kp_fresh (g := g) K2.out.size hb4))
          have ROW3 := Lib.hid (ROW2.out.below hb4)
          have RB3 : Hid (∀ x ∈ L ++ [⟨(v : Int), A4, c4, X⟩], RbS (Own w.heap.size w3 A') w3 x.a x.c x.d) := Lib.hid fun x hx => by
            rcases List.mem_append.1 hx with hx | hx
            · exact (RB2.out x hx).keep fun k hk => ⟨hb4.block k hk.2.1, hk.1, Nat.lt_of_lt_of_le hk.2.1 hb4.size, hk.2.2⟩
            · obtain rfl := List.mem_singleton.1 hx
              refine hr4.rbS.keep fun k hk => ⟨rfl, Nat.le_trans K2.out.size hk.1, hk.2, fun e => ?_⟩
              have := (ROW2.out.lt e).2
              have := hk.1
              omega
          have R4 := Lib.hid (R3.out.below hb4)
          clear CC hr4 hb4 K2 ROW2 RB2 R3
          have hbn := below_new w3 (.cells #[.int .i64 v, .slice A4 X.length c4] 62)
          have SRC := Lib.hid (src_one (sz := 2) (w := w3.alloc (.cells #[.int .i64 v, .slice A4 X.length c4] 62)) Tryz.underlying26 w3.heap.size [.int .i64 v, .slice A4 X.length c4] rfl (fun j hj => by
            have : j = 0 ∨ j = 1 := by simp at hj; omega
            rw [World.cell?_alloc_at _ _ _ _ rfl]; rcases this with rfl | rfl <;> rfl) (fun u hu => by
            simp only [List.mem_cons, List.not_mem_nil, or_false] at hu
            rcases hu with rfl | rfl <;> rfl))
          have ROW4 := Lib.hid (ROW3.out.below hbn)
          have R5 := Lib.hid (R4.out.below hbn)
          have HBN := Lib.hid hbn
          have hw3 : w.heap.size ≤ w3.heap.size := K3.out.size
          have HW3 := Lib.hid hw3
          clear hbn ROW3 R4 hw3
          go_wp2_with (at_builtin; refine wpList_pushVG rfl (.tmp 13) (.tmp 19) 26 62 26 rfl i0 _ 32 Tryz.underlying26 hi0 hz0 hz1 hz2 rfl (by decide) _ w.heap.size A' c' L.length 1 (xcV L) [.int .i64 v, .slice A4 X.length c4] (.slice (some ⟨w3.heap.size, 0, none⟩) 1 1) rfl rfl rfl ROW4.out SRC.out (Nat.le_trans HW3.out HBN.out.size) (by omega) ?_; intro A5 c5 w5 hr5 hb5; have ROW5 := Lib.hid hr5; have B5 := Lib.hid hb5; clear hr5 hb5)
          go_roundg R'.length
          case rel =>
            have hsz4 : w3.heap.size < (w3.alloc (.cells #[.int .i64 v, .slice A4 X.length c4] 62)).heap.size := by simp
            refine ⟨L ++ [⟨(v : Int), A4, c4, X⟩], A5, c5, by rw [List.length_append]; rfl, Lib.hid ⟨R', A3, c3, Nat.le_refl _, by rw [List.length_append, List.length_singleton]; omega, ?_, ?_, fun x hx => ?_, ?_, (K3.out.trans (kp_fresh HW3.out HBN.out)).trans (kp_below (B5.out.below))⟩⟩
            · have hgl := R5.out.cs.lt
              exact ⟨R5.out.cs.keep B5.out.below.size (B5.out.below.block g HGW.out), R5.out.dg, R5.out.rb.keep fun k hk => B5.out.below.block k (by have := R5.out.dg; have := HGW.out; omega), R5.out.le⟩
            · have := ROW5.out
              rw [xcV_app, xcV_one, List.length_append, List.length_singleton]
              exact this
            · refine (RB3.out x hx).keep fun k hk => ⟨(B5.out.old k (Nat.lt_trans hk.2.1 hsz4) hk.2.2).trans (HBN.out.block k hk.2.1), hk.1, Nat.lt_of_lt_of_le (Nat.lt_trans hk.2.1 hsz4) B5.out.below.size, fun e => ?_⟩
              rcases B5.out.at_ with rfl | ⟨q, hq, rfl⟩
              · exact hk.2.2 e
              · cases e
                have := hk.2.1
                omega
            · rw [HY1.out, List.map_append, List.map_append]; rfl
          case measure => omega
end Go.Proofs.YtiakbmllpnabnaaGreatDoor
namespace Go.Proofs.YtiakbmllpnabnaaGreatDoor
open Go Go.RowKit

set_option maxRecDepth 100000 in
set_option maxHeartbeats 400000 in
theorem isName_prog (t : Int) (v : Value) (w : World) : Calls Tryz.prog 70 #[.agg #[.int .i64 t, v]] w (BoolP (t == 0) w) := by
  have HB := Lib.hid (below_new w (.cells #[.int .i64 t, v] 62))
  unfold BoolP
  go_enter Tryz.func70, Tryz.ntmps70
  go_wp2_with fail
  go_ret
  exact ⟨rfl, HB.out⟩
def ixV (l : List (Int × List UInt8)) : Int := if atX l < l.length then (atX l : Nat) else -1
theorem atX_first {l : List (Int × List UInt8)} {k : Nat} (hk : k < l.length) (h0 : l[k].1 = 0) (hall : ∀ j (hj : j < l.length), j < k → l[j].1 ≠ 0) : atX l = k := by
  unfold atX
  refine (List.findIdx_eq hk).2 ⟨decide_eq_true h0, fun j hj => ?_⟩
  exact decide_eq_false (hall j (by omega) hj)
theorem atX_nowhere {l : List (Int × List UInt8)} (hall : ∀ j (hj : j < l.length), l[j].1 ≠ 0) : ¬ atX l < l.length := fun h => hall _ h (atX_at h)
set_option maxRecDepth 100000 in
set_option maxHeartbeats 400000 in
theorem indexFunc_prog {D : Nat} {w : World} {A : Option Addr} {c n : Nat} {l : List (Int × List UInt8)} (h : ExtsIn D w A l) (hD : D ≤ w.heap.size) (hn : n = l.length) (hl : l.length ≤ 1000000) :
    Calls Tryz.prog 69 #[.slice A n c, .func (.func 70) #[] #[]] w fun e w' => e = .returned (.int .i64 (ixV l)) ∧ Below w.heap.size w w' := by
  subst hn
  have HN := Lib.hid h
  have HD := Lib.hid hD
  clear h
  go_enter Tryz.func69, Tryz.ntmps69
  go_wp2_with fail
  go_loopw [8] (fun i wr => ∃ k : Nat, k ≤ l.length ∧ i = .int .i64 k ∧ Hid (∀ j (hj : j < l.length), j < k → l[j].1 ≠ 0) ∧ Below w.heap.size w wr) (fun i _ => l.length - (intOf i).toNat)
  case atStart => exact ⟨0, Nat.zero_le _, rfl, Lib.hid fun j _ h => absurd h (Nat.not_lt_zero j), Below.refl _ _⟩
  case round =>
    obtain ⟨k, hk, rfl, hall, hb⟩ := hrel
    by_cases hlt : k < l.length
    · obtain ⟨b, off, Ad, cd, rfl, _, hc0, hc1, _⟩ := HN.out.keep (D' := wr.heap.size) (fun j hj => hb.block j (Nat.lt_of_lt_of_le hj HD.out)) (Nat.le_trans HD.out hb.size) k hlt
      have q0 : (0 : Int) ≤ k := by omega
      have q1 : (k : Int) < l.length := by omega
      have HB := Lib.hid hb
      have HF : Hid (l[k].1 = 0 → ixV l = k) := Lib.hid fun e => by
        have := atX_first hlt e hall.out
        unfold ixV
        rw [this, if_pos hlt]
      have HS : Hid (l[k].1 ≠ 0 → ∀ j (hj : j < l.length), j < k + 1 → l[j].1 ≠ 0) := Lib.hid fun e j hj hjk => by
        by_cases e2 : j = k
        · subst e2; exact e
        · exact hall.out j hj (by omega)
      clear hall hb
      generalize l[k].2.length = dl at *
      generalize l[k].1 = ty at *
      by_cases h0 : ty = 0
      · have HE := Lib.hid (HF.out h0)
        have CN := isName_prog ty (.slice Ad dl cd) wr
        unfold BoolP at CN
        rw [show (ty == 0) = true by rw [h0]; rfl] at CN
        have CN := Lib.hid CN
        clear HF HS h0
        go_wp2_with (go_at_call 70; refine CN.out.mono ?_; rintro e w1 ⟨rfl, hb1⟩; have B1 := Lib.hid (HB.out.trans (hb1.mono HB.out.size)); clear hb1)
        go_ret
        exact ⟨by rw [HE.out] <;> rfl, B1.out⟩
      · have HT := Lib.hid (HS.out h0)
        have CN := isName_prog ty (.slice Ad dl cd) wr
        unfold BoolP at CN
        rw [show (ty == 0) = false by rw [beq_eq_false_iff_ne]; exact h0] at CN
        have CN := Lib.hid CN
        clear HF HS h0
        go_wp2_with (go_at_call 70; refine CN.out.mono ?_; rintro e w1 ⟨rfl, hb1⟩; have B1 := Lib.hid (HB.out.trans (hb1.mono HB.out.size)); clear hb1)
        go_roundw
        case rel => exact ⟨k + 1, by omega, by go_num, HT, B1.out⟩
        case measure => simp [intOf]; omega
    · obtain rfl : l.length = k := by omega
      have HE : Hid (ixV l = -1) := Lib.hid (by unfold ixV; rw [if_neg (atX_nowhere fun j hj => hall.out j hj hj)])
      have HB := Lib.hid hb
      clear hall hb
      go_wp2_with fail
      go_ret
      exact ⟨by rw [HE.out] <;> rfl, HB.out⟩
end Go.Proofs.YtiakbmllpnabnaaGreatDoor
namespace Go.Proofs.YtiakbmllpnabnaaGreatDoor
open Go Go.RowKit

def delV (vs : List Value) (i : Nat) : List Value := vs.take (i * 2) ++ vs.drop ((i + 1) * 2)
theorem delV_len {vs : List Value} {n i : Nat} (hv : vs.length = n * 2) (hi : i < n) : (delV vs i).length = (n - 1) * 2 := by
  unfold delV
  rw [List.length_append, List.length_take, List.length_drop]
  omega
theorem delV_xc (L : List Xc) (i : Nat) (hi : i < L.length) : delV (xcV L) i = xcV (L.eraseIdx i) := by
  unfold delV
  rw [List.eraseIdx_eq_take_drop_succ, xcV_app, xcV_take L i (by omega), xcV_drop L (i + 1) (by omega)]
theorem step_append_runI {P : Program} {ops : Array Oper} {o : Oper} {a : Act} {w : World} {K : Act → World → Prop} {Q : Exit → Act → World → Prop} {E : Prop}
    (hg : o.guard = none) (d x : Operand) (dT sT : TypeId) (hop : o.op = Op.call { callee := Callee.builtin Builtin.append, args := #[d, x], argTypes := #[dT, sT] })
    (v u : Value) (hd : a.eval d = v) (hx : a.eval x = u) {v' : Value} {w' : World} (hr : (Builtin.append_ #[dT, sT] o.type #[v, u]).run P w = .ok v' w') (hK : K (a.put o.dst v') w') :
    if Region.wanted o (yielded ops a.tmps) = true then Oper.wp P o a w K Q else E := by
  have hw : Region.wanted o (yielded ops a.tmps) = true := by simp [Region.wanted, hg]
  rw [if_pos hw]
  unfold Oper.wp
  simp [execOp, hop, resolve, invoke, builtin, hd, hx, hr, Result.andThen]
  exact hK
theorem wpList_clear_runI {P : Program} (w : World) {ops : Array Oper} {rest : List Oper} {o : Oper} {a : Act} {Q : Exit → Act → World → Prop} (hgd : o.guard = none) (s : Operand) (t : TypeId)
    (ho : o.op = .call { callee := .builtin .clear, args := #[s], argTypes := #[t] }) (u : Value) (hs : a.eval s = u) {v' : Value} {w' : World}
    (hr : (Builtin.clear_ #[t] o.type #[u]).run P w = .ok v' w') (h : wpList P ops Q rest (a.put o.dst v') w') : wpList P ops Q (o :: rest) a w :=
  wpList_plain hgd fun K hK => by
    unfold Oper.wp execOp
    simp only [ho, resolve, invoke, builtin, Sem.run_bind, Sem.run_pure, Result.andThen_ok, List.map_toArray, List.map_cons, List.map_nil, hs, hr]
    exact hK _ _ h
theorem run_clear_one (w : World) (ty : TypeId) (b o c : Nat) (hc : ∀ j, j < 2 → (w.cell? ⟨b, o + j, none⟩).isSome = true) (hf : ∀ j, j < 2 → w.frozen? ⟨b, o + j, none⟩ = false) :
    (Builtin.clear_ #[26] ty #[.slice (some ⟨b, o, none⟩) 1 c]).run Tryz.prog w = .ok (.tuple #[]) (w.setCells b o [.int .i64 0, .slice none 0 0]) := by
  obtain ⟨i0, hi0, hz0, _, _⟩ := info_parts infoE
  have hv : ∀ w, (zeroValue 62).run Tryz.prog w = .ok (.agg #[.int .i64 0, .slice none 0 0]) w := fun w => by simp [zeroValue, typeInfo, hi0, hz0]
  have hst := run_storeCells_cells (P := Tryz.prog) b o [.int .i64 0, .slice none 0 0] 0 w (fun j hj => by rw [Nat.add_zero]; exact hc j hj) (fun j hj => by rw [Nat.add_zero]; exact hf j hj) (fun v hv => by
    simp only [List.mem_cons, List.not_mem_nil, or_false] at hv
    rcases hv with rfl | rfl <;> rfl)
  simp only [Nat.add_zero] at hst
  have hzc : (Builtin.zeroCells (Value.agg #[.int .i64 0, .slice none 0 0]).cells 1).toList = [.int .i64 0, .slice none 0 0] := by simp [Builtin.zeroCells, Value.cells, List.range_succ]
  simp [Builtin.clear_, run_underlying Tryz.underlying26, hv, hzc, hst]
/-- what a delete leaves -/
def DelP (base : Nat) (vs : List Value) (n i : Nat) (A : Option Addr) (c : Nat) (w : World) (e : Ending) (w' : World) : Prop :=
  e = .returned (.slice A (n - 1) c) ∧ RowV 2 w' base A (n - 1) c (delV vs i) ∧ Below base w w' ∧ ∀ k, k < w.heap.size → A ≠ some ⟨k, 0, none⟩ → w'.heap[k]? = w.heap[k]?
set_option maxRecDepth 100000 in
set_option maxHeartbeats 1000000 in
theorem delete_prog {base n c i : Nat} {A : Option Addr} {vs : List Value} {w : World} (hR : RowV 2 w base A n c vs) (hi : i < n) (hn : n ≤ 1000000) (h1c : ∀ v ∈ vs, v.oneCell' = true) :
    Calls Tryz.prog 72 #[.slice A n c, .int .i64 i, .int .i64 (i + 1)] w (DelP base vs n i A c w) := by
  obtain ⟨i0, hi0, hz0, hz1, hz2⟩ := info_parts infoE
  have hcm := hR.most
  have hle := hR.le
  have hvl := hR.len
  rcases hR.at_ with ⟨rfl, rfl⟩ | ⟨g, rfl, hbg, hgl, hcs, hcl⟩
  · omega
  have hc63 : c ≤ 9223372036854775807 := by unfold maxLen at hcm; omega
  have hcell : ∀ j, j < n * 2 → w.cell? ⟨g, j, none⟩ = vs[j]? := fun j hj => by rw [hcl j (by omega), List.getElem?_eq_getElem]
  have hdl : (vs.drop ((i + 1) * 2)).length = (n - (i + 1)) * 2 := by rw [List.length_drop, hvl]; omega
  have hin : ∀ j, j < (vs.drop ((i + 1) * 2)).length → i * 2 + j < c * 2 := fun j hj => by omega
  have happ : ∀ (ty : TypeId) (X : Addr) (cc : Nat), (n = i + 1 ∨ X = ⟨g, (i + 1) * 2, none⟩) → (Builtin.append_ #[26, 26] ty #[.slice (some ⟨g, 0, none⟩) i c, .slice (some X) (n - (i + 1)) cc]).run Tryz.prog w.drew = .ok (.slice (some ⟨g, 0, none⟩) (i + (n - (i + 1))) c) (w.drew.setCells g (i * 2) (vs.drop ((i + 1) * 2))) := fun ty X cc hX => by
    have hs : Src Tryz.prog i0.size 26 (.slice (some X) (n - (i + 1)) cc) (n - (i + 1)) (vs.drop ((i + 1) * 2)) w.drew := by
      rw [hz1]
      refine Src.ofSlice w.drew Tryz.underlying26 X (n - (i + 1)) cc _ hdl (fun j u hj => ?_) (fun v hv => h1c v (List.mem_of_mem_drop hv))
      have hlt := (List.getElem?_eq_some_iff.1 hj).1
      rcases hX with hX | rfl
      · omega
      · rw [add_pl]
        show w.cell? _ = _
        rw [hcell _ (by omega), ← List.getElem?_drop]; exact hj
    have := run_append_room_src (P := Tryz.prog) w.drew 26 26 ty 62 i0 Tryz.underlying26 hi0 g 0 i c (.slice (some X) (n - (i + 1)) cc) (n - (i + 1)) _ hs (by omega)
      (fun j hj => by rw [hz1, Nat.zero_add]; exact (hcs _ (hin j hj)).1) (fun j hj => by rw [hz1, Nat.zero_add]; exact (hcs _ (hin j hj)).2)
    rw [hz1, Nat.zero_add] at this
    exact this
  obtain ⟨W1, hW1⟩ : ∃ W1, W1 = w.drew.setCells g (i * 2) (vs.drop ((i + 1) * 2)) := ⟨_, rfl⟩
  have hs1 : ∀ k, k < c * 2 → (W1.cell? ⟨g, k, none⟩).isSome = true := fun k hk => by
    rw [hW1]
    exact World.isSome_setCells g _ _ _ _ (hcs k hk).1
  have hf1 : ∀ k, k < c * 2 → W1.frozen? ⟨g, k, none⟩ = false := fun k hk => by
    rw [hW1, World.frozen?_setCells]
    exact (hcs k hk).2
  have hclr : ∀ ty cc, (Builtin.clear_ #[26] ty #[.slice (some ⟨g, (n - 1) * 2, none⟩) 1 cc]).run Tryz.prog W1 = .ok (.tuple #[]) (W1.setCells g ((n - 1) * 2) [.int .i64 0, .slice none 0 0]) := fun ty cc =>
    run_clear_one W1 ty g ((n - 1) * 2) cc (fun j hj => hs1 _ (by omega)) (fun j hj => hf1 _ (by omega))
  have HE : Hid (RowV 2 (W1.setCells g ((n - 1) * 2) [.int .i64 0, .slice none 0 0]) base (some ⟨g, 0, none⟩) (n - 1) c (delV vs i) ∧ Below base w (W1.setCells g ((n - 1) * 2) [.int .i64 0, .slice none 0 0]) ∧ ∀ k, k < w.heap.size → (some (⟨g, 0, none⟩ : Addr)) ≠ some ⟨k, 0, none⟩ → (W1.setCells g ((n - 1) * 2) [.int .i64 0, .slice none 0 0]).heap[k]? = w.heap[k]?) := Lib.hid (by
    obtain ⟨q1, q2, q3, q4, q5⟩ := setCells_same g (vs.drop ((i + 1) * 2)) (i * 2) w.drew
    rw [← hW1] at q1 q2 q3 q4 q5
    obtain ⟨r1, r2, r3, r4, r5⟩ := setCells_same g [.int .i64 0, .slice none 0 0] ((n - 1) * 2) W1
    refine ⟨rowV_of (delV_len hvl hi) (by omega) hcm hbg (by rw [r4, q4]; exact hgl) (fun j hj => ⟨World.isSome_setCells g _ _ _ _ (hs1 j hj), by rw [World.frozen?_setCells]; exact hf1 j hj⟩) (fun j hj => ?_), ⟨r1.trans q1, r2.trans q2, r3.trans q3, by rw [r4, q4]; exact Nat.le_refl _, fun k hk => (r5 k (by omega)).trans (q5 k (by omega))⟩, fun k hk hne => (r5 k (fun e => hne (by rw [e]))).trans (q5 k (fun e => hne (by rw [e])))⟩
    rw [World.cell?_setCells_out _ _ _ _ _ (fun _ _ => .inl (by show j < (n - 1) * 2; omega)), hW1]
    have ht : (vs.take (i * 2)).length = i * 2 := by rw [List.length_take]; omega
    unfold delV
    by_cases h1 : j < i * 2
    · rw [World.cell?_setCells_out _ _ _ _ _ (fun _ _ => .inl h1), List.getElem?_append_left (by omega), List.getElem?_take, if_pos h1]
      exact hcell j (by omega)
    · have := World.cell?_setCells_in g (vs.drop ((i + 1) * 2)) (i * 2) w.drew (fun k hk => (hcs _ (hin k hk)).1) (j - i * 2) (by omega)
      rw [show i * 2 + (j - i * 2) = j by omega] at this
      rw [this, List.getElem?_append_right (by omega), ht, List.getElem?_eq_getElem (by omega)])
  have hin1 : (i : Int) + 1 ≤ n := by omega
  have hin2 : i + 1 ≤ n := by omega
  have hin3 : (i : Int) ≤ (i : Int) + 1 := by omega
  have hin4 : (i : Int) ≤ n := by omega
  have hin5 : (n : Int) ≤ c := by omega
  have hne : ¬ ((i : Int) = (i : Int) + 1) := by omega
  have hne2 : (((i : Nat) : Int) == ((i : Nat) : Int) + 1) = false := by rw [beq_eq_false_iff_ne]; exact hne
  have htn : ((i : Int) + 1).toNat = i + 1 := by omega
  have hb1 : (0 : Int) ≤ (i : Int) + 1 := by omega
  have hii : i + (n - (i + 1)) = n - 1 := by omega
  have hni : i ≤ c := by omega
  have hn1 : (1 : Nat) ≤ n := by omega
  have hnn : n - (n - 1) = 1 := by omega
  have hnc : ¬ (c = n - 1) := by omega
  have hn1c : ((n - 1 : Nat) : Int) ≤ n := by omega
  have hci : ¬ (c = i) := by omega
  rw [hii] at happ
  subst hW1
  unfold DelP
  clear hR hcs hcl hcell hs1 hf1 h1c hvl hdl hin hz0 hi0 hz1 hz2 hcm
  by_cases hcj : c = i + 1
  · obtain rfl : n = i + 1 := by omega
    subst hcj
    have happ2 := happ 26 ⟨g, 0, none⟩ 0 (.inl rfl)
    rw [Nat.sub_self] at happ2
    simp only [Nat.add_sub_cancel] at happ2 hclr HE
    simp only [Nat.add_sub_cancel]
    have HA2 := Lib.hid happ2
    clear happ happ2 hin1 hin2 hin4 hin5 hii hni hn1 hnn hnc hn1c hci hne
    have hci : ¬ (i + 1 = i) := by omega
    have hni : i ≤ i + 1 := by omega
    go_enter Tryz.func72, Tryz.ntmps72
    go_wp2_with fail
    go_region_law (refine step_append_runI rfl _ _ 26 26 rfl (.slice (some ⟨g, 0, none⟩) i (i + 1)) (.slice (some ⟨g, 0, none⟩) 0 0) (by simp [Act.eval, Act.put]) (by simp [Act.eval, Act.put]) HA2.out ?_)
    go_wp2_with (refine wpList_clear_runI _ rfl _ 26 rfl _ rfl (hclr _ _) ?_)
    go_ret
    exact ⟨rfl, HE.out⟩
  · go_enter Tryz.func72, Tryz.ntmps72
    go_wp2_with fail
    go_region_law (refine step_append_runI rfl _ _ 26 26 rfl (.slice (some ⟨g, 0, none⟩) i c) (.slice (some ⟨g, (i + 1) * 2, none⟩) (n - (i + 1)) (c - (i + 1))) (by simp [Act.eval, Act.put]) (by simp [Act.eval, Act.put]) (happ 26 ⟨g, (i + 1) * 2, none⟩ (c - (i + 1)) (.inr rfl)) ?_)
    go_wp2_with (refine wpList_clear_runI _ rfl _ 26 rfl _ rfl (hclr _ _) ?_)
    go_ret
    exact ⟨rfl, HE.out⟩
end Go.Proofs.YtiakbmllpnabnaaGreatDoor
