/- The program: Chunked. -/
import Derived.Test.YtnjoadhkkfbeeaaGreatDoorNzi
import Derived.Test.YtnjoadhkkfbeeaaGreatDoorNzc
import Derived.Test.YtnjoadhkkfbeeaaGreatDoorHl
namespace Go.Proofs.YtnjoadhkkfbeeaaGreatDoor
open Go Go.RowKit Go.Shelf
attribute [local go_sem] Oper.semAt_some

theorem RowG.cells {W : World} {base g c : Nat} {l : List UInt8} (h : RowG W base (some ⟨g, 0, none⟩) c l) (hc : 0 < c) : ∀ o, W.heap[g]? = some o → o.isCells = true := fun o ho => by
  rcases h.at_ with ⟨e, _⟩ | ⟨g', e, _, _, hq, _⟩
  · cases e
  · injection e with e
    injection e with e
    subst e
    have := (hq 0 hc).1
    unfold World.cell? at this
    rw [ho] at this
    cases o <;> first | rfl | simp at this
theorem wpListIn_pushGg {F : Fence} {fu : Nat} {ops : Array Oper} {rest : List Oper} {o : Oper} {a : Act} {Q : Exit → Act → World → Prop} (hgd : o.guard = none) (s x : Operand) (tx : TypeId)
    (ho : o.op = .call { callee := .builtin .append, args := #[s, x], argTypes := #[23, tx] }) (w : World) (base : Nat) (A : Option Addr) (c n m : Nat) (l z : List UInt8) (xv : Value) (hn : l.length = n) (hm : z.length = m)
    (hs : a.eval s = .slice A n c) (hx : a.eval x = xv) (h : RowG w base A c l) (hsrc : Src Tryz.prog 1 tx xv z.length (Lib.byteCells z) w) (hbase : base ≤ w.heap.size) (hlen : n + m ≤ 140737488355328)
    (hk : ∀ (A' : Option Addr) (c' : Nat) w', RowG w' base A' c' (l ++ z) → Grw w w' A A' → wpListIn F fu Tryz.prog ops Q rest (a.put o.dst (.slice A' (n + m) c')) w') :
    wpListIn F fu Tryz.prog ops Q (o :: rest) a w := by
  subst hn hm
  refine wpListIn_plain hgd fun K hK => ?_
  obtain ⟨A', c', w', hr, h2, h3, h4, h5⟩ := run_pushG w base o.type tx A c l z xv h hsrc hbase hlen
  unfold Oper.wpIn
  refine ⟨?_, ?_⟩
  · simp [Oper.about, ho, resolve, Target.leads, Sem.run_pure]
  · rw [Oper.semAt_plain F _ _ (by rw [ho]; intro c hc'; cases hc')]
    simp [execOp, ho, resolve, invoke, builtin, hs, hx, hr, Result.andThen]
    exact hK _ _ (hk A' c' w' h2 ⟨h3.os, h3.tape, h3.output, h3.size, h4, h5⟩)
/-- What a loop over chunks keeps: the blocks of the call's beginning, the boxes of the body and of the size. -/
def SK (g0 gb : Nat) (k : Nat) : Prop := k < g0 ∨ k = gb + 1 ∨ k = gb + 2
/-- The bytes that are being written: their box, their row. -/
structure CkS (g0 gb : Nat) (w W : World) (A : Option Addr) (c : Nat) (l : List UInt8) : Prop where
  box : Boxed W gb 23 (.slice A l.length c)
  row : RowG W g0 A c l
  ne : ∀ g, A = some ⟨g, 0, none⟩ → g ≠ gb ∧ g ≠ gb + 1 ∧ g ≠ gb + 2
  bel : Below g0 w W
  sz : gb + 3 ≤ W.heap.size
  pos : 0 < l.length
  gb : g0 ≤ gb
theorem CkS.next {g0 gb : Nat} {w W W' : World} {A A' : Option Addr} {c c' : Nat} {l l' : List UInt8} (h : CkS g0 gb w W A c l) (hg : Grw W W' A A') (hr : RowG W' g0 A' c' l') (hp : 0 < l'.length) :
    CkS g0 gb w (W'.setCell ⟨gb, 0, none⟩ (.slice A' l'.length c')) A' c' l' ∧ KeepsFrom (gb + 3) W (W'.setCell ⟨gb, 0, none⟩ (.slice A' l'.length c')) ∧ KeptOn (SK g0 gb) W (W'.setCell ⟨gb, 0, none⟩ (.slice A' l'.length c')) := by
  have hsz := h.sz
  have hgb := h.gb
  have hne' : ∀ g, A' = some ⟨g, 0, none⟩ → g ≠ gb ∧ g ≠ gb + 1 ∧ g ≠ gb + 2 := fun g e => by
    rcases hg.adr with e1 | ⟨q, hq, e1⟩
    · exact h.ne g (e1.symm.trans e)
    · rw [e1] at e
      injection e with e
      injection e with e
      omega
  have hbx : Boxed W' gb 23 (.slice A l.length c) := (hg.block gb (by omega) fun e => (h.ne gb e).1 rfl).trans h.box
  have hb' : Below g0 w W' := h.bel.trans (hg.below h.row (by have := h.bel.size; omega))
  have hss : (W'.setCell ⟨gb, 0, none⟩ (.slice A' l'.length c')).heap.size = W'.heap.size := by simp [World.setCell]
  have hcc : 0 < c := Nat.lt_of_lt_of_le h.pos h.row.le
  refine ⟨⟨hbx.set _, hr.keep (by rw [hss]; exact Nat.le_refl _) fun g e => Below.heap_setCell _ _ _ _ (hne' g e).1, hne', hb'.setCell (p := ⟨gb, 0, none⟩) hgb _, by rw [hss]; exact Nat.le_trans hsz hg.size, hp, hgb⟩, ⟨by rw [hss]; exact hg.size, fun k o hk ho hoc => ?_⟩, ⟨by rw [hss]; exact hg.size, fun k hk hkl => ?_⟩⟩
  · have hkl : k < W.heap.size := (Array.getElem?_eq_some_iff.1 ho).1
    refine (Below.heap_setCell _ _ _ _ (show k ≠ gb by omega)).trans ((hg.block k hkl fun e => ?_).trans ho)
    have hrow := h.row
    rw [e] at hrow
    rw [hrow.cells hcc o ho] at hoc
    cases hoc
  · refine (Below.heap_setCell _ _ _ _ (show k ≠ gb from ?_)).trans (hg.block k hkl fun e => ?_)
    · rcases hk with hk | hk | hk <;> omega
    · have h1 := h.ne k e
      have h2 := h.row.lt e
      rcases hk with hk | hk | hk <;> omega
theorem CkS.boxed {g0 gb : Nat} {w W W' : World} {A A' : Option Addr} {c : Nat} {l : List UInt8} (h : CkS g0 gb w W A c l) (hg : Grw W W' A A') : Boxed W' gb 23 (.slice A l.length c) :=
  (hg.block gb (by have := h.sz; omega) fun e => (h.ne gb e).1 rfl).trans h.box
theorem CkS.step {g0 gb : Nat} {w W W' : World} {A A' : Option Addr} {c c' n' : Nat} {l l' : List UInt8} (h : CkS g0 gb w W A c l) (hg : Grw W W' A A') (hr : RowG W' g0 A' c' l') (hp : 0 < l'.length) (hn : l'.length = n') :
    CkS g0 gb w (W'.setCell ⟨gb, 0, none⟩ (.slice A' n' c')) A' c' l' ∧ KeepsFrom (gb + 3) W (W'.setCell ⟨gb, 0, none⟩ (.slice A' n' c')) ∧ KeptOn (SK g0 gb) W (W'.setCell ⟨gb, 0, none⟩ (.slice A' n' c')) := by
  subst hn
  exact h.next hg hr hp
theorem ckS_from (g0 gb : Nat) (w : World) (hw : g0 ≤ w.heap.size) {β : Type} (f : β → List UInt8) : OwnFrom (gb + 3) (fun pre W => ∃ A c, CkS g0 gb w W A c (f pre)) := fun pre X Y row ⟨A, c, h⟩ hg hrow => by
  have hnr : ∀ r, row = some r → gb + 3 ≤ r := fun r e => (hrow r e).1
  have hcc : 0 < c := Nat.lt_of_lt_of_le h.pos h.row.le
  refine ⟨A, c, h.box.kept hg (fun e => by have := hnr gb e.symm; omega), h.row.keep hg.size fun g e => hg.block g (h.row.lt e).2 fun er => ?_, h.ne, ?_, Nat.le_trans h.sz hg.size, h.pos, h.gb⟩
  · obtain ⟨_, o, ho, hoc⟩ := hrow g er.symm
    have hr := h.row
    rw [e] at hr
    rw [hr.cells hcc o ho] at hoc
    cases hoc
  · exact ownFrom_below (β := Unit) hw (by have := h.gb; omega) () X Y row h.bel hg hrow
theorem row_put {g0 gb : Nat} {w W : World} {A : Option Addr} {c D : Nat} {l : List UInt8} {o : Obj} (h : CkS g0 gb w W A c l) (hD : W.heap[D]? = some o) (ho : o.isCells = false) (o' : Obj) : RowG (W.putObj D o') g0 A c l :=
  h.row.keep (by simp) fun g e => World.putObj_heap_other fun eq => by
    have hr := h.row
    rw [e] at hr
    have hcc : 0 < c := Nat.lt_of_lt_of_le h.pos h.row.le
    have := hr.cells hcc o (by rw [← hD]; congr 1)
    rw [ho] at this
    cases this
theorem chunk_open (m : Msg) (n : Nat) : chunkB m n = openB m nTE sChunked ++ (piecesL (m.body.length + 1) n m.body).flatMap pieceB := by
  rw [pieces_chunk]
  unfold chunkB openB teH
  simp
theorem open_pos (m : Msg) (N V : List UInt8) : 0 < (openB m N V).length := by unfold openB; simp only [List.length_append, List.length_cons]; omega
theorem piece_len (z : List UInt8) (h : z.length ≤ 2000) : (pieceB z).length ≤ 2010 := by
  unfold pieceB
  have := digs_len 16 z.length
  simp only [List.length_append, List.length_cons, List.length_nil]
  omega
theorem pieces_bytes {A : Option Addr} {body : List UInt8} : ∀ l : List (PcE A body), ((unC l).flatMap pieceB).length ≤ l.length * 2010
  | [] => by simp [unC]
  | x :: l => by
    have h1 := pieces_bytes l
    have h2 := piece_len x.1.2.2 x.2.few
    unfold unC at h1 ⊢
    rw [List.map_cons, List.flatMap_cons, List.length_append, List.length_cons]
    omega
theorem te_len : (nTE).length ≤ 1000 := by decide
theorem sch_len : (sChunked).length ≤ 1000 := by decide
set_option maxRecDepth 100000 in
set_option maxHeartbeats 2000000 in
theorem chunked_ok (m : Msg) (hV : Value) (Ab : Option Addr) (cb : Nat) (sz : Nat) (h1 : 1 ≤ sz) (h2 : sz ≤ 4095) (w : World) (h : MsgV w m hV Ab cb) (hG : Gl w) (hok : okM m = true) :
    Calls Tryz.prog 11 #[.agg #[.string ⟨m.meth.toArray⟩, .string ⟨m.path.toArray⟩, .int .i64 m.status, hV, .slice Ab m.body.length cb], .int .i64 sz] w fun e w' =>
      Below w.heap.size w w' ∧ (if (chunkB m sz).length ≤ 8192 then ∃ (A : Option Addr) (c : Nat), e = .returned (.tuple #[.slice A (chunkB m sz).length c, .int .i64 0]) ∧ RowG w' w.heap.size A c (chunkB m sz) else e = .returned (.tuple #[.slice none 0 0, .int .i64 5])) := by
  have hb := below_new w (.cells #[.string ⟨m.meth.toArray⟩, .string ⟨m.path.toArray⟩, .int .i64 m.status, hV, .slice Ab m.body.length cb] 25)
  have C1 := check_msg m hV Ab cb _ (h.hs.below hb) h.sm h.pl (hG.fresh hb)
  rw [hok, if_pos rfl] at C1
  have C1 := Lib.hid C1
  have CS := Lib.hid (box_cs w m.meth m.path m.status hV (.slice Ab m.body.length cb))
  have C2 := Lib.hid fun w' (hb : Below w.heap.size w w') => opening_any m hV Ab cb nTE sChunked w' (h.below hb) (hG.fresh hb) hok te_len sch_len
  have B1 := Lib.hid hb
  have HR := Lib.hid h.rb
  have HG := Lib.hid fun w' (h : Below w.heap.size w w') => hG.fresh h
  have HOL := Lib.hid (open_len hok te_len sch_len)
  have HOP := Lib.hid (open_pos m nTE sChunked)
  have HBL := Lib.hid (ok_body hok)
  have HCO := Lib.hid (chunk_open m sz)
  have i1 : ¬ ((sz : Int) < 1) := by omega
  have i2 : ¬ ((4095 : Int) < (sz : Int)) := by omega
  have j1 : decide ((sz : Int) < 1) = false := decide_eq_false i1
  have j2 : decide ((4095 : Int) < (sz : Int)) = false := decide_eq_false i2
  clear hb h hG hok
  generalize chunkB m sz = cbB at *
  unfold nTE sChunked at *
  generalize openB m _ _ = ob at *
  generalize m.meth = a at *
  generalize m.path = p at *
  generalize m.status = st at *
  generalize m.body = bd at *
  refine (callsIn_wide (n := 9)).1 (callsIn_of_wp_marks Tryz.func11 rfl trivial ?_ rfl)
  simp only [Tryz.ntmps11, List.size_toArray, List.length_cons, List.length_nil, Nat.reduceAdd, Nat.reduceSub, Array.replicate_succ, Array.replicate_zero, List.push_toArray, List.append_toArray, List.nil_append, List.cons_append]
  gi_wp2
  generalize w.alloc (.cells #[.string ⟨a.toArray⟩, .string ⟨p.toArray⟩, .int .i64 st, hV, .slice Ab bd.length cb] 25) = w1 at *
  refine ⟨trivial, (callsIn_wide.2 C1.out).mono ?_⟩
  rintro e w2 ⟨rfl, hb2⟩
  have B2 := Lib.hid (Below.trans B1.out (hb2.mono B1.out.size))
  have CS2 := Lib.hid (CS.out.below hb2)
  have d0 := CS2.out.c 0 (by simp)
  have d1 := CS2.out.c 1 (by simp)
  have d2 := CS2.out.c 2 (by simp)
  have d3 := CS2.out.c 3 (by simp)
  have d4 := CS2.out.c 4 (by simp)
  clear hb2 C1 CS B1
  gi_wp2
  refine ⟨trivial, (callsIn_wide.2 (C2.out _ B2.out)).mono ?_⟩
  rintro e w3 ⟨A3, c3, rfl, hr3, hb3⟩
  have CS3 := Lib.hid (CS2.out.below hb3)
  have d4' := (CS3.out.below (below_new w3 (.cells #[.slice A3 ob.length c3] 23))).c 4 (by simp)
  have B3 := Lib.hid (Below.and B2.out hb3)
  have R3 := Lib.hid (hr3.up B2.out.size)
  have N3 : Hid (∀ q, A3 = some ⟨q, 0, none⟩ → q < w3.heap.size) := fun q e => (hr3.lt e).2
  clear d0 d1 d2 d3 d4 hr3 hb3 CS2 B2 C2
  gi_wp2
  refine ⟨trivial, (callsIn_wide.2 (chunks_any _ _ _ _ _)).mono ?_⟩
  rintro e w4 ⟨rfl, rfl⟩
  gi_wp2
  have hs5 : (((w3.alloc (.cells #[.slice A3 ob.length c3] 23)).alloc (.cells #[.slice Ab bd.length cb] 23)).alloc (.cells #[.int .i64 sz] 3)).heap.size = w3.heap.size + 3 := by simp
  have hb5 := Below.and (Below.and (below_new w3 (.cells #[.slice A3 ob.length c3] 23)) (below_new _ (.cells #[.slice Ab bd.length cb] 23))) (below_new _ (.cells #[.int .i64 sz] 3))
  have hck : CkS w.heap.size w3.heap.size w (((w3.alloc (.cells #[.slice A3 ob.length c3] 23)).alloc (.cells #[.slice Ab bd.length cb] 23)).alloc (.cells #[.int .i64 sz] 3)) A3 c3 ob :=
    ⟨((Boxed.new w3 _ _).alloc _).alloc _, R3.out.below hb5, fun q e => by have := N3.out q e; omega, B3.out.trans (hb5.mono B3.out.size), by rw [hs5]; exact Nat.le_refl _, HOP.out, B3.out.size⟩
  have e1 : (w3.alloc (.cells #[.slice A3 ob.length c3] 23)).heap.size = w3.heap.size + 1 := by simp
  have e2 : ((w3.alloc (.cells #[.slice A3 ob.length c3] 23)).alloc (.cells #[.slice Ab bd.length cb] 23)).heap.size = w3.heap.size + 1 + 1 := by simp
  have hst : ChSt (SK w.heap.size w3.heap.size) (w3.heap.size + 1) (w3.heap.size + 1 + 1) Ab cb bd sz (((w3.alloc (.cells #[.slice A3 ob.length c3] 23)).alloc (.cells #[.slice Ab bd.length cb] 23)).alloc (.cells #[.int .i64 sz] 3)) := by
    refine ⟨fun k hk => ?_, .inr (.inl rfl), .inr (.inr rfl), ?_, ?_⟩
    · rw [hs5]; have := B3.out.size; rcases hk with hk | hk | hk <;> omega
    · refine ((below_new _ _).cell (p := ⟨w3.heap.size + 1, 0, none⟩) (by show w3.heap.size + 1 < _; rw [e2]; omega)).trans ?_
      rw [World.cell?_alloc_at _ _ _ _ e1.symm]
      rfl
    · rw [World.cell?_alloc_at _ _ _ _ e2.symm]
      rfl
  have hkk : ∀ k, SK w.heap.size w3.heap.size k → k < w3.heap.size + 3 := fun k hk => by have := B3.out.size; rcases hk with hk | hk | hk <;> omega
  clear d4' e1 e2 hb5 N3 R3 CS3
  generalize ((w3.alloc (.cells #[.slice A3 ob.length c3] 23)).alloc (.cells #[.slice Ab bd.length cb] 23)).alloc (.cells #[.int .i64 sz] 3) = w5 at *
  generalize hgb : w3.heap.size = gb at *
  have hN : (piecesL (bd.length + 1) sz bd).length ≤ 2001 := by have := pieces_len (bd.length + 1) sz bd; have := HBL.out; omega
  have hOK : OkC Ab bd (Ab, cb, bd) := OkC.whole HR.out HBL.out
  refine wpIn_rangeFunc_ownH (α := PcE Ab bd) rfl (by omega) (gf := 62) (lb := #[.pointer (some ⟨gb + 1, 0, none⟩), .pointer (some ⟨gb + 1 + 1, 0, none⟩)]) rfl trivial eg_chunks
    (chunks_stops 8 (by omega) (gb + 1) (gb + 1 + 1) (SK w.heap.size gb) Ab cb bd sz h1 h2 (bd.length + 1) (Nat.lt_succ_self _) hOK w5 hst) KeptOn.trans (keptOn_put fun k hk => by rw [hs5]; exact hkk k hk) (Below.refl _ _) (fun _ => rfl)
    (fun pre W => ∃ A c, CkS w.heap.size gb w W A c (ob ++ (unC pre).flatMap pieceB))
    (fun _ _ _ => False)
    (by rw [hs5]; exact ckS_from w.heap.size gb w (Nat.le_refl _) _)
    (fun _ _ _ _ _ hs _ _ => hs)
    ⟨A3, c3, by rw [show (unC ([] : List (PcE Ab bd))).flatMap pieceB = [] from rfl, List.append_nil]; exact hck⟩
    (fun x a' W => a' = { tmps := #[.agg #[.string ⟨a.toArray⟩, .string ⟨p.toArray⟩, .int .i64 st, hV, .slice Ab bd.length cb], .int .i64 sz, .pointer (some ⟨w.heap.size, 0, none⟩), undef, .slice none 0 0, .int .i64 0, .pointer (some ⟨gb, 0, none⟩), .slice x.1.1 x.1.2.2.length x.1.2.1,
      .agg #[.string ⟨a.toArray⟩, .string ⟨p.toArray⟩, .int .i64 st, hV, .slice Ab bd.length cb], .int .i64 0, .bool false, .bool false, .int .i64 sz, .bool false, .bool false, .bool false, .int .i64 sz, .bool false, .bool false, .agg #[.string ⟨a.toArray⟩, .string ⟨p.toArray⟩, .int .i64 st, hV, .slice Ab bd.length cb],
      .slice A3 ob.length c3, .pointer (some ⟨w.heap.size, 4, none⟩), .slice Ab bd.length cb, .int .i64 sz, .func (.func 62) #[] #[.pointer (some ⟨gb + 1, 0, none⟩), .pointer (some ⟨gb + 1 + 1, 0, none⟩)], .slice x.1.1 x.1.2.2.length x.1.2.1,
      undef, undef, undef, undef, undef, undef, undef, undef, undef, undef, undef, undef, undef, undef, undef], defers := [] })
    (fun x a' _ X Y row e _ _ => e) ?assign ?body ?done ?stop
  case assign =>
    rintro l pre x W K hI hK
    unfold encC
    gi_wp2_with fail
    exact hK _ _ ⟨Nat.le_refl _, fun _ _ _ h _ => h⟩ (KeptOn.refl _ _) hI rfl
  case body =>
    rintro l pre ⟨⟨Ax, cx, z⟩, hx⟩ a' W _ _ ⟨A, c, hS⟩ rfl hlt
    dsimp only
    have hzl : z.length ≤ 2000 := hx.few
    have HX : Hid (OkC Ab bd (Ax, cx, z)) := hx
    have HL0 : Hid ((ob ++ (unC pre).flatMap pieceB).length ≤ 6000000) := by
      have := pieces_bytes pre
      have := HOL.out
      show _ ≤ _
      rw [List.length_append]
      omega
    have HE : Hid (ob ++ (unC (pre ++ [⟨(Ax, cx, z), hx⟩])).flatMap pieceB = (ob ++ (unC pre).flatMap pieceB) ++ digs 16 z.length ++ [13, 10] ++ z ++ [13, 10]) := by
      show _ = _
      rw [unC_snoc, List.flatMap_append, List.flatMap_singleton]
      unfold pieceB
      simp
    have HD : Hid ((digs 16 z.length).length ≤ 4) := (digs_len 16 z.length).2
    generalize ob ++ (unC pre).flatMap pieceB = l0 at *
    have S0 := Lib.hid hS
    have c0 := hS.box.cell
    have CA := Lib.hid (appendInt_any w.heap.size A c l0 z.length W hS.row (by omega) (Nat.le_trans HL0.out (by decide)) hS.bel.size (HG.out W hS.bel))
    clear hS
    gi_wp2
    refine ⟨trivial, (CallsIn.inRound l (callsIn_wide.2 CA.out)).mono ?_⟩
    rintro e W1 ⟨A1, c1, rfl, hr1, hg1⟩
    have HP1 : 0 < (l0 ++ digs 16 z.length).length := by rw [List.length_append]; have := S0.out.pos; omega
    have HL1 : Hid ((l0 ++ digs 16 z.length).length ≤ 6000004) := by show _ ≤ _; rw [List.length_append]; have := HL0.out; have := HD.out; omega
    have m1 := (S0.out.boxed hg1).cell
    have f1 := (S0.out.boxed hg1).frozen
    have T1 := Lib.hid (S0.out.step hg1 hr1 HP1 rfl)
    have S1 := Lib.hid T1.out.1
    clear hr1 hg1 c0 CA HP1
    generalize l0 ++ digs 16 z.length = l1 at *
    gi_wp2_with (first
      | (gi_at_builtin; refine wpListIn_pushGg rfl (.tmp 30) (.const (.string ⟨#[13, 10]⟩)) 9 rfl (W1.setCell ⟨gb, 0, none⟩ (.slice A1 l1.length c1)) w.heap.size A1 c1 l1.length 2 l1 [13, 10] (.string ⟨[13, 10].toArray⟩) rfl rfl rfl rfl S1.out.row (src_str _ [13, 10]) S1.out.bel.size (by have := HL1.out; omega) ?_; intro A2 c2 W2 hr2 hg2; have m2 := (S1.out.boxed hg2).cell; have f2 := (S1.out.boxed hg2).frozen; have T2 := Lib.hid (S1.out.step (n' := l1.length + 2) hg2 hr2 (by simp <;> omega) (by simp)); have S2 := Lib.hid T2.out.1; clear hr2 hg2)
      | (gi_at_builtin; refine wpListIn_pushGg rfl (.tmp 32) (.tmp 33) 23 rfl (W2.setCell ⟨gb, 0, none⟩ (.slice A2 (l1.length + 2) c2)) w.heap.size A2 c2 (l1.length + 2) z.length (l1 ++ [13, 10]) z (.slice Ax z.length cx) (by simp) rfl rfl rfl S2.out.row (src_rb (HX.out.rb (HR.out.keep fun k hk => S2.out.bel.block k hk))) S2.out.bel.size (by have := HL1.out; omega) ?_; intro A3 c3 W3 hr3 hg3; have m3 := (S2.out.boxed hg3).cell; have f3 := (S2.out.boxed hg3).frozen; have T3 := Lib.hid (S2.out.step (n' := l1.length + 2 + z.length) hg3 hr3 (by simp <;> omega) (by simp; omega)); have S3 := Lib.hid T3.out.1; clear hr3 hg3)
      | (gi_at_builtin; refine wpListIn_pushGg rfl (.tmp 35) (.const (.string ⟨#[13, 10]⟩)) 9 rfl (W3.setCell ⟨gb, 0, none⟩ (.slice A3 (l1.length + 2 + z.length) c3)) w.heap.size A3 c3 (l1.length + 2 + z.length) 2 (l1 ++ [13, 10] ++ z) [13, 10] (.string ⟨[13, 10].toArray⟩) (by simp; omega) rfl rfl rfl S3.out.row (src_str _ [13, 10]) S3.out.bel.size (by have := HL1.out; omega) ?_; intro A4 c4 W4 hr4 hg4; have m4 := (S3.out.boxed hg4).cell; have f4 := (S3.out.boxed hg4).frozen; have T4 := Lib.hid (S3.out.step (n' := l1.length + 2 + z.length + 2) hg4 hr4 (by simp <;> omega) (by simp; omega)); have S4 := Lib.hid T4.out.1; clear hr4 hg4))
    refine ⟨by rw [hs5]; exact ((T1.out.2.1.trans T2.out.2.1).trans T3.out.2.1).trans T4.out.2.1, ((T1.out.2.2.trans T2.out.2.2).trans T3.out.2.2).trans T4.out.2.2, A4, c4, ?_⟩
    rw [HE.out]
    exact S4.out
  case done =>
    rintro D ys W hD hys ⟨A, c, hS⟩ hK
    rw [hys, ← HCO.out] at hS
    have HS := Lib.hid hS
    have hc := hS.box.cell
    have hf := hS.box.frozen
    rw [hs5] at hD
    have HDD := Lib.hid hD
    clear hS hys
    by_cases hle : cbB.length ≤ 8192
    · have hle' : ¬ ((8192 : Int) < (cbB.length : Int)) := by omega
      gi_wp2
      refine ⟨by simp, .inl ⟨_, _, rfl, run_takeDeferred hK, ?_⟩⟩
      exact ⟨_, results_tmp2 rfl _ _ _, HS.out.bel.trans (belowK_b (w := w) (Nat.le_refl _) W D _ _ (by have := HS.out.gb; have := HDD.out; omega) hK rfl rfl), A, c, rfl, row_put HS.out hK rfl _⟩
    · have hle' : (8192 : Int) < (cbB.length : Int) := by omega
      gi_wp2
      refine ⟨by simp, .inl ⟨_, _, rfl, run_takeDeferred hK, ?_⟩⟩
      exact ⟨_, results_tmp2 rfl _ _ _, HS.out.bel.trans (belowK_b (w := w) (Nat.le_refl _) W D _ _ (by have := HS.out.gb; have := HDD.out; omega) hK rfl rfl), rfl⟩
  case stop =>
    rintro D c pre W _ _ h _
    exact h.elim
end Go.Proofs.YtnjoadhkkfbeeaaGreatDoor
