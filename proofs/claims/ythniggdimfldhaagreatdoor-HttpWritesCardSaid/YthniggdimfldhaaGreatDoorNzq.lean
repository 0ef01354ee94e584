/- What the laws make messages of: CopyBytes, seeds in memory, a message that is being made. -/
import Derived.Test.YthniggdimfldhaaGreatDoorNze
import Derived.Test.YthniggdimfldhaaGreatDoorNzb
namespace Go.Proofs.YthniggdimfldhaaGreatDoor
open Go Go.RowKit

set_option maxRecDepth 100000 in
theorem copyB_any {w : World} {A : Option Addr} {c n : Nat} {z : List UInt8} (h : Rb w.heap.size w A c z) (hn : n = z.length) (hz : z.length ≤ 140737488355328) :
    Calls Tryz.prog 18 #[.slice A n c] w (MadeP z w) := by
  subst hn
  have HZ := Lib.hid hz
  have S := Lib.hid (src_rb h)
  clear h hz
  go_enter Tryz.func18, Tryz.ntmps18
  go_wp2_with (at_builtin; refine wpList_pushG rfl (.tmp 4) (.tmp 5) 23 rfl w w.heap.size none 0 0 z.length [] z (.slice A z.length c) rfl rfl rfl rfl (RowG.nil _ _) S.out (Nat.le_refl _) (by have := HZ.out; omega) ?_; intro A1 c1 w1 hr1 hb1 _; have R1 := Lib.hid hr1; have B1 := Lib.hid hb1; clear hr1 hb1)
  go_ret
  exact ⟨A1, c1, rfl, R1.out, B1.out⟩

/-- A seed that stands in memory. -/
structure SeedV (w : World) (x : SeedL) (Av : Option Addr) (cv : Nat) (Ab : Option Addr) (cb : Nat) : Prop where
  vs : Rd w Av (x.vals.map strV)
  vl : ∀ v ∈ x.vals, v.length ≤ maxLen
  vn : x.vals.length ≤ maxLen
  vc : x.vals.length ≤ cv
  rb : Rb w.heap.size w Ab cb x.body
  bl : x.body.length ≤ maxLen
  pl : x.path.length ≤ maxLen
  hl : x.host.length ≤ maxLen
abbrev seedA (x : SeedL) (Av : Option Addr) (cv : Nat) (Ab : Option Addr) (cb : Nat) : Array Value := #[.int .i64 x.meth, .int .i64 x.status, .string ⟨x.path.toArray⟩, .string ⟨x.host.toArray⟩, .slice Av x.vals.length cv, .slice Ab x.body.length cb]
theorem SeedV.below {w w' : World} {x : SeedL} {Av : Option Addr} {cv : Nat} {Ab : Option Addr} {cb : Nat} (h : SeedV w x Av cv Ab cb) (hb : Below w.heap.size w w') : SeedV w' x Av cv Ab cb :=
  ⟨h.vs.below hb, h.vl, h.vn, h.vc, (h.rb.keep fun k hk => hb.block k hk).mono hb.size, h.bl, h.pl, h.hl⟩
/-- what 'made' hands back -/
def MadeMsg (x : SeedL) (w : World) (e : Ending) (w' : World) : Prop := ∃ (Ah : Option Addr) (ch : Nat) (Ab : Option Addr) (cb : Nat),
  e = .returned (.agg #[.string ⟨(madeM x).meth.toArray⟩, .string ⟨(madeM x).path.toArray⟩, .int .i64 (madeM x).status, .slice Ah (madeM x).heads.length ch, .slice Ab (madeM x).body.length cb]) ∧
    MsgV w' (madeM x) (.slice Ah (madeM x).heads.length ch) Ab cb ∧ Below w.heap.size w w'
abbrev methC : Array Value := #[.string ⟨#[71, 69, 84]⟩, .string ⟨#[80, 85, 84]⟩, .string ⟨#[80, 79, 83, 84]⟩, .string ⟨#[68, 69, 76, 69, 84, 69]⟩, .string ⟨#[72, 69, 65, 68]⟩, .string ⟨#[]⟩]
theorem methC_at (k : Nat) (hk : k < 6) : methC[k]? = some (.string ⟨(methAt k).toArray⟩) := by
  match k, hk with
  | 0, _ => rfl
  | 1, _ => rfl
  | 2, _ => rfl
  | 3, _ => rfl
  | 4, _ => rfl
  | 5, _ => rfl
theorem alloc_hid {a W : World} (h : Hid (Below a.heap.size a W)) (o : Obj) : Below a.heap.size a (W.alloc o) := h.out.alloc h.out.size o
/-- A message that is being made: its cells; the body, in another block. -/
structure MdSt (w2 wx : World) (gm : Nat) (a : List UInt8) (Ab : Option Addr) (cb : Nat) (bd : List UInt8) : Prop where
  cs : Cs wx gm [.string ⟨a.toArray⟩, .string ⟨#[]⟩, .int .i64 0, .slice none 0 0, .slice Ab bd.length cb]
  ge : w2.heap.size ≤ gm
  rb : RowG wx w2.heap.size Ab cb bd
  ne : ∀ g, Ab = some ⟨g, 0, none⟩ → g ≠ gm
  bel : Below w2.heap.size w2 wx
theorem mdst_after {w2 w4 : World} {A : Option Addr} {c : Nat} {bd : List UInt8} (hb : Hid (Below w2.heap.size w2 w4)) (hr : Hid (RowG w4 w2.heap.size A c bd)) (a : List UInt8) :
    MdSt w2 (w4.alloc (.cells #[.string ⟨a.toArray⟩, .string ⟨#[]⟩, .int .i64 0, .slice none 0 0, .slice A bd.length c] 25)) w4.heap.size a A c bd :=
  ⟨Cs.new w4 _ _, hb.out.size, hr.out.below (below_new _ _), fun _ e => Nat.ne_of_lt (hr.out.lt e).2, hb.out.alloc hb.out.size _⟩
theorem mdst_before {w2 wa w4 : World} {A : Option Addr} {c : Nat} {bd : List UInt8} (hb : Hid (Below w2.heap.size w2 wa)) (h4 : Hid (Below (wa.alloc (.cells zero5 25)).heap.size (wa.alloc (.cells zero5 25)) w4)) (hr : Hid (RowG w4 (wa.alloc (.cells zero5 25)).heap.size A c bd)) (a : List UInt8) :
    MdSt w2 (((((w4.setCell ⟨wa.heap.size, 0, none⟩ (.string ⟨a.toArray⟩)).setCell ⟨wa.heap.size, 1, none⟩ (.string ⟨#[]⟩)).setCell ⟨wa.heap.size, 2, none⟩ (.int .i64 0)).setCell ⟨wa.heap.size, 3, none⟩ (.slice none 0 0)).setCell ⟨wa.heap.size, 4, none⟩ (.slice A bd.length c)) wa.heap.size a A c bd := by
  have hs : (wa.alloc (.cells zero5 25)).heap.size = wa.heap.size + 1 := by simp
  have hc : Cs w4 wa.heap.size [.string ⟨#[]⟩, .string ⟨#[]⟩, .int .i64 0, .slice none 0 0, .slice none 0 0] := (Cs.new wa [.string ⟨#[]⟩, .string ⟨#[]⟩, .int .i64 0, .slice none 0 0, .slice none 0 0] 25).below h4.out
  have hb4 : Below w2.heap.size w2 w4 := (hb.out.alloc hb.out.size _).trans (h4.out.mono (by rw [hs]; have := hb.out.size; omega))
  have hr := hr.out
  rw [hs] at hr
  refine ⟨msg_set hc _ _ _ _ _, hb.out.size, ?_, fun g e => ?_, msg_set_below hb4 hb.out.size _ _ _ _ _⟩
  · refine (hr.up (base' := w2.heap.size) (by have := hb.out.size; omega)).keep (by simp [World.setCell]) fun g e => ?_
    have hne : g ≠ wa.heap.size := by have := (hr.lt e).1; omega
    exact (((((Below.heap_setCell _ _ _ _ hne).trans (Below.heap_setCell _ _ _ _ hne)).trans (Below.heap_setCell _ _ _ _ hne)).trans (Below.heap_setCell _ _ _ _ hne)).trans (Below.heap_setCell _ _ _ _ hne))
  · have := (hr.lt e).1
    omega
/-- The same, further on: its headers' row lies behind block 'B'. -/
structure MkSt (w2 wx : World) (gm B : Nat) (a p : List UInt8) (n : Int) (v : Value) (Ab : Option Addr) (cb : Nat) (bd : List UInt8) (l : List Hd) : Prop where
  cs : Cs wx gm [.string ⟨a.toArray⟩, .string ⟨p.toArray⟩, .int .i64 n, v, .slice Ab bd.length cb]
  ge : w2.heap.size ≤ gm
  lt : gm < B
  rb : RowG wx w2.heap.size Ab cb bd
  ne : ∀ g, Ab = some ⟨g, 0, none⟩ → g ≠ gm ∧ g < B
  own : OwnH wx B v l
  bel : Below w2.heap.size w2 wx
  sz : B ≤ wx.heap.size
theorem MdSt.go {w2 wx : World} {gm : Nat} {a : List UInt8} {Ab : Option Addr} {cb : Nat} {bd : List UInt8} (h : MdSt w2 wx gm a Ab cb bd) : MkSt w2 wx gm wx.heap.size a [] 0 (.slice none 0 0) Ab cb bd [] :=
  ⟨h.cs, h.ge, h.cs.lt, h.rb, fun g e => ⟨h.ne g e, (h.rb.lt e).2⟩, OwnH.nil _ _, h.bel, Nat.le_refl _⟩
theorem MkSt.fresh {w2 wx wy : World} {gm B : Nat} {a p : List UInt8} {n : Int} {v : Value} {Ab : Option Addr} {cb : Nat} {bd : List UInt8} {l : List Hd} (h : MkSt w2 wx gm B a p n v Ab cb bd l) (hb : Below wx.heap.size wx wy) : MkSt w2 wy gm B a p n v Ab cb bd l :=
  ⟨h.cs.below hb, h.ge, h.lt, h.rb.below hb, h.ne, h.own.below hb, h.bel.trans (hb.mono (h.bel.size)), Nat.le_trans h.sz hb.size⟩
theorem MkSt.set {w2 wx : World} {gm B : Nat} {a p : List UInt8} {n : Int} {v : Value} {Ab : Option Addr} {cb : Nat} {bd : List UInt8} {l : List Hd} (h : MkSt w2 wx gm B a p n v Ab cb bd l) (j : Nat) (u : Value) {a' p' : List UInt8} {n' : Int}
    (hj : j < 5) (e : [Value.string ⟨a.toArray⟩, .string ⟨p.toArray⟩, .int .i64 n, v, .slice Ab bd.length cb].set j u = [.string ⟨a'.toArray⟩, .string ⟨p'.toArray⟩, .int .i64 n', v, .slice Ab bd.length cb]) : MkSt w2 (wx.setCell ⟨gm, j, none⟩ u) gm B a' p' n' v Ab cb bd l := by
  have hcs := h.cs.set j (by simpa using hj) u
  rw [e] at hcs
  exact ⟨hcs, h.ge, h.lt, h.rb.keep (by simp [World.setCell]) fun g eg => Below.heap_setCell _ _ _ _ (h.ne g eg).1, h.ne, OwnH.kept h.own h.lt (kp_set _ _ _), h.bel.setCell (p := ⟨gm, j, none⟩) h.ge u, by simpa [World.setCell] using h.sz⟩
theorem MkSt.push {w2 wx wy : World} {gm B : Nat} {a p : List UInt8} {n : Int} {v v' : Value} {Ab : Option Addr} {cb : Nat} {bd : List UInt8} {l l' : List Hd} (h : MkSt w2 wx gm B a p n v Ab cb bd l) (hb : Below B wx wy) (ho : OwnH wy B v' l') :
    MkSt w2 (wy.setCell ⟨gm, 3, none⟩ v') gm B a p n v' Ab cb bd l' := by
  have h1 : Cs wy gm [.string ⟨a.toArray⟩, .string ⟨p.toArray⟩, .int .i64 n, v, .slice Ab bd.length cb] := h.cs.keep hb.size (hb.block _ h.lt)
  have h2 : RowG wy w2.heap.size Ab cb bd := h.rb.keep hb.size fun g e => hb.block g (h.ne g e).2
  have h3 : Below w2.heap.size w2 wy := h.bel.trans (hb.mono (Nat.le_trans h.ge (Nat.le_of_lt h.lt)))
  exact ⟨h1.set 3 (by simp) v', h.ge, h.lt, h2.keep (by simp [World.setCell]) fun g e => Below.heap_setCell _ _ _ _ (h.ne g e).1, h.ne, OwnH.kept ho h.lt (kp_set _ _ _), h3.setCell (p := ⟨gm, 3, none⟩) h.ge v', by simpa [World.setCell] using Nat.le_trans h.sz hb.size⟩
/-- the headers that a message begins with -/
def preL (x : SeedL) : List Hd := if x.meth % 6 = 5 then [] else [hoH x.host]
theorem methAt_ne {k : Nat} (h : k < 6) (h5 : ¬ k = 5) : (methAt k).isEmpty = false := by
  match k, h, h5 with
  | 0, _, _ => rfl
  | 1, _, _ => rfl
  | 2, _, _ => rfl
  | 3, _, _ => rfl
  | 4, _, _ => rfl
  | 5, _, h => exact absurd rfl h
/-- 'append(l, Head{..})' of a region that draws, whatever the world -/
theorem step_pushW {ops : Array Oper} {o : Oper} {a : Act} {K : Act → World → Prop} {Q : Exit → Act → World → Prop} {E : Prop} (hgd : o.guard = none) (s x : Operand)
    (ho : o.op = .call { callee := .builtin .append, args := #[s, x], argTypes := #[22, 22] }) (w : World) (base : Nat) (v : Value) (l : List Hd) (z y : List UInt8) (b : Nat)
    (hs : a.eval s = v) (hown : OwnH w base v l) (hx : a.eval x = .slice (some ⟨b, 0, none⟩) 1 1) (h0 : w.cell? ⟨b, 0, none⟩ = some (strV z)) (h1 : w.cell? ⟨b, 1, none⟩ = some (strV y)) (hbase : base ≤ w.heap.size) (hlen : l.length ≤ 1000000000)
    (h : ∀ (A : Option Addr) (c : Nat) w', OwnH w' base (.slice A (l.length + 1) c) (l ++ [(z, y)]) → Below base w w' → K (a.put o.dst (.slice A (l.length + 1) c)) w') :
    if Region.wanted o (yielded ops a.tmps) = true then Oper.wp Tryz.prog o a w K Q else E := by
  obtain ⟨i0, hi, hz0, hz1, hz2⟩ := info_parts infoH
  refine step_append_lies _ hgd s x 22 ho base 41 i0 (.agg #[.string ⟨#[]⟩, .string ⟨#[]⟩]) 2 32 Tryz.underlying22 hi hz0 hz1 hz2 rfl (by decide) v l.length (hv l) hs hown
    ⟨b, 0, none⟩ 1 1 [strV z, strV y] hx rfl ?_ ?_ (by decide) (by unfold maxLen; omega) (by omega) hbase _ rfl ?_
  · intro j u hj
    match j, hj with
    | 0, hj => simp at hj; subst hj; simpa [Addr.add] using h0
    | 1, hj => simp at hj; subst hj; simpa [Addr.add] using h1
    | j + 2, hj => simp at hj
  · intro u hu
    simp at hu
    rcases hu with rfl | rfl <;> rfl
  · intro g cap w' ho' hg _ _
    have ho2 : OwnH w' base (.slice (some ⟨g, 0, none⟩) (l.length + 1) cap) (l ++ [(z, y)]) := by unfold OwnH; rw [List.length_append, hv_snoc]; exact ho'
    exact h (some ⟨g, 0, none⟩) cap w' ho2 ((Below.refl base w).grown hg hbase (fun k hk => (World.ownsRow.lt hown k hk).1))
theorem results_msg1 {fn : Func} {p : Tmp} (h : fn.results = #[.cell p 25]) (tmps : Array Value) (w : World) (g : Nat) (v0 v1 v2 v3 v4 : Value) (hp : tmps.getD p undef = .pointer (some ⟨g, 0, none⟩)) (hc : Cs w g [v0, v1, v2, v3, v4]) :
    (results fn tmps).run Tryz.prog w = .ok (.agg #[v0, v1, v2, v3, v4]) w := by
  have hl := load_msg w g 0 v0 v1 v2 v3 v4 (hc.c 0 (by simp)) (hc.c 1 (by simp)) (hc.c 2 (by simp)) (hc.c 3 (by simp)) (hc.c 4 (by simp))
  have hp' : tmps[p]?.getD undef = .pointer (some ⟨g, 0, none⟩) := by simpa using hp
  simp [results, h, hp', asAddr, hl]
theorem conv_one {W : World} {b : Nat} {y : UInt8} {z : Int} (hz : z = (y.toNat : Int)) (h : W.cell? ⟨b, 0, none⟩ = some (.int .u8 z)) : (convert 23 9 (.slice (some ⟨b, 0, none⟩) 1 1)).run Tryz.prog W = .ok (.string ⟨#[y]⟩) W := by
  subst hz
  exact Rb.conv (D := b + 1) (x := [y]) ⟨Nat.le_refl _, (fun e => by cases e), fun i hi => ⟨b, 0, rfl, Nat.lt_succ_self _, by
    have : i = 0 := by simpa using hi
    subst this
    exact h⟩⟩
theorem made_sm (x : SeedL) : Sm (madeM x).heads := ⟨by have := made_heads x; omega, fun y hy => by
  have h := okH_one.1 (made_head hy).1
  have h1 := isNm_len h.1
  have h2 := isVl_len h.2
  omega⟩
theorem made_pl (x : SeedL) : (madeM x).path.length ≤ 1000000 := by
  rcases (okM_split (made_ok x)).1 with h | h
  · unfold isReq isPath at h
    simp only [Bool.and_eq_true, decide_eq_true_eq] at h
    omega
  · unfold isAns at h
    simp only [Bool.and_eq_true, beq_iff_eq] at h
    rw [h.2.1]
    exact Nat.zero_le _
end Go.Proofs.YthniggdimfldhaaGreatDoor
