/- The law's cut. The law's spoil. What Bytes and Chunked answer of any message, both sides. -/
import Derived.Test.YthniggdimfldhaaGreatDoorNzv
import Derived.Test.YthniggdimfldhaaGreatDoorHq
import Derived.Test.YthniggdimfldhaaGreatDoorHt
import Derived.Test.YthniggdimfldhaaGreatDoorNzi
namespace Go.Proofs.YthniggdimfldhaaGreatDoor
open Go Go.RowKit

def cut5H (h : Hd) : Hd := (h.1.take 40, h.2.take 220)
def cut5L (l : List Hd) : List Hd := (l.take 20).map cut5H
def cutM (m : Msg) : Msg := ⟨m.meth.take 20, m.path.take 80, m.status, cut5L m.heads, m.body.take 2100⟩
theorem cut5_step {l : List Hd} {k : Nat} (h : k < l.length) : (l.take (k + 1)).map cut5H = (l.take k).map cut5H ++ [(l[k].1.take 40, l[k].2.take 220)] := by
  rw [← List.take_append_getElem h, List.map_append]
  rfl
theorem cut5_len (l : List Hd) (k : Nat) (h : k ≤ 20) : ((l.take k).map cut5H).length ≤ 20 := by rw [List.length_map, List.length_take]; omega
theorem cut5_sm (l : List Hd) : Sm (cut5L l) := by
  refine ⟨Nat.le_trans (cut5_len l 20 (Nat.le_refl _)) (by omega), fun h hh => ?_⟩
  obtain ⟨x, _, rfl⟩ := List.mem_map.1 hh
  unfold cut5H
  simp only [List.length_take]
  omega
theorem cut_str (z : List UInt8) (n : Nat) : (⟨z.toArray⟩ : ByteArray).extract 0 (min ((⟨z.toArray⟩ : ByteArray).size : Int) n).toNat = ⟨(z.take n).toArray⟩ := by
  rw [← mk_data ((⟨z.toArray⟩ : ByteArray).extract 0 _), extract_take, mk_size]
  by_cases h : z.length ≤ n
  · rw [show (min (z.length : Int) n).toNat = z.length by omega, List.take_of_length_le (Nat.le_refl _), List.take_of_length_le h]
  · rw [show (min (z.length : Int) n).toNat = n by omega]
theorem RowG.take {w : World} {base : Nat} {A : Option Addr} {c : Nat} {l : List UInt8} (h : RowG w base A c l) (k : Nat) : RowG w base A c (l.take k) := by
  refine ⟨Nat.le_trans (by rw [List.length_take]; omega) h.le, h.most, ?_⟩
  rcases h.at_ with h0 | ⟨g, rfl, h1, h2, h3, h4⟩
  · exact .inl h0
  · refine .inr ⟨g, rfl, h1, h2, h3, fun j hj => ?_⟩
    rw [List.length_take] at hj
    rw [h4 j (by omega), List.getElem_take]
/-- A message that came in. -/
structure RawM (w : World) (m : Msg) (Ah : Option Addr) (ch : Nat) (Ab : Option Addr) (cb : Nat) : Prop where
  hs : Hs w (.slice Ah m.heads.length ch) m.heads
  mx : Mx m.heads
  hl : m.heads.length * 32 ≤ 140737488355328
  rb : Rb w.heap.size w Ab cb m.body
  bl : m.body.length ≤ 140737488355328
  ml : m.meth.length ≤ maxLen
  pl : m.path.length ≤ maxLen
theorem RawM.below {w w' : World} {m : Msg} {Ah : Option Addr} {ch : Nat} {Ab : Option Addr} {cb : Nat} (h : RawM w m Ah ch Ab cb) (hb : Below w.heap.size w w') : RawM w' m Ah ch Ab cb :=
  ⟨h.hs.below hb, h.mx, h.hl, (h.rb.keep fun k hk => hb.block k hk).mono hb.size, h.bl, h.ml, h.pl⟩
def CutP (m : Msg) (w : World) (e : Ending) (w' : World) : Prop := ∃ (Ah : Option Addr) (ch : Nat) (Ab : Option Addr) (cb : Nat),
  e = .returned (.agg #[.string ⟨m.meth.toArray⟩, .string ⟨m.path.toArray⟩, .int .i64 m.status, .slice Ah m.heads.length ch, .slice Ab m.body.length cb]) ∧ RowH w' w.heap.size Ah ch m.heads ∧ RowG w' w.heap.size Ab cb m.body ∧ Below w.heap.size w w'
theorem step_pushK {ops : Array Oper} {o : Oper} {a : Act} {K : Act → World → Prop} {Q : Exit → Act → World → Prop} {E : Prop} (hgd : o.guard = none) (s x : Operand)
    (ho : o.op = .call { callee := .builtin .append, args := #[s, x], argTypes := #[22, 22] }) (w : World) (base : Nat) (v : Value) (l : List Hd) (z y : List UInt8)
    (hs : a.eval s = v) (hown : OwnH w base v l) (hx : a.eval x = .slice (some ⟨w.heap.size, 0, none⟩) 1 1) (hbase : base ≤ w.heap.size) (hlen : l.length ≤ 1000000000)
    (h : ∀ v' w', OwnH w' base v' (l ++ [(z, y)]) → Below base w w' → (∀ q, q < w.heap.size → v.ownBlock ≠ some q → w'.heap[q]? = w.heap[q]?) → K (a.put o.dst v') w') :
    if Region.wanted o (yielded ops a.tmps) = true then Oper.wp Tryz.prog o a (w.alloc (.cells #[.string ⟨z.toArray⟩, .string ⟨y.toArray⟩] 41)).drew K Q else E := by
  obtain ⟨i0, hi, hz0, hz1, hz2⟩ := info_parts infoH
  have hown' : OwnH (w.alloc (.cells #[.string ⟨z.toArray⟩, .string ⟨y.toArray⟩] 41)).drew base v l := OwnH.below hown (below_drewN (below_new _ _) 1)
  refine step_append_lies _ hgd s x 22 ho base 41 i0 (.agg #[.string ⟨#[]⟩, .string ⟨#[]⟩]) 2 32 Tryz.underlying22 hi hz0 hz1 hz2 rfl (by decide) v l.length (hv l) hs hown'
    ⟨w.heap.size, 0, none⟩ 1 1 [strV z, strV y] hx rfl ?_ ?_ (by decide) (by unfold maxLen; omega) (by omega) (by show base ≤ (w.alloc _).heap.size; simp; omega) _ rfl ?_
  · intro j u hj
    match j, hj with
    | 0, hj => simp at hj; subst hj; show (w.alloc _).cell? _ = _; simp [Addr.add, strV]
    | 1, hj => simp at hj; subst hj; show (w.alloc _).cell? _ = _; simp [Addr.add, strV]
    | j + 2, hj => simp at hj
  · intro u hu
    simp at hu
    rcases hu with rfl | rfl <;> rfl
  · intro g cap w' ho' hg _ _
    refine h _ w' ?_ ?_ fun q hq hne => ?_
    · unfold OwnH; rw [List.length_append, hv_snoc]; exact ho'
    · exact (below_drewN ((Below.refl base w).alloc hbase _) 1).grown hg (by show base ≤ (w.alloc _).heap.size; simp; omega) (fun k hk => (World.ownsRow.lt hown k hk).1)
    · exact (hg.block q (by show q < (w.alloc _).heap.size; simp; omega) (fun e => hne e.symm)).trans ((below_drewN (below_new w (.cells #[.string ⟨z.toArray⟩, .string ⟨y.toArray⟩] 41)) 1).block q hq)
set_option maxRecDepth 100000 in
set_option maxHeartbeats 1000000 in
theorem cut5_any (m : Msg) (Ah : Option Addr) (ch : Nat) (Ab : Option Addr) (cb : Nat) (w : World) (h : RawM w m Ah ch Ab cb) :
    Calls Tryz.prog 4 #[.agg #[.string ⟨m.meth.toArray⟩, .string ⟨m.path.toArray⟩, .int .i64 m.status, .slice Ah m.heads.length ch, .slice Ab m.body.length cb]] w (CutP (cutM m) w) := by
  have hb1 := below_new w (.cells #[.string ⟨m.meth.toArray⟩, .string ⟨m.path.toArray⟩, .int .i64 m.status, .slice Ah m.heads.length ch, .slice Ab m.body.length cb] 25)
  have hb2 := below_new (w.alloc (.cells #[.string ⟨m.meth.toArray⟩, .string ⟨m.path.toArray⟩, .int .i64 m.status, .slice Ah m.heads.length ch, .slice Ab m.body.length cb] 25)) (.cells zero5 25)
  have CS := Lib.hid ((box_cs w m.meth m.path m.status (.slice Ah m.heads.length ch) (.slice Ab m.body.length cb)).below hb2)
  have CZ := Cs.new (w.alloc (.cells #[.string ⟨m.meth.toArray⟩, .string ⟨m.path.toArray⟩, .int .i64 m.status, .slice Ah m.heads.length ch, .slice Ab m.body.length cb] 25)) [.string ⟨#[]⟩, .string ⟨#[]⟩, .int .i64 0, .slice none 0 0, .slice none 0 0] 25
  have hs : (w.alloc (.cells #[.string ⟨m.meth.toArray⟩, .string ⟨m.path.toArray⟩, .int .i64 m.status, .slice Ah m.heads.length ch, .slice Ab m.body.length cb] 25)).heap.size = w.heap.size + 1 := by simp
  rw [hs] at CZ
  have CZ := Lib.hid CZ
  have B2 := Lib.hid (Below.and hb1 hb2)
  have h2 := h.below (Below.and hb1 hb2)
  have C1 := Lib.hid (copy_refM m (.slice Ah m.heads.length ch) Ab cb _ h2.hs h2.rb h.hl h.bl)
  have HMX := Lib.hid h.mx
  have e1 : (⟨m.meth.toArray⟩ : ByteArray).extract 0 (min (m.meth.length : Int) 20).toNat = ⟨(m.meth.take 20).toArray⟩ := by have := cut_str m.meth 20; rwa [mk_size] at this
  have e2 : (⟨m.path.toArray⟩ : ByteArray).extract 0 (min (m.path.length : Int) 80).toNat = ⟨(m.path.take 80).toArray⟩ := by have := cut_str m.path 80; rwa [mk_size] at this
  have z1 : (⟨m.meth.toArray⟩ : ByteArray).size ≤ 9223372036854775807 := by rw [mk_size]; have := h.ml; unfold maxLen at this; omega
  have z2 : (⟨m.path.toArray⟩ : ByteArray).size ≤ 9223372036854775807 := by rw [mk_size]; have := h.pl; unfold maxLen at this; omega
  have hbl := h.bl
  have hhl := h.hl
  clear hb1 hb2 hs h h2
  unfold CutP
  go_enter Tryz.func4, Tryz.ntmps4
  go_upto_region 1 with fail
  generalize (w.alloc (.cells #[.string ⟨m.meth.toArray⟩, .string ⟨m.path.toArray⟩, .int .i64 m.status, .slice Ah m.heads.length ch, .slice Ab m.body.length cb] 25)).alloc (.cells zero5 25) = w2 at *
  have d0 := CS.out.c 0 (by simp)
  have d1 := CS.out.c 1 (by simp)
  have d2 := CS.out.c 2 (by simp)
  have d3 := CS.out.c 3 (by simp)
  have d4 := CS.out.c 4 (by simp)
  go_wp2_with fail
  go_at_call 17
  refine C1.out.mono ?_
  rintro e w3 ⟨Ac, cc, A3, c3, rfl, hO, hb3⟩
  have CS3 := Lib.hid (CS.out.below hb3)
  have CZ3 := Lib.hid (CZ.out.below hb3)
  have B3 := Lib.hid (Below.and B2.out hb3)
  have HO3 := Lib.hid hO
  have HSZ := Lib.hid hb3.size
  have HL2 : Hid (w.heap.size + 1 < w2.heap.size) := CZ.out.lt
  clear d0 d1 d2 d3 d4 hO hb3 C1 CS CZ
  have d0 := CS3.out.c 0 (by simp)
  have d1 := CS3.out.c 1 (by simp)
  have d2 := CS3.out.c 2 (by simp)
  have d3 := CS3.out.c 3 (by simp)
  have d4 := CS3.out.c 4 (by simp)
  have f0 := CS3.out.free 0 (by simp)
  have f1 := CS3.out.free 1 (by simp)
  have f2 := CS3.out.free 2 (by simp)
  have f3 := CS3.out.free 3 (by simp)
  have f4 := CS3.out.free 4 (by simp)
  go_upto_region 2 with fail
  clear d0 d1 d2 d3 d4 f0 f1 f2 f3 f4
  have CS4 := Lib.hid (msg_set CS3.out (.string ⟨m.meth.toArray⟩) (.string ⟨m.path.toArray⟩) (.int .i64 m.status) (.slice Ac m.heads.length cc) (.slice A3 m.body.length c3))
  have CZ4 : Hid (Cs (((((w3.setCell ⟨w.heap.size, 0, none⟩ (.string ⟨m.meth.toArray⟩)).setCell ⟨w.heap.size, 1, none⟩ (.string ⟨m.path.toArray⟩)).setCell ⟨w.heap.size, 2, none⟩ (.int .i64 m.status)).setCell ⟨w.heap.size, 3, none⟩ (.slice Ac m.heads.length cc)).setCell ⟨w.heap.size, 4, none⟩ (.slice A3 m.body.length c3)) (w.heap.size + 1) [.string ⟨#[]⟩, .string ⟨#[]⟩, .int .i64 0, .slice none 0 0, .slice none 0 0]) :=
    CZ3.out.keep (by simp [World.setCell]) (by
      have hn : w.heap.size + 1 ≠ w.heap.size := by omega
      exact ((((Below.heap_setCell _ _ _ _ hn).trans (Below.heap_setCell _ _ _ _ hn)).trans (Below.heap_setCell _ _ _ _ hn)).trans (Below.heap_setCell _ _ _ _ hn)).trans (Below.heap_setCell _ _ _ _ hn))
  have HH4 := Lib.hid (HO3.out.hs.msgset (g := w.heap.size) (fun q e => by have := (HO3.out.hs.lt e).1; have := HL2.out; omega) (.string ⟨m.meth.toArray⟩) (.string ⟨m.path.toArray⟩) (.int .i64 m.status) (.slice Ac m.heads.length cc) (.slice A3 m.body.length c3))
  have HB4 := Lib.hid (HO3.out.rb.msgset (g := w.heap.size) (fun q e => by have := (HO3.out.rb.lt e).1; have := HL2.out; omega) (.string ⟨m.meth.toArray⟩) (.string ⟨m.path.toArray⟩) (.int .i64 m.status) (.slice Ac m.heads.length cc) (.slice A3 m.body.length c3))
  have B4 := Lib.hid (msg_set_below B3.out (Nat.le_refl _) (.string ⟨m.meth.toArray⟩) (.string ⟨m.path.toArray⟩) (.int .i64 m.status) (.slice Ac m.heads.length cc) (.slice A3 m.body.length c3))
  clear CS3 CZ3 B3 HO3
  generalize ((((w3.setCell ⟨w.heap.size, 0, none⟩ (.string ⟨m.meth.toArray⟩)).setCell ⟨w.heap.size, 1, none⟩ (.string ⟨m.path.toArray⟩)).setCell ⟨w.heap.size, 2, none⟩ (.int .i64 m.status)).setCell ⟨w.heap.size, 3, none⟩ (.slice Ac m.heads.length cc)).setCell ⟨w.heap.size, 4, none⟩ (.slice A3 m.body.length c3) = w4 at *
  have d0 := CS4.out.c 0 (by simp)
  have d1 := CS4.out.c 1 (by simp)
  have f0 := CS4.out.free 0 (by simp)
  have f1 := CS4.out.free 1 (by simp)
  go_region
  have CS5 : Hid (Cs ((w4.setCell ⟨w.heap.size, 0, none⟩ (.string ⟨(m.meth.take 20).toArray⟩)).setCell ⟨w.heap.size, 1, none⟩ (.string ⟨(m.path.take 80).toArray⟩)).drew w.heap.size [.string ⟨(m.meth.take 20).toArray⟩, .string ⟨(m.path.take 80).toArray⟩, .int .i64 m.status, .slice Ac m.heads.length cc, .slice A3 m.body.length c3]) :=
    ((CS4.out.set 0 (by simp) (.string ⟨(m.meth.take 20).toArray⟩)).set 1 (by simp) (.string ⟨(m.path.take 80).toArray⟩)).keep (Nat.le_refl _) rfl
  have hn : w.heap.size + 1 ≠ w.heap.size := by omega
  have CZ5 : Hid (Cs ((w4.setCell ⟨w.heap.size, 0, none⟩ (.string ⟨(m.meth.take 20).toArray⟩)).setCell ⟨w.heap.size, 1, none⟩ (.string ⟨(m.path.take 80).toArray⟩)).drew (w.heap.size + 1) [.string ⟨#[]⟩, .string ⟨#[]⟩, .int .i64 0, .slice none 0 0, .slice none 0 0]) :=
    CZ4.out.keep (by show _ ≤ ((w4.setCell _ _).setCell _ _).heap.size; simp [World.setCell]) ((Below.heap_setCell _ _ _ _ hn).trans (Below.heap_setCell _ _ _ _ hn))
  have HH5 : Hid (RowH ((w4.setCell ⟨w.heap.size, 0, none⟩ (.string ⟨(m.meth.take 20).toArray⟩)).setCell ⟨w.heap.size, 1, none⟩ (.string ⟨(m.path.take 80).toArray⟩)).drew w2.heap.size Ac cc m.heads) :=
    ((HH4.out.keepset (g := w.heap.size) (fun q e => by have := (HH4.out.lt e).1; have := HL2.out; omega) 0 (.string ⟨(m.meth.take 20).toArray⟩)).keepset (g := w.heap.size) (fun q e => by have := (HH4.out.lt e).1; have := HL2.out; omega) 1 (.string ⟨(m.path.take 80).toArray⟩)).keep (Nat.le_refl _) (fun _ _ => rfl)
  have HB5 : Hid (RowG ((w4.setCell ⟨w.heap.size, 0, none⟩ (.string ⟨(m.meth.take 20).toArray⟩)).setCell ⟨w.heap.size, 1, none⟩ (.string ⟨(m.path.take 80).toArray⟩)).drew w2.heap.size A3 c3 m.body) :=
    ((HB4.out.keepset (g := w.heap.size) (fun q e => by have := (HB4.out.lt e).1; have := HL2.out; omega) 0 (.string ⟨(m.meth.take 20).toArray⟩)).keepset (g := w.heap.size) (fun q e => by have := (HB4.out.lt e).1; have := HL2.out; omega) 1 (.string ⟨(m.path.take 80).toArray⟩)).keep (Nat.le_refl _) (fun _ _ => rfl)
  have B5 : Hid (Below w.heap.size w ((w4.setCell ⟨w.heap.size, 0, none⟩ (.string ⟨(m.meth.take 20).toArray⟩)).setCell ⟨w.heap.size, 1, none⟩ (.string ⟨(m.path.take 80).toArray⟩)).drew) :=
    below_drewN ((B4.out.setCell (p := ⟨w.heap.size, 0, none⟩) (Nat.le_refl _) _).setCell (p := ⟨w.heap.size, 1, none⟩) (Nat.le_refl _) _) 1
  clear d0 d1 f0 f1 e1 e2 z1 z2 CS4 CZ4 HH4 HB4 B4
  generalize ((w4.setCell ⟨w.heap.size, 0, none⟩ (.string ⟨(m.meth.take 20).toArray⟩)).setCell ⟨w.heap.size, 1, none⟩ (.string ⟨(m.path.take 80).toArray⟩)).drew = w5 at *
  have d4 := CS5.out.c 4 (by simp)
  have f4 := CS5.out.free 4 (by simp)
  have hcap := HB5.out.le
  have n1 : (min (m.body.length : Int) 2100).toNat = (m.body.take 2100).length := by rw [List.length_take]; omega
  have n2 : (min (m.body.length : Int) 2100) ≤ (c3 : Int) := by omega
  go_upto_region 4 with fail
  clear d4 f4 n1 n2 hcap
  have CS6 := Lib.hid (CS5.out.set 4 (by simp) (.slice A3 (min 2100 m.body.length) c3))
  have CZ6 : Hid (Cs (w5.setCell ⟨w.heap.size, 4, none⟩ (.slice A3 (min 2100 m.body.length) c3)) (w.heap.size + 1) [.string ⟨#[]⟩, .string ⟨#[]⟩, .int .i64 0, .slice none 0 0, .slice none 0 0]) := CZ5.out.keep (by simp [World.setCell]) (Below.heap_setCell _ _ _ _ hn)
  have HH6 := Lib.hid (HH5.out.keepset (g := w.heap.size) (fun q e => by have := (HH5.out.lt e).1; have := HL2.out; omega) 4 (.slice A3 (min 2100 m.body.length) c3)).hs
  have HB6 := Lib.hid ((HB5.out.keepset (g := w.heap.size) (fun q e => by have := (HB5.out.lt e).1; have := HL2.out; omega) 4 (.slice A3 (min 2100 m.body.length) c3)).take 2100)
  have B6 : Hid (Below w.heap.size w (w5.setCell ⟨w.heap.size, 4, none⟩ (.slice A3 (min 2100 m.body.length) c3))) := B5.out.setCell (p := ⟨w.heap.size, 4, none⟩) (Nat.le_refl _) _
  clear CS5 CZ5 HH5 HB5 B5 hn
  generalize w5.setCell ⟨w.heap.size, 4, none⟩ (.slice A3 (min 2100 m.body.length) c3) = w6 at *
  have HR6 : Hid (Rd w6 Ac (hv m.heads)) := by
    obtain ⟨_, _, e, _, _, hr⟩ := HH6.out
    cases e
    exact hr
  simp only [List.set_cons_succ, List.set_cons_zero] at CS6
  clear HH6
  go_wp2_with fail
  go_loopw [3, 4, 5] (fun v i _ wr => ∃ k : Nat, k ≤ m.heads.length ∧ k ≤ 20 ∧ i = .int .i64 k ∧ OwnH wr w6.heap.size v ((m.heads.take k).map cut5H) ∧ Below w6.heap.size w6 wr) (fun _ i _ _ => 20 - (intOf i).toNat)
  case atStart => exact ⟨0, Nat.zero_le _, Nat.zero_le _, rfl, OwnH.nil _ _, Below.refl _ _⟩
  case round =>
    obtain ⟨k, hk, hk2, rfl, hown, hb⟩ := hrel
    have hgl := cut5_len m.heads k hk2
    have CSr := Lib.hid (CS6.out.below hb)
    have d3 := CSr.out.c 3 (by simp)
    simp only [List.getElem_cons_succ, List.getElem_cons_zero] at d3
    by_cases hlt : k < m.heads.length
    · by_cases h20 : k < 20
      · obtain ⟨wq, rfl⟩ : ∃ wq : World, wq = wr := ⟨_, rfl⟩
        obtain ⟨b, o, rfl, hbl0, h10, h20'⟩ := HR6.out.head k hlt
        have h1 := (hb.cell (p := ⟨b, o + k * 2, none⟩) hbl0).trans h10
        have h2 := (hb.cell (p := ⟨b, o + k * 2 + 1, none⟩) hbl0).trans h20'
        have hbl : b < wq.heap.size := Nat.lt_of_lt_of_le hbl0 hb.size
        obtain ⟨z1, z2⟩ := HMX.out m.heads[k] (List.getElem_mem hlt)
        have i1 : (0 : Int) ≤ k := by omega
        have i2 : (k : Int) < m.heads.length := by omega
        have hst := Lib.hid (cut5_step hlt)
        clear h10 h20'
        generalize m.heads[k].1 = p at *
        generalize m.heads[k].2 = z at *
        generalize (m.heads.take k).map cut5H = g at *
        have HO := Lib.hid hown
        have HB := Lib.hid hb
        clear hown hb
        go_upto_region 9 with fail
        have hb8 := below_new wq (.cells #[.string ⟨p.toArray⟩, .string ⟨z.toArray⟩] 41)
        have C8 : Hid (Cs (wq.alloc (.cells #[.string ⟨p.toArray⟩, .string ⟨z.toArray⟩] 41)) wq.heap.size [.string ⟨p.toArray⟩, .string ⟨z.toArray⟩]) := Lib.hid (Cs.new wq _ _)
        have B8 := Lib.hid (Below.and HB.out hb8)
        have HV8 : Hid (u3.ownBlock ≠ some wq.heap.size) := Lib.hid fun e => by have := (World.ownsRow.lt HO.out _ e).2; omega
        have HO8 := Lib.hid (OwnH.below HO.out hb8)
        clear hb8 HO HB h1 h2 hbl hbl0
        generalize wq.alloc (.cells #[.string ⟨p.toArray⟩, .string ⟨z.toArray⟩] 41) = w8 at *
        have hlt8 := C8.out.lt
        have e1 : (⟨p.toArray⟩ : ByteArray).extract 0 (min (p.length : Int) 40).toNat = ⟨(p.take 40).toArray⟩ := by have := cut_str p 40; rwa [mk_size] at this
        have e2 : (⟨z.toArray⟩ : ByteArray).extract 0 (min (z.length : Int) 220).toNat = ⟨(z.take 220).toArray⟩ := by have := cut_str z 220; rwa [mk_size] at this
        have y1 : (⟨p.toArray⟩ : ByteArray).size ≤ 9223372036854775807 := by rw [mk_size]; unfold maxLen at z1; omega
        have y2 : (⟨z.toArray⟩ : ByteArray).size ≤ 9223372036854775807 := by rw [mk_size]; unfold maxLen at z2; omega
        have j1 : (0 : Int) ≤ min (p.length : Int) 40 := by omega
        have j2 : min (p.length : Int) 40 ≤ (p.length : Int) := by omega
        have j3 : (0 : Int) ≤ min (z.length : Int) 220 := by omega
        have j4 : min (z.length : Int) 220 ≤ (z.length : Int) := by omega
        generalize hp' : p.take 40 = p' at *
        generalize hz' : z.take 220 = z' at *
        clear hp' hz' z1 z2
        have h1 := C8.out.c 0 (by simp)
        have h2 := C8.out.c 1 (by simp)
        simp only [List.getElem_cons_succ, List.getElem_cons_zero] at h1 h2
        have K1 : Hid (_ ∧ _) := Lib.hid (And.intro ((new2 w8 ⟨p'.toArray⟩ ⟨z'.toArray⟩ hlt8 0).trans h1) ((new2 w8 ⟨p'.toArray⟩ ⟨z'.toArray⟩ hlt8 1).trans h2))
        generalize wq.heap.size = g8 at *
        go_region_held3 (fun w' => w'.cell? ⟨g8, 0, none⟩ = some (.string ⟨p.toArray⟩) ∧ w'.cell? ⟨g8, 1, none⟩ = some (.string ⟨z.toArray⟩))
          (first | exact ⟨h1, h2⟩ | exact K1.out | exact Hid.out (by assumption))
          ((first
            | (refine step_pushK rfl (.tmp 48) (.tmp 64) rfl w8 w6.heap.size _ g p' z' rfl HO8.out rfl B8.out.size (by omega) ?_; intro v3 w3' hown3 hb3 hk3; have K3 : Hid (_ ∧ _) := Lib.hid (And.intro ((cell_heap (hk3 g8 hlt8 HV8.out) 0).trans h1) ((cell_heap (hk3 g8 hlt8 HV8.out) 1).trans h2)))))
        all_goals
          go_wp2_with fail
          go_roundw
          case rel => exact ⟨k + 1, by omega, by omega, by go_num, by rw [hst.out]; exact hown3, B8.out.trans hb3⟩
          case measure => simp [intOf]; omega
      · have i2 : (k : Int) < m.heads.length := by omega
        have hf : cut5L m.heads = (m.heads.take k).map cut5H := by unfold cut5L; rw [show k = 20 by omega]
        rw [← hf] at hown
        obtain ⟨A9, c9, rfl, hr9⟩ := hown.rowH
        have RH9 := Lib.hid hr9
        have CZr := Lib.hid (CZ6.out.below hb)
        have RBr : Hid (RowG wr w2.heap.size A3 c3 (m.body.take 2100)) := Lib.hid (HB6.out.below hb)
        have Br := Lib.hid (Below.and B6.out hb)
        have HL9 := Lib.hid CZ6.out.lt
        clear hown hr9 hf hgl hb
        have d0 := CSr.out.c 0 (by simp)
        have d1 := CSr.out.c 1 (by simp)
        have d2 := CSr.out.c 2 (by simp)
        have d4 := CSr.out.c 4 (by simp)
        have x3 := CSr.out.free 3 (by simp)
        have g0 := CZr.out.c 0 (by simp)
        have g1 := CZr.out.c 1 (by simp)
        have g2 := CZr.out.c 2 (by simp)
        have g3 := CZr.out.c 3 (by simp)
        have g4 := CZr.out.c 4 (by simp)
        have f0 := CZr.out.free 0 (by simp)
        have f1 := CZr.out.free 1 (by simp)
        have f2 := CZr.out.free 2 (by simp)
        have f3 := CZr.out.free 3 (by simp)
        have f4 := CZr.out.free 4 (by simp)
        simp only [List.getElem_cons_succ, List.getElem_cons_zero] at d0 d1 d2 d4
        go_wp2_with fail
        refine bodyPost_ret (results_msg1 rfl _ _ (w.heap.size + 1) _ _ _ _ _ rfl (msg_set (CZr.out.keep (by simp [World.setCell]) (Below.heap_setCell _ _ _ _ (by show w.heap.size + 1 ≠ w.heap.size; omega))) _ _ _ _ _)) rfl ?_
        refine ⟨A9, c9, A3, c3, by show _ = Ending.returned (.agg #[_, _, _, .slice A9 (cut5L m.heads).length c9, .slice A3 (m.body.take 2100).length c3]); rw [List.length_take]; rfl, ?_, ?_, ?_⟩
        · exact ((RH9.out.keepset (fun q e => by have := (RH9.out.lt e).1; have := HL9.out; omega) 3 _).msgset (fun q e => by have := (RH9.out.lt e).1; have := HL9.out; omega) _ _ _ _ _).up (by have := HL9.out; omega)
        · exact ((RBr.out.keepset (fun q e => by have := (RBr.out.lt e).1; have := HL2.out; omega) 3 _).msgset (fun q e => by have := (RBr.out.lt e).1; have := HL2.out; omega) _ _ _ _ _).up (by have := HL2.out; omega)
        · exact msg_set_below (Br.out.setCell (p := ⟨w.heap.size, 3, none⟩) (show w.heap.size ≤ w.heap.size from Nat.le_refl _) _) (Nat.le_succ w.heap.size) _ _ _ _ _
    · skip
      have hf : cut5L m.heads = (m.heads.take k).map cut5H := by unfold cut5L; rw [List.take_of_length_le (by omega), List.take_of_length_le (by omega)]
      rw [← hf] at hown
      obtain ⟨A9, c9, rfl, hr9⟩ := hown.rowH
      have RH9 := Lib.hid hr9
      have CZr := Lib.hid (CZ6.out.below hb)
      have RBr : Hid (RowG wr w2.heap.size A3 c3 (m.body.take 2100)) := Lib.hid (HB6.out.below hb)
      have Br := Lib.hid (Below.and B6.out hb)
      have HL9 := Lib.hid CZ6.out.lt
      clear hown hr9 hf hgl hb
      have d0 := CSr.out.c 0 (by simp)
      have d1 := CSr.out.c 1 (by simp)
      have d2 := CSr.out.c 2 (by simp)
      have d4 := CSr.out.c 4 (by simp)
      have x3 := CSr.out.free 3 (by simp)
      have g0 := CZr.out.c 0 (by simp)
      have g1 := CZr.out.c 1 (by simp)
      have g2 := CZr.out.c 2 (by simp)
      have g3 := CZr.out.c 3 (by simp)
      have g4 := CZr.out.c 4 (by simp)
      have f0 := CZr.out.free 0 (by simp)
      have f1 := CZr.out.free 1 (by simp)
      have f2 := CZr.out.free 2 (by simp)
      have f3 := CZr.out.free 3 (by simp)
      have f4 := CZr.out.free 4 (by simp)
      simp only [List.getElem_cons_succ, List.getElem_cons_zero] at d0 d1 d2 d4
      go_wp2_with fail
      refine bodyPost_ret (results_msg1 rfl _ _ (w.heap.size + 1) _ _ _ _ _ rfl (msg_set (CZr.out.keep (by simp [World.setCell]) (Below.heap_setCell _ _ _ _ (by show w.heap.size + 1 ≠ w.heap.size; omega))) _ _ _ _ _)) rfl ?_
      refine ⟨A9, c9, A3, c3, by show _ = Ending.returned (.agg #[_, _, _, .slice A9 (cut5L m.heads).length c9, .slice A3 (m.body.take 2100).length c3]); rw [List.length_take]; rfl, ?_, ?_, ?_⟩
      · exact ((RH9.out.keepset (fun q e => by have := (RH9.out.lt e).1; have := HL9.out; omega) 3 _).msgset (fun q e => by have := (RH9.out.lt e).1; have := HL9.out; omega) _ _ _ _ _).up (by have := HL9.out; omega)
      · exact ((RBr.out.keepset (fun q e => by have := (RBr.out.lt e).1; have := HL2.out; omega) 3 _).msgset (fun q e => by have := (RBr.out.lt e).1; have := HL2.out; omega) _ _ _ _ _).up (by have := HL2.out; omega)
      · exact msg_set_below (Br.out.setCell (p := ⟨w.heap.size, 3, none⟩) (show w.heap.size ≤ w.heap.size from Nat.le_refl _) _) (Nat.le_succ w.heap.size) _ _ _ _ _
end Go.Proofs.YthniggdimfldhaaGreatDoor
namespace Go.Proofs.YthniggdimfldhaaGreatDoor
open Go Go.RowKit

/-- The cells of a row that may be written. -/
structure RowV (w : World) (g n : Nat) (p : Value → Prop) : Prop where
  lt : g < w.heap.size
  has : ∀ j, j < n → ∃ v, p v ∧ w.cell? ⟨g, j, none⟩ = some v
  free : ∀ j, j < n → w.frozen? ⟨g, j, none⟩ = false
theorem RowV.set {w : World} {g n : Nat} {p : Value → Prop} (h : RowV w g n p) (k : Nat) (u : Value) (hu : p u) : RowV (w.setCell ⟨g, k, none⟩ u) g n p := by
  refine ⟨by simpa using h.lt, fun j hj => ?_, fun j hj => by simpa using h.free j hj⟩
  obtain ⟨v, hv, hc⟩ := h.has j hj
  by_cases e : j = k
  · subst e
    exact ⟨u, hu, World.cell?_setCell_same _ _ _ hc⟩
  · exact ⟨v, hv, by rw [World.cell?_setCell_other _ _ _ _ (fun x => e (by simpa using x.symm)), hc]⟩
theorem RowV.keep {w w' : World} {g n : Nat} {p : Value → Prop} (h : RowV w g n p) (hs : w.heap.size ≤ w'.heap.size) (e : w'.heap[g]? = w.heap[g]?) : RowV w' g n p := by
  refine ⟨Nat.lt_of_lt_of_le h.lt hs, fun j hj => ?_, fun j hj => ?_⟩
  · obtain ⟨v, hv, hc⟩ := h.has j hj
    exact ⟨v, hv, (cell_heap e j).trans hc⟩
  · rw [World.frozen?_of_block (a := ⟨g, j, none⟩) e]
    exact h.free j hj
theorem RowV.keepset {w : World} {g q n : Nat} {p : Value → Prop} (h : RowV w g n p) (hne : g ≠ q) (k : Nat) (u : Value) : RowV (w.setCell ⟨q, k, none⟩ u) g n p :=
  h.keep (by simp [World.setCell]) (Below.heap_setCell _ _ _ _ hne)
def isU8 (v : Value) : Prop := ∃ x : Int, v = .int .u8 x
theorem RowG.rowV {w : World} {base g c : Nat} {l : List UInt8} (h : RowG w base (some ⟨g, 0, none⟩) c l) : RowV w g l.length isU8 := by
  rcases h.at_ with ⟨e, _⟩ | ⟨g', e, h1, h2, h3, h4⟩
  · cases e
  · obtain rfl : g' = g := by simpa using e.symm
    exact ⟨h2, fun j hj => ⟨_, ⟨_, rfl⟩, h4 j hj⟩, fun j hj => (h3 j (Nat.lt_of_lt_of_le hj h.le)).2⟩
theorem RowH.rowV {w : World} {base g c : Nat} {l : List Hd} (h : RowH w base (some ⟨g, 0, none⟩) c l) : RowV w g (l.length * 2) (fun _ => True) := by
  rcases h.at_ with ⟨e, _⟩ | ⟨g', e, h1, h2, h3, h4⟩
  · cases e
  · obtain rfl : g' = g := by simpa using e.symm
    refine ⟨h2, fun j hj => ?_, h3⟩
    rcases Nat.mod_two_eq_zero_or_one j with h0 | h0
    · have := (h4 (j / 2) (by omega)).1
      rw [show j / 2 * 2 = j by omega] at this
      exact ⟨_, trivial, this⟩
    · have := (h4 (j / 2) (by omega)).2
      rw [show j / 2 * 2 + 1 = j by omega] at this
      exact ⟨_, trivial, this⟩
/-- a message whose lists may be written, boxed -/
structure SpW (w : World) (base g : Nat) (m : Msg) (Ah : Option Addr) (ch : Nat) (Ab : Option Addr) (cb : Nat) : Prop where
  cs : Cs w g [.string ⟨m.meth.toArray⟩, .string ⟨m.path.toArray⟩, .int .i64 m.status, .slice Ah m.heads.length ch, .slice Ab m.body.length cb]
  hb : 0 < m.body.length → ∃ gb, Ab = some ⟨gb, 0, none⟩
  hh : 0 < m.heads.length → ∃ gh, Ah = some ⟨gh, 0, none⟩
  rb : ∀ gb, Ab = some ⟨gb, 0, none⟩ → base ≤ gb ∧ gb ≠ g ∧ RowV w gb m.body.length isU8
  rh : ∀ gh, Ah = some ⟨gh, 0, none⟩ → base ≤ gh ∧ gh ≠ g ∧ RowV w gh (m.heads.length * 2) (fun _ => True)
  ne : ∀ q r, Ah = some ⟨q, 0, none⟩ → Ab = some ⟨r, 0, none⟩ → q ≠ r
  bl : m.body.length ≤ cb
  hl : m.heads.length ≤ ch
theorem SpW.of {w : World} {base : Nat} {m : Msg} {Ah : Option Addr} {ch : Nat} {Ab : Option Addr} {cb : Nat} (h : OwnM w base m Ah ch Ab cb) :
    SpW (w.alloc (.cells #[.string ⟨m.meth.toArray⟩, .string ⟨m.path.toArray⟩, .int .i64 m.status, .slice Ah m.heads.length ch, .slice Ab m.body.length cb] 25)) base w.heap.size m Ah ch Ab cb := by
  have hb := below_new w (.cells #[.string ⟨m.meth.toArray⟩, .string ⟨m.path.toArray⟩, .int .i64 m.status, .slice Ah m.heads.length ch, .slice Ab m.body.length cb] 25)
  have h' := h.below hb
  refine ⟨box_cs w m.meth m.path m.status _ _, fun h0 => ?_, fun h0 => ?_, fun gb e => ?_, fun gh e => ?_, h.ne, h.rb.le, h.hs.le⟩
  · rcases h.rb.at_ with ⟨_, h1⟩ | ⟨g, e, _⟩
    · have := h.rb.le; omega
    · exact ⟨g, e⟩
  · rcases h.hs.at_ with ⟨_, h1⟩ | ⟨g, e, _⟩
    · have := h.hs.le; omega
    · exact ⟨g, e⟩
  · have hr := h'.rb
    have hl := h.rb.lt e
    subst e
    exact ⟨hl.1, by omega, hr.rowV⟩
  · have hr := h'.hs
    have hl := h.hs.lt e
    subst e
    exact ⟨hl.1, by omega, hr.rowV⟩
theorem SpW.setB {w : World} {base g gb : Nat} {m : Msg} {Ah : Option Addr} {ch cb : Nat} (h : SpW w base g m Ah ch (some ⟨gb, 0, none⟩) cb) (k : Nat) (x : Int) :
    SpW (w.setCell ⟨gb, k, none⟩ (.int .u8 x)).drew base g m Ah ch (some ⟨gb, 0, none⟩) cb := by
  obtain ⟨h1, h2, h3⟩ := h.rb gb rfl
  refine ⟨(h.cs.keep (by simp [World.setCell]) (Below.heap_setCell _ _ _ _ h2.symm)).keep (Nat.le_refl _) rfl, h.hb, h.hh, fun q e => ?_, fun q e => ?_, h.ne, h.bl, h.hl⟩
  · obtain rfl : gb = q := by simpa using e
    exact ⟨h1, h2, (h3.set k _ ⟨x, rfl⟩).keep (Nat.le_refl _) rfl⟩
  · obtain ⟨y1, y2, y3⟩ := h.rh q e
    exact ⟨y1, y2, (y3.keepset (h.ne q gb e rfl) k _).keep (Nat.le_refl _) rfl⟩
theorem SpW.setH {w : World} {base g gh : Nat} {m : Msg} {Ab : Option Addr} {ch cb : Nat} (h : SpW w base g m (some ⟨gh, 0, none⟩) ch Ab cb) (k : Nat) (x : Value) :
    SpW (w.setCell ⟨gh, k, none⟩ x) base g m (some ⟨gh, 0, none⟩) ch Ab cb := by
  obtain ⟨h1, h2, h3⟩ := h.rh gh rfl
  refine ⟨h.cs.keep (by simp [World.setCell]) (Below.heap_setCell _ _ _ _ h2.symm), h.hb, h.hh, fun q e => ?_, fun q e => ?_, h.ne, h.bl, h.hl⟩
  · obtain ⟨y1, y2, y3⟩ := h.rb q e
    exact ⟨y1, y2, y3.keepset (Ne.symm (h.ne gh q rfl e)) k _⟩
  · obtain rfl : gh = q := by simpa using e
    exact ⟨h1, h2, h3.set k _ trivial⟩
/-- what is as it was, but two rows -/
structure KeptBut (w w' : World) (A B : Option Addr) : Prop where
  size : w.heap.size ≤ w'.heap.size
  block : ∀ q, q < w.heap.size → A ≠ some ⟨q, 0, none⟩ → B ≠ some ⟨q, 0, none⟩ → w'.heap[q]? = w.heap[q]?
theorem KeptBut.setA {w w' : World} {g : Nat} {B : Option Addr} (h : KeptBut w w' (some ⟨g, 0, none⟩) B) (k : Nat) (v : Value) : KeptBut w (w'.setCell ⟨g, k, none⟩ v) (some ⟨g, 0, none⟩) B :=
  ⟨by simpa [World.setCell] using h.size, fun q hq h1 h2 => (Below.heap_setCell _ _ _ _ (fun e => h1 (by rw [e]))).trans (h.block q hq h1 h2)⟩
theorem KeptBut.setB {w w' : World} {g : Nat} {A : Option Addr} (h : KeptBut w w' A (some ⟨g, 0, none⟩)) (k : Nat) (v : Value) : KeptBut w (w'.setCell ⟨g, k, none⟩ v) A (some ⟨g, 0, none⟩) :=
  ⟨by simpa [World.setCell] using h.size, fun q hq h1 h2 => (Below.heap_setCell _ _ _ _ (fun e => h2 (by rw [e]))).trans (h.block q hq h1 h2)⟩
theorem KeptBut.drew {w w' : World} {A B : Option Addr} (h : KeptBut w w' A B) : KeptBut w w'.drew A B := ⟨h.size, h.block⟩
theorem KeptBut.of {w w' : World} (A B : Option Addr) (h : Below w.heap.size w w') : KeptBut w w' A B := ⟨h.size, fun q hq _ _ => h.block q hq⟩
set_option maxRecDepth 100000 in
set_option maxHeartbeats 600000 in
theorem spoil_any (m : Msg) (Ah : Option Addr) (ch : Nat) (Ab : Option Addr) (cb base : Nat) (w : World) (h : OwnM w base m Ah ch Ab cb) (hbase : base ≤ w.heap.size) (hbl : m.body.length ≤ 1000000) (hhl : m.heads.length ≤ 1000000) :
    Calls Tryz.prog 21 #[.agg #[.string ⟨m.meth.toArray⟩, .string ⟨m.path.toArray⟩, .int .i64 m.status, .slice Ah m.heads.length ch, .slice Ab m.body.length cb]] w fun e w' => e = .returned (.tuple #[]) ∧ Below base w w' ∧ KeptBut w w' Ah Ab := by
  have H1 := Lib.hid (SpW.of h)
  have B1 := Lib.hid ((below_new w (.cells #[.string ⟨m.meth.toArray⟩, .string ⟨m.path.toArray⟩, .int .i64 m.status, .slice Ah m.heads.length ch, .slice Ab m.body.length cb] 25)).mono hbase)
  have Q1 := Lib.hid (KeptBut.of Ah Ab (below_new w (.cells #[.string ⟨m.meth.toArray⟩, .string ⟨m.path.toArray⟩, .int .i64 m.status, .slice Ah m.heads.length ch, .slice Ab m.body.length cb] 25)))
  clear h
  go_enter Tryz.func21, Tryz.ntmps21
  go_upto_region 1 with fail
  generalize w.alloc (.cells #[.string ⟨m.meth.toArray⟩, .string ⟨m.path.toArray⟩, .int .i64 m.status, .slice Ah m.heads.length ch, .slice Ab m.body.length cb] 25) = w1 at *
  go_wp2_with fail
  go_loopw [2] (fun i wr => ∃ k : Nat, k ≤ m.body.length ∧ i = .int .i64 k ∧ SpW wr base w.heap.size m Ah ch Ab cb ∧ Below base w wr ∧ KeptBut w wr Ah Ab) (fun i _ => m.body.length - (intOf i).toNat)
  case atStart => exact ⟨0, Nat.zero_le _, rfl, H1.out, B1.out, Q1.out⟩
  case round =>
    obtain ⟨k, hk, rfl, hS, hb, hq⟩ := hrel
    have HS := Lib.hid hS
    have HB := Lib.hid hb
    have HQ := Lib.hid hq
    clear hS hb hq
    have d4 := HS.out.cs.c 4 (by simp)
    simp only [List.getElem_cons_succ, List.getElem_cons_zero] at d4
    by_cases hlt : k < m.body.length
    · obtain ⟨gb, rfl⟩ := HS.out.hb (by omega)
      obtain ⟨g1, g2, g3⟩ := HS.out.rb gb rfl
      obtain ⟨_, ⟨x, rfl⟩, hx⟩ := g3.has k hlt
      have hf := g3.free k hlt
      have i1 : (0 : Int) ≤ k := by omega
      have i2 : (k : Int) < m.body.length := by omega
      have hcap := HS.out.bl
      clear g3
      go_upto_region 4 with fail
      go_region
      go_wp2_with fail
      exact ⟨⟨k + 1, by omega, by go_num, HS.out.setB k _, below_drewN (HB.out.setCell (p := ⟨gb, k, none⟩) g1 _) 1, (HQ.out.setB k _).drew⟩, by simp [intOf]; omega⟩
    · go_wp2_with fail
      clear d4 H1 B1 Q1
      go_loopw [3] (fun i wr => ∃ k : Nat, k ≤ m.heads.length ∧ i = .int .i64 k ∧ SpW wr base w.heap.size m Ah ch Ab cb ∧ Below base w wr ∧ KeptBut w wr Ah Ab) (fun i _ => m.heads.length - (intOf i).toNat)
      case atStart => exact ⟨0, Nat.zero_le _, rfl, HS.out, HB.out, HQ.out⟩
      case round =>
        obtain ⟨k2, hk2, rfl, hS, hb, hq⟩ := hrel
        clear HS
        have HS := Lib.hid hS
        have HB := Lib.hid hb
        have HQ := Lib.hid hq
        clear hS hb hq
        have d3 := HS.out.cs.c 3 (by simp)
        simp only [List.getElem_cons_succ, List.getElem_cons_zero] at d3
        by_cases hlt2 : k2 < m.heads.length
        · obtain ⟨gh, rfl⟩ := HS.out.hh (by omega)
          obtain ⟨g1, g2, g3⟩ := HS.out.rh gh rfl
          obtain ⟨y0, _, hx0⟩ := g3.has (k2 * 2) (by omega)
          obtain ⟨y1, _, hx1⟩ := g3.has (k2 * 2 + 1) (by omega)
          have hf0 := g3.free (k2 * 2) (by omega)
          have hf1 := g3.free (k2 * 2 + 1) (by omega)
          have i1 : (0 : Int) ≤ k2 := by omega
          have i2 : (k2 : Int) < m.heads.length := by omega
          have hcap := HS.out.hl
          clear g3
          go_wp2_with fail
          exact ⟨⟨k2 + 1, by omega, by go_num, (HS.out.setH (k2 * 2) _).setH (k2 * 2 + 1) _, (HB.out.setCell (p := ⟨gh, k2 * 2, none⟩) g1 _).setCell (p := ⟨gh, k2 * 2 + 1, none⟩) g1 _, (HQ.out.setA (k2 * 2) _).setA (k2 * 2 + 1) _⟩, by simp [intOf]; omega⟩
        · go_wp2_with fail
          exact bodyPost_end (results_none rfl _ _ _) rfl ⟨rfl, HB.out, HQ.out⟩
end Go.Proofs.YthniggdimfldhaaGreatDoor
namespace Go.Proofs.YthniggdimfldhaaGreatDoor
open Go Go.RowKit

set_option maxRecDepth 100000 in
theorem chunked_far (m : Msg) (hV : Value) (Ab : Option Addr) (cb : Nat) (sz : Int) (w : World) (h : MsgV w m hV Ab cb) (hG : Gl w) (hok : okM m = true) (hs : sz < 1 ∨ 4095 < sz) :
    Calls Tryz.prog 7 #[.agg #[.string ⟨m.meth.toArray⟩, .string ⟨m.path.toArray⟩, .int .i64 m.status, hV, .slice Ab m.body.length cb], .int .i64 sz] w fun e w' => e = .returned (.tuple #[.slice none 0 0, .int .i64 2]) ∧ Below w.heap.size w w' := by
  have hb := below_new w (.cells #[.string ⟨m.meth.toArray⟩, .string ⟨m.path.toArray⟩, .int .i64 m.status, hV, .slice Ab m.body.length cb] 25)
  have C1 := check_msg m hV Ab cb _ (h.hs.below hb) h.sm h.pl (hG.fresh hb)
  rw [hok, if_pos rfl] at C1
  have C1 := Lib.hid C1
  have CS := Lib.hid (box_cs w m.meth m.path m.status hV (.slice Ab m.body.length cb))
  have B1 := Lib.hid hb
  clear hb h hok
  generalize m.body.length = bl at *
  generalize m.meth = a at *
  generalize m.path = p at *
  generalize m.status = st at *
  go_enter Tryz.func7, Tryz.ntmps7
  go_upto_region 1 with fail
  generalize w.alloc (.cells #[.string ⟨a.toArray⟩, .string ⟨p.toArray⟩, .int .i64 st, hV, .slice Ab bl cb] 25) = w1 at *
  have d0 := CS.out.c 0 (by simp)
  have d1 := CS.out.c 1 (by simp)
  have d2 := CS.out.c 2 (by simp)
  have d3 := CS.out.c 3 (by simp)
  have d4 := CS.out.c 4 (by simp)
  go_wp2_with fail
  go_at_call 9
  refine C1.out.mono ?_
  rintro e w2 ⟨rfl, hb2⟩
  have B2 := Lib.hid (Below.and B1.out hb2)
  clear hb2 d0 d1 d2 d3 d4 C1 CS
  rcases hs with hs | hs
  · go_wp2_with fail
    go_ret2
    exact ⟨rfl, B2.out⟩
  · have hs1 : ¬ sz < 1 := by omega
    go_wp2_with fail
    go_ret2
    exact ⟨rfl, B2.out⟩
set_option maxRecDepth 100000 in
theorem chunked_farR (m : Msg) (hV : Value) (Ab : Option Addr) (cb : Nat) (sz : Int) (w : World) (h : MsgV w m hV Ab cb) (hok : okM m = true) (hs : sz < 1 ∨ 4095 < sz) :
    Calls Tryz.prog 8 #[.agg #[.string ⟨m.meth.toArray⟩, .string ⟨m.path.toArray⟩, .int .i64 m.status, hV, .slice Ab m.body.length cb], .int .i64 sz] w fun e w' => e = .returned (.tuple #[.slice none 0 0, .int .i64 2]) ∧ Below w.heap.size w w' := by
  have hb := below_new w (.cells #[.string ⟨m.meth.toArray⟩, .string ⟨m.path.toArray⟩, .int .i64 m.status, hV, .slice Ab m.body.length cb] 25)
  have C1 := check_ref5 m hV Ab cb _ (h.hs.below hb) h.sm h.pl
  rw [hok, if_pos rfl] at C1
  have C1 := Lib.hid C1
  have CS := Lib.hid (box_cs w m.meth m.path m.status hV (.slice Ab m.body.length cb))
  have B1 := Lib.hid hb
  clear hb h hok
  generalize m.body.length = bl at *
  generalize m.meth = a at *
  generalize m.path = p at *
  generalize m.status = st at *
  go_enter Tryz.func8, Tryz.ntmps8
  go_upto_region 1 with fail
  generalize w.alloc (.cells #[.string ⟨a.toArray⟩, .string ⟨p.toArray⟩, .int .i64 st, hV, .slice Ab bl cb] 25) = w1 at *
  have d0 := CS.out.c 0 (by simp)
  have d1 := CS.out.c 1 (by simp)
  have d2 := CS.out.c 2 (by simp)
  have d3 := CS.out.c 3 (by simp)
  have d4 := CS.out.c 4 (by simp)
  go_wp2_with fail
  go_at_call 10
  refine C1.out.mono ?_
  rintro e w2 ⟨rfl, hb2⟩
  have B2 := Lib.hid (Below.and B1.out hb2)
  clear hb2 d0 d1 d2 d3 d4 C1 CS
  rcases hs with hs | hs
  · go_wp2_with fail
    go_ret2
    exact ⟨rfl, B2.out⟩
  · have hs1 : ¬ sz < 1 := by omega
    go_wp2_with fail
    go_ret2
    exact ⟨rfl, B2.out⟩
/-- what a slice of bytes beside a number is -/
def ByC (l : List UInt8) (k : Int) (w : World) (e : Ending) (w' : World) : Prop := ∃ (A : Option Addr) (c : Nat), e = .returned (.tuple #[.slice A l.length c, .int .i64 k]) ∧ RowG w' w.heap.size A c l ∧ Below w.heap.size w w'
def byS (m : Msg) : List UInt8 := if okM m = true then encB m else []
def cdS (m : Msg) : Int := if okM m = true then 0 else 2
def inSz (sz : Int) : Prop := 1 ≤ sz ∧ sz ≤ 4095
instance (sz : Int) : Decidable (inSz sz) := by unfold inSz; infer_instance
def chS (m : Msg) (sz : Int) : List UInt8 := if okM m = true ∧ inSz sz ∧ (chunkB m sz.toNat).length ≤ 8192 then chunkB m sz.toNat else []
def chC (m : Msg) (sz : Int) : Int := if okM m = true ∧ inSz sz then (if (chunkB m sz.toNat).length ≤ 8192 then 0 else 5) else 2
theorem byC_nil {w w' : World} {k : Int} (hb : Below w.heap.size w w') : ByC [] k w (.returned (.tuple #[.slice none 0 0, .int .i64 k])) w' := ⟨none, 0, rfl, RowG.nil _ _, hb⟩
theorem bytes_c (m : Msg) (hV : Value) (Ab : Option Addr) (cb : Nat) (w : World) (h : MsgV w m hV Ab cb) (hG : Gl w) :
    Calls Tryz.prog 5 #[.agg #[.string ⟨m.meth.toArray⟩, .string ⟨m.path.toArray⟩, .int .i64 m.status, hV, .slice Ab m.body.length cb]] w (ByC (byS m) (cdS m) w) := by
  unfold byS cdS
  cases hok : okM m with
  | true => exact (bytes_ok m hV Ab cb w h hG hok).mono fun _ _ x => x
  | false => exact (bytes_no m hV Ab cb w h hG hok).mono fun e w' ⟨h1, h2⟩ => by subst h1; exact byC_nil h2
theorem bytes_cR (m : Msg) (hV : Value) (Ab : Option Addr) (cb : Nat) (w : World) (h : MsgV w m hV Ab cb) :
    Calls Tryz.prog 6 #[.agg #[.string ⟨m.meth.toArray⟩, .string ⟨m.path.toArray⟩, .int .i64 m.status, hV, .slice Ab m.body.length cb]] w (ByC (byS m) (cdS m) w) := by
  unfold byS cdS
  cases hok : okM m with
  | true => exact (bytes_ref5 m hV Ab cb w h hok).mono fun _ _ x => x
  | false => exact (bytes_noR m hV Ab cb w h hok).mono fun e w' ⟨h1, h2⟩ => by subst h1; exact byC_nil h2
theorem chunked_c (m : Msg) (hV : Value) (Ab : Option Addr) (cb : Nat) (sz : Int) (w : World) (h : MsgV w m hV Ab cb) (hG : Gl w) :
    Calls Tryz.prog 7 #[.agg #[.string ⟨m.meth.toArray⟩, .string ⟨m.path.toArray⟩, .int .i64 m.status, hV, .slice Ab m.body.length cb], .int .i64 sz] w (ByC (chS m sz) (chC m sz) w) := by
  unfold chS chC
  cases hok : okM m with
  | false =>
    rw [if_neg (by simp), if_neg (by simp)]
    exact (chunked_none m hV Ab cb sz w h hG hok).mono fun e w' ⟨h1, h2⟩ => by subst h1; exact byC_nil h2
  | true =>
    by_cases hz : inSz sz
    · obtain ⟨n, rfl⟩ : ∃ n : Nat, sz = n := ⟨sz.toNat, by have := hz.1; omega⟩
      have hz' := hz
      unfold inSz at hz'
      refine (chunked_ok m hV Ab cb n (by omega) (by omega) w h hG hok).mono fun e w' x => ?_
      rw [Int.toNat_natCast]
      obtain ⟨x1, x2⟩ := x
      by_cases hl : (chunkB m n).length ≤ 8192
      · rw [if_pos hl] at x2
        obtain ⟨A, c, x3, x4⟩ := x2
        rw [if_pos ⟨rfl, hz, hl⟩, if_pos ⟨rfl, hz⟩, if_pos hl]
        exact ⟨A, c, x3, x4, x1⟩
      · rw [if_neg hl] at x2
        subst x2
        rw [if_neg (fun y => hl y.2.2), if_pos ⟨rfl, hz⟩, if_neg hl]
        exact byC_nil x1
    · rw [if_neg (fun y => hz y.2.1), if_neg (fun y => hz y.2)]
      exact (chunked_far m hV Ab cb sz w h hG hok (by unfold inSz at hz; omega)).mono fun e w' ⟨h1, h2⟩ => by subst h1; exact byC_nil h2
theorem chunked_cR (m : Msg) (hV : Value) (Ab : Option Addr) (cb : Nat) (sz : Int) (w : World) (h : MsgV w m hV Ab cb) :
    Calls Tryz.prog 8 #[.agg #[.string ⟨m.meth.toArray⟩, .string ⟨m.path.toArray⟩, .int .i64 m.status, hV, .slice Ab m.body.length cb], .int .i64 sz] w (ByC (chS m sz) (chC m sz) w) := by
  unfold chS chC
  cases hok : okM m with
  | false =>
    rw [if_neg (by simp), if_neg (by simp)]
    exact (chunked_noneR m hV Ab cb sz w h hok).mono fun e w' ⟨h1, h2⟩ => by subst h1; exact byC_nil h2
  | true =>
    by_cases hz : inSz sz
    · obtain ⟨n, rfl⟩ : ∃ n : Nat, sz = n := ⟨sz.toNat, by have := hz.1; omega⟩
      have hz' := hz
      unfold inSz at hz'
      refine (chunked_ref m hV Ab cb n (by omega) (by omega) w h hok).mono fun e w' x => ?_
      rw [Int.toNat_natCast]
      unfold ChkdP at x
      obtain ⟨x1, x2⟩ := x
      by_cases hl : (chunkB m n).length ≤ 8192
      · rw [if_pos hl] at x2
        obtain ⟨A, c, x3, x4⟩ := x2
        rw [if_pos ⟨rfl, hz, hl⟩, if_pos ⟨rfl, hz⟩, if_pos hl]
        exact ⟨A, c, x3, x4, x1⟩
      · rw [if_neg hl] at x2
        subst x2
        rw [if_neg (fun y => hl y.2.2), if_pos ⟨rfl, hz⟩, if_neg hl]
        exact byC_nil x1
    · rw [if_neg (fun y => hz y.2.1), if_neg (fun y => hz y.2)]
      exact (chunked_farR m hV Ab cb sz w h hok (by unfold inSz at hz; omega)).mono fun e w' ⟨h1, h2⟩ => by subst h1; exact byC_nil h2
end Go.Proofs.YthniggdimfldhaaGreatDoor
