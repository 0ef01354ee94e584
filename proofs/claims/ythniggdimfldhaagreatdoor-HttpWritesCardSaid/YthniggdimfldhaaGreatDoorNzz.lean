/- HttpWrites. -/
import Derived.Test.YthniggdimfldhaaGreatDoorNzw
import Derived.Test.YthniggdimfldhaaGreatDoorNy
import Derived.Test.YthniggdimfldhaaGreatDoorNzq
import Derived.Deep.RegionLaw
namespace Go.Proofs.YthniggdimfldhaaGreatDoor
open Go Go.RowKit

/-- the two messages, boxed -/
structure TwoM (w wr : World) (m k : Msg) (Ah : Option Addr) (ch : Nat) (Ab : Option Addr) (cb : Nat) (Ak : Option Addr) (ck : Nat) (Bk : Option Addr) (dk : Nat) : Prop where
  xm : Cs wr w.heap.size [.string ⟨m.meth.toArray⟩, .string ⟨m.path.toArray⟩, .int .i64 m.status, .slice Ah m.heads.length ch, .slice Ab m.body.length cb]
  xk : Cs wr (w.heap.size + 1) [.string ⟨k.meth.toArray⟩, .string ⟨k.path.toArray⟩, .int .i64 k.status, .slice Ak k.heads.length ck, .slice Bk k.body.length dk]
  vm : MsgV wr m (.slice Ah m.heads.length ch) Ab cb
  vk : MsgV wr k (.slice Ak k.heads.length ck) Bk dk
  bl : Below w.heap.size w wr
theorem TwoM.below {w wr wr' : World} {m k : Msg} {Ah : Option Addr} {ch : Nat} {Ab : Option Addr} {cb : Nat} {Ak : Option Addr} {ck : Nat} {Bk : Option Addr} {dk : Nat} (h : TwoM w wr m k Ah ch Ab cb Ak ck Bk dk) (hb : Below wr.heap.size wr wr') : TwoM w wr' m k Ah ch Ab cb Ak ck Bk dk :=
  ⟨h.xm.below hb, h.xk.below hb, h.vm.below hb, h.vk.below hb, Below.and h.bl hb⟩
theorem heap5 (w : World) {g q : Nat} (hn : q ≠ g) (v0 v1 v2 v3 v4 : Value) : (((((w.setCell ⟨g, 0, none⟩ v0).setCell ⟨g, 1, none⟩ v1).setCell ⟨g, 2, none⟩ v2).setCell ⟨g, 3, none⟩ v3).setCell ⟨g, 4, none⟩ v4).heap[q]? = w.heap[q]? :=
  ((((Below.heap_setCell _ _ _ _ hn).trans (Below.heap_setCell _ _ _ _ hn)).trans (Below.heap_setCell _ _ _ _ hn)).trans (Below.heap_setCell _ _ _ _ hn)).trans (Below.heap_setCell _ _ _ _ hn)
theorem TwoM.stored {w w4 : World} {m k : Msg} {Ah : Option Addr} {ch : Nat} {Ab : Option Addr} {cb : Nat} {Ak : Option Addr} {ck : Nat} {Bk : Option Addr} {dk : Nat} {z0 z1 z2 z3 z4 y0 y1 y2 y3 y4 : Value} {B : Nat}
    (c1 : Cs w4 w.heap.size [z0, z1, z2, z3, z4]) (c2 : Cs w4 (w.heap.size + 1) [y0, y1, y2, y3, y4]) (b : Below w.heap.size w w4) (h1 : RowH w4 B Ah ch m.heads) (h2 : RowG w4 B Ab cb m.body) (h3 : RowH w4 B Ak ck k.heads) (h4 : RowG w4 B Bk dk k.body) (hB : w.heap.size + 2 ≤ B)
    (s1 : Sm m.heads) (s2 : m.path.length ≤ 1000000) (s3 : Sm k.heads) (s4 : k.path.length ≤ 1000000) :
    TwoM w ((((((((((w4.setCell ⟨w.heap.size, 0, none⟩ (.string ⟨m.meth.toArray⟩)).setCell ⟨w.heap.size, 1, none⟩ (.string ⟨m.path.toArray⟩)).setCell ⟨w.heap.size, 2, none⟩ (.int .i64 m.status)).setCell ⟨w.heap.size, 3, none⟩ (.slice Ah m.heads.length ch)).setCell ⟨w.heap.size, 4, none⟩ (.slice Ab m.body.length cb)).setCell ⟨w.heap.size + 1, 0, none⟩ (.string ⟨k.meth.toArray⟩)).setCell ⟨w.heap.size + 1, 1, none⟩ (.string ⟨k.path.toArray⟩)).setCell ⟨w.heap.size + 1, 2, none⟩ (.int .i64 k.status)).setCell ⟨w.heap.size + 1, 3, none⟩ (.slice Ak k.heads.length ck)).setCell ⟨w.heap.size + 1, 4, none⟩ (.slice Bk k.body.length dk))
      m k Ah ch Ab cb Ak ck Bk dk := by
  have n1 : w.heap.size ≠ w.heap.size + 1 := by omega
  refine ⟨(msg_set c1 _ _ _ _ _).keep (by simp [World.setCell]) (heap5 _ n1 _ _ _ _ _), msg_set (c2.keep (by simp [World.setCell]) (heap5 _ n1.symm _ _ _ _ _)) _ _ _ _ _, ⟨?_, s1, s2, ?_⟩, ⟨?_, s3, s4, ?_⟩, msg_set_below (msg_set_below b (Nat.le_refl _) _ _ _ _ _) (Nat.le_succ _) _ _ _ _ _⟩
  · exact ((h1.msgset (fun q e => by have := (h1.lt e).1; omega) _ _ _ _ _).msgset (fun q e => by have := (h1.lt e).1; omega) _ _ _ _ _).hs
  · exact ((h2.msgset (fun q e => by have := (h2.lt e).1; omega) _ _ _ _ _).msgset (fun q e => by have := (h2.lt e).1; omega) _ _ _ _ _).rb
  · exact ((h3.msgset (fun q e => by have := (h3.lt e).1; omega) _ _ _ _ _).msgset (fun q e => by have := (h3.lt e).1; omega) _ _ _ _ _).hs
  · exact ((h4.msgset (fun q e => by have := (h4.lt e).1; omega) _ _ _ _ _).msgset (fun q e => by have := (h4.lt e).1; omega) _ _ _ _ _).rb
theorem cutM_sm (m : Msg) : Sm (cutM m).heads ∧ (cutM m).path.length ≤ 80 ∧ (cutM m).meth.length ≤ 20 ∧ (cutM m).body.length ≤ 2100 :=
  ⟨cut5_sm m.heads, by show (m.path.take 80).length ≤ _; rw [List.length_take]; omega, by show (m.meth.take 20).length ≤ _; rw [List.length_take]; omega, by show (m.body.take 2100).length ≤ _; rw [List.length_take]; omega⟩
/-- two copies, boxed, of a message -/
structure Cop (w0 wx : World) (m : Msg) (g5 g6 : Nat) (A5 : Option Addr) (c5 : Nat) (A6 : Option Addr) (c6 : Nat) (A7 : Option Addr) (c7 : Nat) (A8 : Option Addr) (c8 : Nat) : Prop where
  bl : Below w0.heap.size w0 wx
  x5 : Cs wx g5 [.string ⟨m.meth.toArray⟩, .string ⟨m.path.toArray⟩, .int .i64 m.status, .slice A5 m.heads.length c5, .slice A6 m.body.length c6]
  x6 : Cs wx g6 [.string ⟨m.meth.toArray⟩, .string ⟨m.path.toArray⟩, .int .i64 m.status, .slice A7 m.heads.length c7, .slice A8 m.body.length c8]
  o5 : OwnM wx w0.heap.size m A5 c5 A6 c6
  o6 : OwnM wx w0.heap.size m A7 c7 A8 c8
  g6b : w0.heap.size ≤ g6
  sep : ∀ q, (A5 = some ⟨q, 0, none⟩ ∨ A6 = some ⟨q, 0, none⟩) → q ≠ g6 ∧ A7 ≠ some ⟨q, 0, none⟩ ∧ A8 ≠ some ⟨q, 0, none⟩
theorem Cop.below {w0 wx wy : World} {m : Msg} {g5 g6 : Nat} {A5 : Option Addr} {c5 : Nat} {A6 : Option Addr} {c6 : Nat} {A7 : Option Addr} {c7 : Nat} {A8 : Option Addr} {c8 : Nat} (h : Cop w0 wx m g5 g6 A5 c5 A6 c6 A7 c7 A8 c8) (hb : Below wx.heap.size wx wy) : Cop w0 wy m g5 g6 A5 c5 A6 c6 A7 c7 A8 c8 :=
  ⟨Below.and h.bl hb, h.x5.below hb, h.x6.below hb, h.o5.below hb, h.o6.below hb, h.g6b, h.sep⟩
theorem Cop.row {w0 wx : World} {m : Msg} {g5 g6 : Nat} {A5 : Option Addr} {c5 : Nat} {A6 : Option Addr} {c6 : Nat} {A7 : Option Addr} {c7 : Nat} {A8 : Option Addr} {c8 : Nat} (h : Cop w0 wx m g5 g6 A5 c5 A6 c6 A7 c7 A8 c8) (q : Nat) (e : A5 = some ⟨q, 0, none⟩ ∨ A6 = some ⟨q, 0, none⟩) : q < wx.heap.size := by
  rcases e with e | e
  · exact (h.o5.hs.lt e).2
  · exact (h.o5.rb.lt e).2
/-- what stands of the second copy when the first is spoilt -/
theorem Cop.spoilt {w0 wx wy : World} {m : Msg} {g5 g6 : Nat} {A5 : Option Addr} {c5 : Nat} {A6 : Option Addr} {c6 : Nat} {A7 : Option Addr} {c7 : Nat} {A8 : Option Addr} {c8 : Nat} (h : Cop w0 wx m g5 g6 A5 c5 A6 c6 A7 c7 A8 c8) (hk : KeptBut wx wy A5 A6) :
    Cs wy g6 [.string ⟨m.meth.toArray⟩, .string ⟨m.path.toArray⟩, .int .i64 m.status, .slice A7 m.heads.length c7, .slice A8 m.body.length c8] ∧ OwnM wy w0.heap.size m A7 c7 A8 c8 := by
  refine ⟨h.x6.keep hk.size (hk.block g6 h.x6.lt (fun e => (h.sep g6 (.inl e)).1 rfl) (fun e => (h.sep g6 (.inr e)).1 rfl)), ⟨h.o6.hs.keep hk.size fun g e => ?_, h.o6.rb.keep hk.size fun g e => ?_, h.o6.ne⟩⟩
  · exact hk.block g (h.o6.hs.lt e).2 (fun x => (h.sep g (.inl x)).2.1 e) (fun x => (h.sep g (.inr x)).2.1 e)
  · exact hk.block g (h.o6.rb.lt e).2 (fun x => (h.sep g (.inl x)).2.2 e) (fun x => (h.sep g (.inr x)).2.2 e)
theorem KeptBut.rowG {w w' : World} {A B C : Option Addr} {base c : Nat} {l : List UInt8} (hk : KeptBut w w' A B) (h : RowG w base C c l) (h1 : ∀ q, A = some ⟨q, 0, none⟩ ∨ B = some ⟨q, 0, none⟩ → q < base) : RowG w' base C c l :=
  h.keep hk.size fun g e => hk.block g (h.lt e).2 (fun x => by have := h1 g (.inl x); have := (h.lt e).1; omega) (fun x => by have := h1 g (.inr x); have := (h.lt e).1; omega)
theorem KeptBut.cs {w w' : World} {A B : Option Addr} {g : Nat} {l : List Value} (hk : KeptBut w w' A B) (h : Cs w g l) (h1 : ∀ q, A = some ⟨q, 0, none⟩ ∨ B = some ⟨q, 0, none⟩ → q < g) : Cs w' g l :=
  h.keep hk.size (hk.block g h.lt (fun x => by have := h1 g (.inl x); omega) (fun x => by have := h1 g (.inr x); omega))
theorem Cop.row2 {w0 wx : World} {m : Msg} {g5 g6 : Nat} {A5 : Option Addr} {c5 : Nat} {A6 : Option Addr} {c6 : Nat} {A7 : Option Addr} {c7 : Nat} {A8 : Option Addr} {c8 : Nat} (h : Cop w0 wx m g5 g6 A5 c5 A6 c6 A7 c7 A8 c8) (q : Nat) (e : A7 = some ⟨q, 0, none⟩ ∨ A8 = some ⟨q, 0, none⟩) : q < wx.heap.size := by
  rcases e with e | e
  · exact (h.o6.hs.lt e).2
  · exact (h.o6.rb.lt e).2
theorem KeptBut.cs2 {w w' : World} {A : Option Addr} {g : Nat} {l : List Value} (hk : KeptBut w w' A none) (h : Cs w g l) (h1 : ∀ q, A = some ⟨q, 0, none⟩ → q ≠ g) : Cs w' g l :=
  h.keep hk.size (hk.block g h.lt (fun x => h1 g x rfl) (fun x => by cases x))
theorem KeptBut.rowG2 {w w' : World} {A C : Option Addr} {base c : Nat} {l : List UInt8} (hk : KeptBut w w' A none) (h : RowG w base C c l) (h1 : ∀ q, A = some ⟨q, 0, none⟩ → C ≠ some ⟨q, 0, none⟩) : RowG w' base C c l :=
  h.keep hk.size fun g e => hk.block g (h.lt e).2 (fun x => h1 g x e) (fun x => by cases x)
theorem KeptBut.rowH2 {w w' : World} {A C : Option Addr} {base c : Nat} {l : List Hd} (hk : KeptBut w w' A none) (h : RowH w base C c l) (h1 : ∀ q, A = some ⟨q, 0, none⟩ → C ≠ some ⟨q, 0, none⟩) : RowH w' base C c l :=
  h.keep hk.size fun g e => hk.block g (h.lt e).2 (fun x => h1 g x e) (fun x => by cases x)
theorem Cs.zero (y : World) : Cs (y.alloc (.cells zero5 25)) y.heap.size [.string ⟨#[]⟩, .string ⟨#[]⟩, .int .i64 0, .slice none 0 0, .slice none 0 0] := Cs.new y [.string ⟨#[]⟩, .string ⟨#[]⟩, .int .i64 0, .slice none 0 0, .slice none 0 0] 25
theorem Cs.zero1 (y : World) : Cs ((y.alloc (.cells zero5 25)).alloc (.cells zero5 25)) (y.heap.size + 1) [.string ⟨#[]⟩, .string ⟨#[]⟩, .int .i64 0, .slice none 0 0, .slice none 0 0] := by
  have := Cs.zero (y.alloc (.cells zero5 25))
  rwa [show (y.alloc (.cells zero5 25)).heap.size = y.heap.size + 1 by simp] at this
theorem z_two {y y1 : World} (hb : Below ((y.alloc (.cells zero5 25)).alloc (.cells zero5 25)).heap.size ((y.alloc (.cells zero5 25)).alloc (.cells zero5 25)) y1) :
    Cs y1 y.heap.size [.string ⟨#[]⟩, .string ⟨#[]⟩, .int .i64 0, .slice none 0 0, .slice none 0 0] ∧ Cs y1 (y.heap.size + 1) [.string ⟨#[]⟩, .string ⟨#[]⟩, .int .i64 0, .slice none 0 0, .slice none 0 0] ∧ Below y.heap.size y y1 ∧ ((y.alloc (.cells zero5 25)).alloc (.cells zero5 25)).heap.size = y.heap.size + 2 :=
  ⟨((Cs.zero y).below (below_new _ _)).below hb, (Cs.zero1 y).below hb, Below.and (Below.and (below_new _ _) (below_new _ _)) hb, by simp⟩
theorem z_one {y y1 : World} (hb : Below (y.alloc (.cells zero5 25)).heap.size (y.alloc (.cells zero5 25)) y1) :
    Cs y1 y.heap.size [.string ⟨#[]⟩, .string ⟨#[]⟩, .int .i64 0, .slice none 0 0, .slice none 0 0] ∧ Below y.heap.size y y1 ∧ (y.alloc (.cells zero5 25)).heap.size = y.heap.size + 1 :=
  ⟨(Cs.zero y).below hb, Below.and (below_new _ _) hb, by simp⟩
theorem OwnM.lt2 {w : World} {base : Nat} {m : Msg} {Ah : Option Addr} {ch : Nat} {Ab : Option Addr} {cb : Nat} (h : OwnM w base m Ah ch Ab cb) (q : Nat) (e : Ah = some ⟨q, 0, none⟩ ∨ Ab = some ⟨q, 0, none⟩) : base ≤ q ∧ q < w.heap.size := by
  rcases e with e | e
  · exact h.hs.lt e
  · exact h.rb.lt e
theorem Cop.stored {w0 Y : World} {m : Msg} {ga gb : Nat} {A5 : Option Addr} {c5 : Nat} {A6 : Option Addr} {c6 : Nat} {A7 : Option Addr} {c7 : Nat} {A8 : Option Addr} {c8 b5 b6 : Nat} {z0 z1 z2 z3 z4 y0 y1 y2 y3 y4 : Value}
    (za : Cs Y ga [z0, z1, z2, z3, z4]) (zb : Cs Y gb [y0, y1, y2, y3, y4]) (hne : ga ≠ gb) (bl : Below w0.heap.size w0 Y) (o5 : OwnM Y b5 m A5 c5 A6 c6) (o6 : OwnM Y b6 m A7 c7 A8 c8) (hb5 : w0.heap.size ≤ b5) (hb6 : w0.heap.size ≤ b6) (ha : w0.heap.size ≤ ga) (hb : w0.heap.size ≤ gb)
    (s5 : ∀ q, (A5 = some ⟨q, 0, none⟩ ∨ A6 = some ⟨q, 0, none⟩) → q ≠ ga ∧ q ≠ gb ∧ q < b6) (s6 : ∀ q, (A7 = some ⟨q, 0, none⟩ ∨ A8 = some ⟨q, 0, none⟩) → q ≠ ga ∧ q ≠ gb) :
    Cop w0 ((((((((((Y.setCell ⟨ga, 0, none⟩ (.string ⟨m.meth.toArray⟩)).setCell ⟨ga, 1, none⟩ (.string ⟨m.path.toArray⟩)).setCell ⟨ga, 2, none⟩ (.int .i64 m.status)).setCell ⟨ga, 3, none⟩ (.slice A5 m.heads.length c5)).setCell ⟨ga, 4, none⟩ (.slice A6 m.body.length c6)).setCell ⟨gb, 0, none⟩ (.string ⟨m.meth.toArray⟩)).setCell ⟨gb, 1, none⟩ (.string ⟨m.path.toArray⟩)).setCell ⟨gb, 2, none⟩ (.int .i64 m.status)).setCell ⟨gb, 3, none⟩ (.slice A7 m.heads.length c7)).setCell ⟨gb, 4, none⟩ (.slice A8 m.body.length c8))
      m ga gb A5 c5 A6 c6 A7 c7 A8 c8 := by
  refine ⟨msg_set_below (msg_set_below bl ha _ _ _ _ _) hb _ _ _ _ _, (msg_set za _ _ _ _ _).keep (by simp [World.setCell]) (heap5 _ hne _ _ _ _ _), msg_set (zb.keep (by simp [World.setCell]) (heap5 _ hne.symm _ _ _ _ _)) _ _ _ _ _, ⟨?_, ?_, o5.ne⟩, ⟨?_, ?_, o6.ne⟩, hb, fun q e => ⟨(s5 q e).2.1, fun x => ?_, fun x => ?_⟩⟩
  · exact ((o5.hs.msgset (fun q e => (s5 q (.inl e)).1) _ _ _ _ _).msgset (fun q e => (s5 q (.inl e)).2.1) _ _ _ _ _).up hb5
  · exact ((o5.rb.msgset (fun q e => (s5 q (.inr e)).1) _ _ _ _ _).msgset (fun q e => (s5 q (.inr e)).2.1) _ _ _ _ _).up hb5
  · exact ((o6.hs.msgset (fun q e => (s6 q (.inl e)).1) _ _ _ _ _).msgset (fun q e => (s6 q (.inl e)).2) _ _ _ _ _).up hb6
  · exact ((o6.rb.msgset (fun q e => (s6 q (.inr e)).1) _ _ _ _ _).msgset (fun q e => (s6 q (.inr e)).2) _ _ _ _ _).up hb6
  · have := (o6.hs.lt x).1; have := (s5 q e).2.2; omega
  · have := (o6.rb.lt x).1; have := (s5 q e).2.2; omega
theorem bdrew {B : Nat} {a w : World} (h : Below B a w) : Below B a w.drew := below_drewN h 1
structure Kp2 (y W : World) (ga gb : Nat) : Prop where
  size : y.heap.size ≤ W.heap.size
  block : ∀ q, q < y.heap.size → q ≠ ga → q ≠ gb → W.heap[q]? = y.heap[q]?
theorem Kp2.refl (y : World) (ga gb : Nat) : Kp2 y y ga gb := ⟨Nat.le_refl _, fun _ _ _ _ => rfl⟩
theorem Kp2.alloc {y W : World} {ga gb : Nat} (h : Kp2 y W ga gb) (o : Obj) : Kp2 y (W.alloc o) ga gb :=
  ⟨Nat.le_trans h.size (below_new W o).size, fun q hq h1 h2 => ((below_new W o).block q (Nat.lt_of_lt_of_le hq h.size)).trans (h.block q hq h1 h2)⟩
theorem Kp2.setA {y W : World} {ga gb : Nat} (h : Kp2 y W ga gb) (k : Nat) (v : Value) : Kp2 y (W.setCell ⟨ga, k, none⟩ v) ga gb :=
  ⟨by simpa [World.setCell] using h.size, fun q hq h1 h2 => (Below.heap_setCell _ _ _ _ h1).trans (h.block q hq h1 h2)⟩
theorem Kp2.setB {y W : World} {ga gb : Nat} (h : Kp2 y W ga gb) (k : Nat) (v : Value) : Kp2 y (W.setCell ⟨gb, k, none⟩ v) ga gb :=
  ⟨by simpa [World.setCell] using h.size, fun q hq h1 h2 => (Below.heap_setCell _ _ _ _ h2).trans (h.block q hq h1 h2)⟩
theorem Cs.setO {w : World} {g q : Nat} {l : List Value} (h : Cs w g l) (hn : g ≠ q) {k : Nat} {v : Value} : Cs (w.setCell ⟨q, k, none⟩ v) g l := h.keep (by simp [World.setCell]) (Below.heap_setCell _ _ _ _ hn)
theorem Cs.allocO {w : World} {g : Nat} {l : List Value} {o : Obj} (h : Cs w g l) : Cs (w.alloc o) g l := h.below (below_new _ _)
theorem csn5 {w : World} {g : Nat} {a b c d e : Value} (h : g = w.heap.size) : Cs (w.alloc (.cells #[a, b, c, d, e] 25)) g [a, b, c, d, e] := by
  subst h
  exact Cs.new w [a, b, c, d, e] _
/-- two blocks of five cells, made or stored one behind the other: what each holds -/
theorem pairA1 {y : World} {o : Obj} {a b c d e : Value} : Cs ((y.alloc (.cells #[a, b, c, d, e] 25)).alloc o) y.heap.size [a, b, c, d, e] := (Cs.new y [a, b, c, d, e] _).allocO
theorem pairA2 {y : World} {o : Obj} {a b c d e : Value} : Cs ((y.alloc o).alloc (.cells #[a, b, c, d, e] 25)) (y.heap.size + 1) [a, b, c, d, e] := csn5 (by simp)
theorem pairB1 {y : World} {p : Nat} {o : Obj} {a b c d e z0 z1 z2 z3 z4 : Value} (h : Cs y p [z0, z1, z2, z3, z4]) :
    Cs ((((((y.setCell ⟨p, 0, none⟩ a).setCell ⟨p, 1, none⟩ b).setCell ⟨p, 2, none⟩ c).setCell ⟨p, 3, none⟩ d).setCell ⟨p, 4, none⟩ e).alloc o) p [a, b, c, d, e] := (msg_set h _ _ _ _ _).allocO
theorem pairB2 {y : World} {p : Nat} {a' b' c' d' e' a b c d e : Value} :
    Cs ((((((y.setCell ⟨p, 0, none⟩ a').setCell ⟨p, 1, none⟩ b').setCell ⟨p, 2, none⟩ c').setCell ⟨p, 3, none⟩ d').setCell ⟨p, 4, none⟩ e').alloc (.cells #[a, b, c, d, e] 25)) y.heap.size [a, b, c, d, e] := csn5 (by simp [World.setCell])
theorem pairC1 {y : World} {p q : Nat} {a' b' c' d' e' a b c d e z0 z1 z2 z3 z4 : Value} (h : Cs y p [z0, z1, z2, z3, z4]) (hn : p ≠ q) :
    Cs ((((((((((y.setCell ⟨p, 0, none⟩ a).setCell ⟨p, 1, none⟩ b).setCell ⟨p, 2, none⟩ c).setCell ⟨p, 3, none⟩ d).setCell ⟨p, 4, none⟩ e).setCell ⟨q, 0, none⟩ a').setCell ⟨q, 1, none⟩ b').setCell ⟨q, 2, none⟩ c').setCell ⟨q, 3, none⟩ d').setCell ⟨q, 4, none⟩ e') p [a, b, c, d, e] :=
  (msg_set h _ _ _ _ _).keep (by simp [World.setCell]) (heap5 _ hn _ _ _ _ _)
theorem pairC2 {y : World} {p q : Nat} {a' b' c' d' e' a b c d e z0 z1 z2 z3 z4 : Value} (h : Cs y q [z0, z1, z2, z3, z4]) (hn : q ≠ p) :
    Cs ((((((((((y.setCell ⟨p, 0, none⟩ a').setCell ⟨p, 1, none⟩ b').setCell ⟨p, 2, none⟩ c').setCell ⟨p, 3, none⟩ d').setCell ⟨p, 4, none⟩ e').setCell ⟨q, 0, none⟩ a).setCell ⟨q, 1, none⟩ b).setCell ⟨q, 2, none⟩ c).setCell ⟨q, 3, none⟩ d).setCell ⟨q, 4, none⟩ e) q [a, b, c, d, e] :=
  msg_set (h.keep (by simp [World.setCell]) (heap5 _ hn _ _ _ _ _)) _ _ _ _ _
theorem Cop.fin {w0 y2 W : World} {m : Msg} {ga gb : Nat} {A5 : Option Addr} {c5 : Nat} {A6 : Option Addr} {c6 : Nat} {A7 : Option Addr} {c7 : Nat} {A8 : Option Addr} {c8 b5 b6 : Nat} (o5 : OwnM y2 b5 m A5 c5 A6 c6) (o6 : OwnM y2 b6 m A7 c7 A8 c8)
    (x5 : Cs W ga [.string ⟨m.meth.toArray⟩, .string ⟨m.path.toArray⟩, .int .i64 m.status, .slice A5 m.heads.length c5, .slice A6 m.body.length c6])
    (x6 : Cs W gb [.string ⟨m.meth.toArray⟩, .string ⟨m.path.toArray⟩, .int .i64 m.status, .slice A7 m.heads.length c7, .slice A8 m.body.length c8]) (bl : Below w0.heap.size w0 W) (kp : Kp2 y2 W ga gb)
    (hb5 : w0.heap.size ≤ b5) (hb6 : w0.heap.size ≤ b6) (hb : w0.heap.size ≤ gb)
    (s5 : ∀ q, (A5 = some ⟨q, 0, none⟩ ∨ A6 = some ⟨q, 0, none⟩) → q ≠ ga ∧ q ≠ gb ∧ q < b6) (s6 : ∀ q, (A7 = some ⟨q, 0, none⟩ ∨ A8 = some ⟨q, 0, none⟩) → q ≠ ga ∧ q ≠ gb) :
    Cop w0 W m ga gb A5 c5 A6 c6 A7 c7 A8 c8 := by
  refine ⟨bl, x5, x6, ⟨?_, ?_, o5.ne⟩, ⟨?_, ?_, o6.ne⟩, hb, fun q e => ⟨(s5 q e).2.1, fun x => ?_, fun x => ?_⟩⟩
  · exact (o5.hs.keep kp.size fun g e => kp.block g (o5.hs.lt e).2 (s5 g (.inl e)).1 (s5 g (.inl e)).2.1).up hb5
  · exact (o5.rb.keep kp.size fun g e => kp.block g (o5.rb.lt e).2 (s5 g (.inr e)).1 (s5 g (.inr e)).2.1).up hb5
  · exact (o6.hs.keep kp.size fun g e => kp.block g (o6.hs.lt e).2 (s6 g (.inl e)).1 (s6 g (.inl e)).2).up hb6
  · exact (o6.rb.keep kp.size fun g e => kp.block g (o6.rb.lt e).2 (s6 g (.inr e)).1 (s6 g (.inr e)).2).up hb6
  · have := (o6.hs.lt x).1; have := (s5 q e).2.2; omega
  · have := (o6.rb.lt x).1; have := (s5 q e).2.2; omega
def ansM (n : Int) (x : List UInt8) : Msg := ⟨[], [], stA n, [], x⟩
set_option maxRecDepth 100000 in
set_option maxHeartbeats 2000000 in
theorem writes_any (m k : Msg) (Ah : Option Addr) (ch : Nat) (Ab : Option Addr) (cb : Nat) (Ak : Option Addr) (ck : Nat) (Bk : Option Addr) (dk : Nat) (n : Int) (w : World) (rm : RawM w m Ah ch Ab cb) (rk : RawM w k Ak ck Bk dk) (hG : Gl w) :
    Calls Tryz.prog 3 #[.agg #[.string ⟨m.meth.toArray⟩, .string ⟨m.path.toArray⟩, .int .i64 m.status, .slice Ah m.heads.length ch, .slice Ab m.body.length cb], .agg #[.string ⟨k.meth.toArray⟩, .string ⟨k.path.toArray⟩, .int .i64 k.status, .slice Ak k.heads.length ck, .slice Bk k.body.length dk], .int .i64 n] w fun e w' => e = .returned (.bool true) ∧ Below w.heap.size w w' := by
  have hb1 := below_new w (.cells #[.string ⟨m.meth.toArray⟩, .string ⟨m.path.toArray⟩, .int .i64 m.status, .slice Ah m.heads.length ch, .slice Ab m.body.length cb] 25)
  have hb2 := below_new (w.alloc (.cells #[.string ⟨m.meth.toArray⟩, .string ⟨m.path.toArray⟩, .int .i64 m.status, .slice Ah m.heads.length ch, .slice Ab m.body.length cb] 25)) (.cells #[.string ⟨k.meth.toArray⟩, .string ⟨k.path.toArray⟩, .int .i64 k.status, .slice Ak k.heads.length ck, .slice Bk k.body.length dk] 25)
  have CM := Lib.hid ((box_cs w m.meth m.path m.status (.slice Ah m.heads.length ch) (.slice Ab m.body.length cb)).below hb2)
  have CK := box_cs (w.alloc (.cells #[.string ⟨m.meth.toArray⟩, .string ⟨m.path.toArray⟩, .int .i64 m.status, .slice Ah m.heads.length ch, .slice Ab m.body.length cb] 25)) k.meth k.path k.status (.slice Ak k.heads.length ck) (.slice Bk k.body.length dk)
  have hs : (w.alloc (.cells #[.string ⟨m.meth.toArray⟩, .string ⟨m.path.toArray⟩, .int .i64 m.status, .slice Ah m.heads.length ch, .slice Ab m.body.length cb] 25)).heap.size = w.heap.size + 1 := by simp
  rw [hs] at CK
  have CK := Lib.hid CK
  have B2 := Lib.hid (Below.and hb1 hb2)
  have RM := Lib.hid (rm.below B2.out)
  have RK := Lib.hid (rk.below B2.out)
  have HG : Hid (∀ wy, Below w.heap.size w wy → Gl wy) := Lib.hid fun wy hb => hG.fresh hb
  clear hb1 hb2 hs rm rk hG
  go_enter Tryz.func3, Tryz.ntmps3
  go_upto_region 1 with fail
  generalize (w.alloc (.cells #[.string ⟨m.meth.toArray⟩, .string ⟨m.path.toArray⟩, .int .i64 m.status, .slice Ah m.heads.length ch, .slice Ab m.body.length cb] 25)).alloc (.cells #[.string ⟨k.meth.toArray⟩, .string ⟨k.path.toArray⟩, .int .i64 k.status, .slice Ak k.heads.length ck, .slice Bk k.body.length dk] 25) = w2 at *
  have CCM : Hid (∀ wy, Below w2.heap.size w2 wy → Calls Tryz.prog 4 #[.agg #[.string ⟨m.meth.toArray⟩, .string ⟨m.path.toArray⟩, .int .i64 m.status, .slice Ah m.heads.length ch, .slice Ab m.body.length cb]] wy (CutP (cutM m) wy)) := Lib.hid fun wy hb => cut5_any m Ah ch Ab cb wy (RM.out.below hb)
  have CCK : Hid (∀ wy, Below w2.heap.size w2 wy → Calls Tryz.prog 4 #[.agg #[.string ⟨k.meth.toArray⟩, .string ⟨k.path.toArray⟩, .int .i64 k.status, .slice Ak k.heads.length ck, .slice Bk k.body.length dk]] wy (CutP (cutM k) wy)) := Lib.hid fun wy hb => cut5_any k Ak ck Bk dk wy (RK.out.below hb)
  have SM := Lib.hid (cutM_sm m)
  have SK := Lib.hid (cutM_sm k)
  generalize cutM m = m' at *
  generalize cutM k = k' at *
  clear RM RK
  go_cut [] from 20 to 23 (fun wx => ∃ (A1 : Option Addr) (c1 : Nat) (A2 : Option Addr) (c2 : Nat) (A3 : Option Addr) (c3 : Nat) (A4 : Option Addr) (c4 : Nat), TwoM w wx m' k' A1 c1 A2 c2 A3 c3 A4 c4)
  case first =>
    have HL2 : Hid (w.heap.size + 2 ≤ w2.heap.size) := CK.out.lt
    have CM2 : Hid (Cs w2.drew w.heap.size [.string ⟨m.meth.toArray⟩, .string ⟨m.path.toArray⟩, .int .i64 m.status, .slice Ah m.heads.length ch, .slice Ab m.body.length cb]) := CM.out.keep (Nat.le_refl _) rfl
    have CK2 : Hid (Cs w2.drew (w.heap.size + 1) [.string ⟨k.meth.toArray⟩, .string ⟨k.path.toArray⟩, .int .i64 k.status, .slice Ak k.heads.length ck, .slice Bk k.body.length dk]) := CK.out.keep (Nat.le_refl _) rfl
    have D2 : Hid (Below w2.heap.size w2 w2.drew) := below_drewN (Below.refl _ _) 1
    have d0 := CM2.out.c 0 (by simp)
    have d1 := CM2.out.c 1 (by simp)
    have d2 := CM2.out.c 2 (by simp)
    have d3 := CM2.out.c 3 (by simp)
    have d4 := CM2.out.c 4 (by simp)
    have e0 := CK2.out.c 0 (by simp)
    have e1 := CK2.out.c 1 (by simp)
    have e2 := CK2.out.c 2 (by simp)
    have e3 := CK2.out.c 3 (by simp)
    have e4 := CK2.out.c 4 (by simp)
    simp only [List.getElem_cons_succ, List.getElem_cons_zero] at d0 d1 d2 d3 d4 e0 e1 e2 e3 e4
    go_region_law (first
      | (have hq1 := R1; clear hq1; go_simp; go_at_call 4; refine (CCK.out _ HB3.out).mono ?_; rintro e w4 ⟨A3, c3, A4, c4, rfl, hr3, hr4, hb4⟩; have R3 := Lib.hid (hr3.up HB3.out.size); have R4 := Lib.hid (hr4.up HB3.out.size); have R1b := Lib.hid (R1.out.below hb4); have R2b := Lib.hid (R2.out.below hb4); have HB4 := Lib.hid (Below.and HB3.out hb4); have CK4 := Lib.hid (CK.out.below HB4.out); have CM4 := Lib.hid (CM.out.below HB4.out); clear e0 e1 e2 e3 e4 hr3 hr4 hb4; have d0 := CM4.out.c 0 (by simp); have d1 := CM4.out.c 1 (by simp); have d2 := CM4.out.c 2 (by simp); have d3 := CM4.out.c 3 (by simp); have d4 := CM4.out.c 4 (by simp); have g0 := CM4.out.free 0 (by simp); have g1 := CM4.out.free 1 (by simp); have g2 := CM4.out.free 2 (by simp); have g3 := CM4.out.free 3 (by simp); have g4 := CM4.out.free 4 (by simp); have e0 := CK4.out.c 0 (by simp); have e1 := CK4.out.c 1 (by simp); have e2 := CK4.out.c 2 (by simp); have e3 := CK4.out.c 3 (by simp); have e4 := CK4.out.c 4 (by simp); have h0 := CK4.out.free 0 (by simp); have h1 := CK4.out.free 1 (by simp); have h2 := CK4.out.free 2 (by simp); have h3 := CK4.out.free 3 (by simp); have h4 := CK4.out.free 4 (by simp); simp only [List.getElem_cons_succ, List.getElem_cons_zero] at d0 d1 d2 d3 d4 e0 e1 e2 e3 e4; dsimp only)
      | (go_simp; go_at_call 4; refine (CCM.out _ D2.out).mono ?_; rintro e w3 ⟨A1, c1, A2, c2, rfl, hr1, hr2, hb3⟩; have R1 := Lib.hid hr1; have R2 := Lib.hid hr2; have HB3 := Lib.hid (Below.and D2.out hb3); have CK3 := Lib.hid (CK.out.below HB3.out); clear d0 d1 d2 d3 d4 e0 e1 e2 e3 e4 hr1 hr2 hb3; have e0 := CK3.out.c 0 (by simp); have e1 := CK3.out.c 1 (by simp); have e2 := CK3.out.c 2 (by simp); have e3 := CK3.out.c 3 (by simp); have e4 := CK3.out.c 4 (by simp); simp only [List.getElem_cons_succ, List.getElem_cons_zero] at e0 e1 e2 e3 e4; dsimp only))
    all_goals
      go_wp2_with fail
      go_meet
      case rel => exact ⟨A1, c1, A2, c2, A3, c3, A4, c4, TwoM.stored CM4.out CK4.out (Below.and B2.out HB4.out) R1b.out R2b.out R3.out R4.out HL2.out SM.out.1 (by have := SM.out.2.1; omega) SK.out.1 (by have := SK.out.2.1; omega)⟩
  case rest =>
    obtain ⟨A1, c1, A2, c2, A3, c3, A4, c4, hT⟩ := hcut
    generalize wc = w5 at *
    have HT5 := Lib.hid hT
    clear hT CM CK B2 CCM CCK
    have d0 := HT5.out.xm.c 0 (by simp)
    have d1 := HT5.out.xm.c 1 (by simp)
    have d2 := HT5.out.xm.c 2 (by simp)
    have d3 := HT5.out.xm.c 3 (by simp)
    have d4 := HT5.out.xm.c 4 (by simp)
    have e0 := HT5.out.xk.c 0 (by simp)
    have e1 := HT5.out.xk.c 1 (by simp)
    have e2 := HT5.out.xk.c 2 (by simp)
    have e3 := HT5.out.xk.c 3 (by simp)
    have e4 := HT5.out.xk.c 4 (by simp)
    simp only [List.getElem_cons_succ, List.getElem_cons_zero] at d0 d1 d2 d3 d4 e0 e1 e2 e3 e4
    go_wp2_with fail
    go_at_call 5
    refine (bytes_c m' _ A2 c2 _ HT5.out.vm (HG.out _ HT5.out.bl)).mono ?_
    rintro e w6 ⟨P0, q0, rfl, hr, hb⟩
    have HT6 := Lib.hid (HT5.out.below hb)
    have Ra6 := Lib.hid (hr.up (base' := 0) (Nat.zero_le _))
    clear hr hb HT5 
    clear d0 d1 d2 d3 d4 e0 e1 e2 e3 e4
    have d0 := HT6.out.xm.c 0 (by simp)
    have d1 := HT6.out.xm.c 1 (by simp)
    have d2 := HT6.out.xm.c 2 (by simp)
    have d3 := HT6.out.xm.c 3 (by simp)
    have d4 := HT6.out.xm.c 4 (by simp)
    have e0 := HT6.out.xk.c 0 (by simp)
    have e1 := HT6.out.xk.c 1 (by simp)
    have e2 := HT6.out.xk.c 2 (by simp)
    have e3 := HT6.out.xk.c 3 (by simp)
    have e4 := HT6.out.xk.c 4 (by simp)
    simp only [List.getElem_cons_succ, List.getElem_cons_zero] at d0 d1 d2 d3 d4 e0 e1 e2 e3 e4
    go_wp2_with fail
    go_at_call 6
    refine (bytes_cR m' _ A2 c2 _ HT6.out.vm).mono ?_
    rintro e w7 ⟨P1, q1, rfl, hr, hb⟩
    have HT7 := Lib.hid (HT6.out.below hb)
    have Ra7 := Lib.hid (Ra6.out.below hb)
    have Rb_7 := Lib.hid (hr.up (base' := 0) (Nat.zero_le _))
    clear hr hb HT6 Ra6
    clear d0 d1 d2 d3 d4 e0 e1 e2 e3 e4
    have d0 := HT7.out.xm.c 0 (by simp)
    have d1 := HT7.out.xm.c 1 (by simp)
    have d2 := HT7.out.xm.c 2 (by simp)
    have d3 := HT7.out.xm.c 3 (by simp)
    have d4 := HT7.out.xm.c 4 (by simp)
    have e0 := HT7.out.xk.c 0 (by simp)
    have e1 := HT7.out.xk.c 1 (by simp)
    have e2 := HT7.out.xk.c 2 (by simp)
    have e3 := HT7.out.xk.c 3 (by simp)
    have e4 := HT7.out.xk.c 4 (by simp)
    simp only [List.getElem_cons_succ, List.getElem_cons_zero] at d0 d1 d2 d3 d4 e0 e1 e2 e3 e4
    go_wp2_with fail
    go_at_call 7
    refine (chunked_c m' _ A2 c2 n _ HT7.out.vm (HG.out _ HT7.out.bl)).mono ?_
    rintro e w8 ⟨P2, q2, rfl, hr, hb⟩
    have HT8 := Lib.hid (HT7.out.below hb)
    have Ra8 := Lib.hid (Ra7.out.below hb)
    have Rb_8 := Lib.hid (Rb_7.out.below hb)
    have Rx8 := Lib.hid (hr.up (base' := 0) (Nat.zero_le _))
    clear hr hb HT7 Ra7 Rb_7
    clear d0 d1 d2 d3 d4 e0 e1 e2 e3 e4
    have d0 := HT8.out.xm.c 0 (by simp)
    have d1 := HT8.out.xm.c 1 (by simp)
    have d2 := HT8.out.xm.c 2 (by simp)
    have d3 := HT8.out.xm.c 3 (by simp)
    have d4 := HT8.out.xm.c 4 (by simp)
    have e0 := HT8.out.xk.c 0 (by simp)
    have e1 := HT8.out.xk.c 1 (by simp)
    have e2 := HT8.out.xk.c 2 (by simp)
    have e3 := HT8.out.xk.c 3 (by simp)
    have e4 := HT8.out.xk.c 4 (by simp)
    simp only [List.getElem_cons_succ, List.getElem_cons_zero] at d0 d1 d2 d3 d4 e0 e1 e2 e3 e4
    go_wp2_with fail
    go_at_call 8
    refine (chunked_cR m' _ A2 c2 n _ HT8.out.vm).mono ?_
    rintro e w9 ⟨P3, q3, rfl, hr, hb⟩
    have HT9 := Lib.hid (HT8.out.below hb)
    have Ra9 := Lib.hid (Ra8.out.below hb)
    have Rb_9 := Lib.hid (Rb_8.out.below hb)
    have Rx9 := Lib.hid (Rx8.out.below hb)
    have Ry9 := Lib.hid (hr.up (base' := 0) (Nat.zero_le _))
    clear hr hb HT8 Ra8 Rb_8 Rx8
    clear d0 d1 d2 d3 d4 e0 e1 e2 e3 e4
    have d0 := HT9.out.xm.c 0 (by simp)
    have d1 := HT9.out.xm.c 1 (by simp)
    have d2 := HT9.out.xm.c 2 (by simp)
    have d3 := HT9.out.xm.c 3 (by simp)
    have d4 := HT9.out.xm.c 4 (by simp)
    have e0 := HT9.out.xk.c 0 (by simp)
    have e1 := HT9.out.xk.c 1 (by simp)
    have e2 := HT9.out.xk.c 2 (by simp)
    have e3 := HT9.out.xk.c 3 (by simp)
    have e4 := HT9.out.xk.c 4 (by simp)
    simp only [List.getElem_cons_succ, List.getElem_cons_zero] at d0 d1 d2 d3 d4 e0 e1 e2 e3 e4
    have HT9d : Hid (TwoM w w9.drew m' k' A1 c1 A2 c2 A3 c3 A4 c4) := HT9.out.below (below_drewN (Below.refl _ _) 1)
    have K13 : Hid (∀ wy, Below w9.drew.heap.size w9.drew wy → Calls Tryz.prog 9 #[.agg #[.string ⟨m'.meth.toArray⟩, .string ⟨m'.path.toArray⟩, .int .i64 m'.status, .slice A1 m'.heads.length c1, .slice A2 m'.body.length c2]] wy fun e w' => e = .returned (.int .i64 (if okM m' = true then 0 else 2)) ∧ Below wy.heap.size wy w') := Lib.hid fun wy hb => (check_msg m' _ A2 c2 wy (HT9d.out.below hb).vm.hs SM.out.1 (by have := SM.out.2.1; omega) (HG.out _ (HT9d.out.below hb).bl))
    have K14 : Hid (∀ wy, Below w9.drew.heap.size w9.drew wy → Calls Tryz.prog 10 #[.agg #[.string ⟨m'.meth.toArray⟩, .string ⟨m'.path.toArray⟩, .int .i64 m'.status, .slice A1 m'.heads.length c1, .slice A2 m'.body.length c2]] wy fun e w' => e = .returned (.int .i64 (if okM m' = true then 0 else 2)) ∧ Below wy.heap.size wy w') := Lib.hid fun wy hb => (check_ref5 m' _ A2 c2 wy (HT9d.out.below hb).vm.hs SM.out.1 (by have := SM.out.2.1; omega))
    have K15 : Hid (∀ wy, Below w9.drew.heap.size w9.drew wy → Calls Tryz.prog 11 #[.slice P0 (byS m').length q0, .slice P1 (byS m').length q1] wy fun e w' => e = .returned (.bool true) ∧ w' = wy) := Lib.hid fun wy hb => (eqBytes_rb ((Ra9.out.below (w' := w9.drew) (below_drewN (Below.refl _ _) 1)).below hb).rb ((Rb_9.out.below (w' := w9.drew) (below_drewN (Below.refl _ _) 1)).below hb).rb).mono fun e w' ⟨x1, x2⟩ => ⟨by rw [x1, beq_self_eq_true], x2⟩
    have K15b : Hid (∀ wy, Below w9.drew.heap.size w9.drew wy → Calls Tryz.prog 11 #[.slice P2 (chS m' n).length q2, .slice P3 (chS m' n).length q3] wy fun e w' => e = .returned (.bool true) ∧ w' = wy) := Lib.hid fun wy hb => (eqBytes_rb ((Rx9.out.below (w' := w9.drew) (below_drewN (Below.refl _ _) 1)).below hb).rb ((Ry9.out.below (w' := w9.drew) (below_drewN (Below.refl _ _) 1)).below hb).rb).mono fun e w' ⟨x1, x2⟩ => ⟨by rw [x1, beq_self_eq_true], x2⟩
    have K16 : Hid (∀ wy, Below w9.drew.heap.size w9.drew wy → Calls Tryz.prog 12 #[.agg #[.string ⟨m'.meth.toArray⟩, .string ⟨m'.path.toArray⟩, .int .i64 m'.status, .slice A1 m'.heads.length c1, .slice A2 m'.body.length c2], .agg #[.string ⟨k'.meth.toArray⟩, .string ⟨k'.path.toArray⟩, .int .i64 k'.status, .slice A3 k'.heads.length c3, .slice A4 k'.body.length c4]] wy fun e w' => e = .returned (.bool (eqM m' k')) ∧ Below wy.heap.size wy w') := Lib.hid fun wy hb => same_all m' k' _ _ A2 A4 c2 c4 wy (HT9d.out.below hb).vm (HT9d.out.below hb).vk
    have K17 : Hid (∀ wy, Below w9.drew.heap.size w9.drew wy → Calls Tryz.prog 13 #[.agg #[.string ⟨m'.meth.toArray⟩, .string ⟨m'.path.toArray⟩, .int .i64 m'.status, .slice A1 m'.heads.length c1, .slice A2 m'.body.length c2], .agg #[.string ⟨k'.meth.toArray⟩, .string ⟨k'.path.toArray⟩, .int .i64 k'.status, .slice A3 k'.heads.length c3, .slice A4 k'.body.length c4]] wy fun e w' => e = .returned (.bool (eqM m' k')) ∧ Below wy.heap.size wy w') := Lib.hid fun wy hb => same_allR m' k' _ _ A2 A4 c2 c4 wy (HT9d.out.below hb).vm (HT9d.out.below hb).vk
    have K18 : Hid (∀ (i : Int) wy, Calls Tryz.prog 14 #[.int .i64 i] wy fun e w' => e = .returned (.string ⟨(wordOf i).toArray⟩) ∧ wy = w') := Lib.hid word_any
    have K19 : Hid (∀ (i : Int) wy, Calls Tryz.prog 15 #[.int .i64 i] wy fun e w' => e = .returned (.string ⟨(wordOf i).toArray⟩) ∧ wy = w') := Lib.hid word_ref
    have SD : Hid (∀ wy, Below w9.drew.heap.size w9.drew wy → wy.cell? ⟨w.heap.size, 0, none⟩ = some (.string ⟨m'.meth.toArray⟩) ∧ wy.cell? ⟨w.heap.size, 1, none⟩ = some (.string ⟨m'.path.toArray⟩) ∧ wy.cell? ⟨w.heap.size, 2, none⟩ = some (.int .i64 m'.status) ∧ wy.cell? ⟨w.heap.size, 3, none⟩ = some (.slice A1 m'.heads.length c1) ∧ wy.cell? ⟨w.heap.size, 4, none⟩ = some (.slice A2 m'.body.length c2) ∧ wy.cell? ⟨w.heap.size + 1, 0, none⟩ = some (.string ⟨k'.meth.toArray⟩) ∧ wy.cell? ⟨w.heap.size + 1, 1, none⟩ = some (.string ⟨k'.path.toArray⟩) ∧ wy.cell? ⟨w.heap.size + 1, 2, none⟩ = some (.int .i64 k'.status) ∧ wy.cell? ⟨w.heap.size + 1, 3, none⟩ = some (.slice A3 k'.heads.length c3) ∧ wy.cell? ⟨w.heap.size + 1, 4, none⟩ = some (.slice A4 k'.body.length c4)) := Lib.hid fun wy hb =>
      ⟨(HT9d.out.below hb).xm.c 0 (by simp), (HT9d.out.below hb).xm.c 1 (by simp), (HT9d.out.below hb).xm.c 2 (by simp), (HT9d.out.below hb).xm.c 3 (by simp), (HT9d.out.below hb).xm.c 4 (by simp), (HT9d.out.below hb).xk.c 0 (by simp), (HT9d.out.below hb).xk.c 1 (by simp), (HT9d.out.below hb).xk.c 2 (by simp), (HT9d.out.below hb).xk.c 3 (by simp), (HT9d.out.below hb).xk.c 4 (by simp)⟩
    have HD : Hid (w9.drew.cell? ⟨w.heap.size, 0, none⟩ = some (.string ⟨m'.meth.toArray⟩) ∧ w9.drew.cell? ⟨w.heap.size, 1, none⟩ = some (.string ⟨m'.path.toArray⟩) ∧ w9.drew.cell? ⟨w.heap.size, 2, none⟩ = some (.int .i64 m'.status) ∧ w9.drew.cell? ⟨w.heap.size, 3, none⟩ = some (.slice A1 m'.heads.length c1) ∧ w9.drew.cell? ⟨w.heap.size, 4, none⟩ = some (.slice A2 m'.body.length c2) ∧ w9.drew.cell? ⟨w.heap.size + 1, 0, none⟩ = some (.string ⟨k'.meth.toArray⟩) ∧ w9.drew.cell? ⟨w.heap.size + 1, 1, none⟩ = some (.string ⟨k'.path.toArray⟩) ∧ w9.drew.cell? ⟨w.heap.size + 1, 2, none⟩ = some (.int .i64 k'.status) ∧ w9.drew.cell? ⟨w.heap.size + 1, 3, none⟩ = some (.slice A3 k'.heads.length c3) ∧ w9.drew.cell? ⟨w.heap.size + 1, 4, none⟩ = some (.slice A4 k'.body.length c4)) := Lib.hid (SD.out _ (Below.refl _ _))
    generalize okM m' = ok at *
    generalize byS m' = by1 at *
    generalize chS m' n = ch1 at *
    generalize cdS m' = cd1 at *
    generalize chC m' n = cc1 at *
    generalize hoi : (if ok = true then (0 : Int) else 2) = oi at *
    generalize eqM m' k' = qe at *
    clear hoi
    go_upto_region 6 with fail
    go_cut [97] from 46 to 97 (fun u wx => u = .bool false ∧ TwoM w wx m' k' A1 c1 A2 c2 A3 c3 A4 c4)
    case first =>
      go_region_held3 (fun wy => wy.cell? ⟨w.heap.size, 0, none⟩ = some (.string ⟨m'.meth.toArray⟩) ∧ wy.cell? ⟨w.heap.size, 1, none⟩ = some (.string ⟨m'.path.toArray⟩) ∧ wy.cell? ⟨w.heap.size, 2, none⟩ = some (.int .i64 m'.status) ∧ wy.cell? ⟨w.heap.size, 3, none⟩ = some (.slice A1 m'.heads.length c1) ∧ wy.cell? ⟨w.heap.size, 4, none⟩ = some (.slice A2 m'.body.length c2) ∧ wy.cell? ⟨w.heap.size + 1, 0, none⟩ = some (.string ⟨k'.meth.toArray⟩) ∧ wy.cell? ⟨w.heap.size + 1, 1, none⟩ = some (.string ⟨k'.path.toArray⟩) ∧ wy.cell? ⟨w.heap.size + 1, 2, none⟩ = some (.int .i64 k'.status) ∧ wy.cell? ⟨w.heap.size + 1, 3, none⟩ = some (.slice A3 k'.heads.length c3) ∧ wy.cell? ⟨w.heap.size + 1, 4, none⟩ = some (.slice A4 k'.body.length c4))
        (first | exact HD.out | exact HE.out)
        ((first
          | (go_at_call 9; refine (K13.out _ (Below.refl _ _)).mono ?_; rintro e x1 ⟨rfl, hb⟩; have B13 := Lib.hid hb; have HE := Lib.hid (SD.out _ B13.out); clear hb)
          | (go_at_call 10; refine (K14.out _ B13.out).mono ?_; rintro e x2 ⟨rfl, hb⟩; have B14 := Lib.hid (Below.and B13.out hb); have HE := Lib.hid (SD.out _ B14.out); clear hb)
          | (go_at_call 11; have hq1 := B15; clear hq1; refine (K15b.out _ B14.out).mono ?_; rintro e x3 ⟨rfl, rfl⟩)
          | (go_at_call 11; refine (K15.out _ B14.out).mono ?_; rintro e x3 ⟨rfl, rfl⟩; have B15 := Lib.hid B14.out)
          | (go_at_call 12; refine (K16.out _ B14.out).mono ?_; rintro e x4 ⟨rfl, hb⟩; have B16 := Lib.hid (Below.and B14.out hb); have HE := Lib.hid (SD.out _ B16.out); clear hb)
          | (go_at_call 13; refine (K17.out _ B16.out).mono ?_; rintro e x5 ⟨rfl, hb⟩; have B17 := Lib.hid (Below.and B16.out hb); have HE := Lib.hid (SD.out _ B17.out); clear hb)
          | (go_at_call 14; refine (K18.out _ _).mono ?_; rintro e x6 ⟨rfl, rfl⟩)
          | (go_at_call 15; refine (K19.out _ _).mono ?_; rintro e x6 ⟨rfl, rfl⟩)))
      all_goals
        go_wp2_with fail
        go_meet
        case rel => exact ⟨rfl, HT9d.out.below B17.out⟩
    case rest =>
      obtain ⟨rfl, hT⟩ := hcut
      generalize wc = w10 at *
      have HT10 := Lib.hid hT
      clear hT HD SD K13 K14 K15 K15b K16 K17 K18 K19 HT9d HT9 Ra9 Rb_9 Rx9 Ry9 d0 d1 d2 d3 d4 e0 e1 e2 e3 e4
      go_upto_region 8 with fail
      go_cut [15, 16] from 98 to 101 (fun u v wx => ∃ (g5 g6 : Nat) (A5 : Option Addr) (c5 : Nat) (A6 : Option Addr) (c6 : Nat) (A7 : Option Addr) (c7 : Nat) (A8 : Option Addr) (c8 : Nat), u = .pointer (some ⟨g5, 0, none⟩) ∧ v = .pointer (some ⟨g6, 0, none⟩) ∧ Cop w10 wx m' g5 g6 A5 c5 A6 c6 A7 c7 A8 c8)
      case first =>
        have HTd := Lib.hid HT10.out
        have K20 : Hid (∀ wy, Below w10.heap.size w10 wy → Calls Tryz.prog 16 #[.agg #[.string ⟨m'.meth.toArray⟩, .string ⟨m'.path.toArray⟩, .int .i64 m'.status, .slice A1 m'.heads.length c1, .slice A2 m'.body.length c2]] wy fun e w' => CopyP m' wy e w' ∧ Below w10.heap.size w10 w') := Lib.hid fun wy hb =>
          (copy_anyM m' _ A2 c2 wy (HTd.out.below hb).vm (by have := SM.out.2.2.1; omega) (by have := SM.out.2.2.2; omega)).mono fun e w' hc => ⟨hc, by obtain ⟨_, _, _, _, _, _, h2⟩ := hc; exact Below.and hb h2⟩
        have K21 : Hid (∀ wy, Below w10.heap.size w10 wy → Calls Tryz.prog 17 #[.agg #[.string ⟨m'.meth.toArray⟩, .string ⟨m'.path.toArray⟩, .int .i64 m'.status, .slice A1 m'.heads.length c1, .slice A2 m'.body.length c2]] wy fun e w' => CopyP m' wy e w' ∧ Below w10.heap.size w10 w') := Lib.hid fun wy hb =>
          (copy_refM m' _ A2 c2 wy (HTd.out.below hb).vm.hs (HTd.out.below hb).vm.rb (by have := SM.out.1.1; omega) (by have := SM.out.2.2.2; omega)).mono fun e w' hc => ⟨hc, by obtain ⟨_, _, _, _, _, _, h2⟩ := hc; exact Below.and hb h2⟩
        have SD : Hid (∀ wy, Below w10.heap.size w10 wy → wy.cell? ⟨w.heap.size, 0, none⟩ = some (.string ⟨m'.meth.toArray⟩) ∧ wy.cell? ⟨w.heap.size, 1, none⟩ = some (.string ⟨m'.path.toArray⟩) ∧ wy.cell? ⟨w.heap.size, 2, none⟩ = some (.int .i64 m'.status) ∧ wy.cell? ⟨w.heap.size, 3, none⟩ = some (.slice A1 m'.heads.length c1) ∧ wy.cell? ⟨w.heap.size, 4, none⟩ = some (.slice A2 m'.body.length c2)) := Lib.hid fun wy hb =>
          ⟨(HTd.out.below hb).xm.c 0 (by simp), (HTd.out.below hb).xm.c 1 (by simp), (HTd.out.below hb).xm.c 2 (by simp), (HTd.out.below hb).xm.c 3 (by simp), (HTd.out.below hb).xm.c 4 (by simp)⟩
        have HD : Hid (w10.drew.cell? ⟨w.heap.size, 0, none⟩ = some (.string ⟨m'.meth.toArray⟩) ∧ w10.drew.cell? ⟨w.heap.size, 1, none⟩ = some (.string ⟨m'.path.toArray⟩) ∧ w10.drew.cell? ⟨w.heap.size, 2, none⟩ = some (.int .i64 m'.status) ∧ w10.drew.cell? ⟨w.heap.size, 3, none⟩ = some (.slice A1 m'.heads.length c1) ∧ w10.drew.cell? ⟨w.heap.size, 4, none⟩ = some (.slice A2 m'.body.length c2)) := Lib.hid (SD.out _ (bdrew (Below.refl _ _)))
        have BC := Lib.hid (Below.refl w10.heap.size w10)
        go_region_held3 (fun wy => wy.cell? ⟨w.heap.size, 0, none⟩ = some (.string ⟨m'.meth.toArray⟩) ∧ wy.cell? ⟨w.heap.size, 1, none⟩ = some (.string ⟨m'.path.toArray⟩) ∧ wy.cell? ⟨w.heap.size, 2, none⟩ = some (.int .i64 m'.status) ∧ wy.cell? ⟨w.heap.size, 3, none⟩ = some (.slice A1 m'.heads.length c1) ∧ wy.cell? ⟨w.heap.size, 4, none⟩ = some (.slice A2 m'.body.length c2))
          (first | with_reducible exact HD.out | with_reducible exact SD.out _ BC.out | (with_reducible refine SD.out _ ?_; repeat' (first | with_reducible exact BC.out | with_reducible refine Below.alloc ?_ ?_ _ | with_reducible refine bdrew ?_ | with_reducible refine Below.setCell ?_ ?_ _ | omega | (dsimp only; omega) | (simp <;> omega))))
          ((first
            | (go_at_call 16; first
                | (refine (K20.out _ (bdrew BC.out)).mono ?_; rintro e y1 ⟨⟨A5, c5, A6, c6, rfl, ho, hx⟩, hb⟩; have L5 : ∀ q, (A5 = some ⟨q, 0, none⟩ ∨ A6 = some ⟨q, 0, none⟩) → w10.heap.size ≤ q ∧ q < y1.heap.size := ho.lt2; have L5 := Lib.hid L5; have O5 := Lib.hid ho; have BC := Lib.hid hb; have N1 := hb.size; clear ho hb hx)
                | (refine (K20.out _ (bdrew (BC.out.alloc BC.out.size _))).mono ?_; rintro e y1 ⟨⟨A5, c5, A6, c6, rfl, ho, hx⟩, hb⟩; obtain ⟨z1, bx, es⟩ := z_one (Below.and (bdrew (Below.refl _ _)) hx); have L5 : ∀ q, (A5 = some ⟨q, 0, none⟩ ∨ A6 = some ⟨q, 0, none⟩) → w10.heap.size + 1 ≤ q ∧ q < y1.heap.size := fun q e => ⟨Nat.le_trans (Nat.le_of_eq es.symm) (ho.lt2 q e).1, (ho.lt2 q e).2⟩; have L5 := Lib.hid L5; have ZA1 := Lib.hid z1; have O5 := Lib.hid ho; have BC := Lib.hid hb; have N1 := bx.size; clear ho hb hx es bx z1)
                | (refine (K20.out _ (bdrew ((BC.out.alloc BC.out.size _).alloc (BC.out.alloc BC.out.size _).size _))).mono ?_; rintro e y1 ⟨⟨A5, c5, A6, c6, rfl, ho, hx⟩, hb⟩; obtain ⟨z1, z2, bx, es⟩ := z_two (Below.and (bdrew (Below.refl _ _)) hx); have L5 : ∀ q, (A5 = some ⟨q, 0, none⟩ ∨ A6 = some ⟨q, 0, none⟩) → w10.heap.size + 2 ≤ q ∧ q < y1.heap.size := fun q e => ⟨Nat.le_trans (Nat.le_of_eq es.symm) (ho.lt2 q e).1, (ho.lt2 q e).2⟩; have L5 := Lib.hid L5; have ZA1 := Lib.hid z1; have ZA2 := Lib.hid z2; have O5 := Lib.hid ho; have BC := Lib.hid hb; have N1 := bx.size; clear ho hb hx es bx z1 z2))
            | (go_at_call 17; first
                | (refine (K21.out _ BC.out).mono ?_; rintro e y2 ⟨⟨A7, c7, A8, c8, rfl, ho, hx⟩, hb⟩; have L6 := Lib.hid ho.lt2; have BY := Lib.hid hx; have O6 := Lib.hid ho; have BC := Lib.hid hb; have N2 := hb.size; have N3 := BY.out.size; clear ho hb hx; (try (have Va := Lib.hid (ZA1.out.below BY.out); have ac0 := Va.out.c 0 (by simp); have ac1 := Va.out.c 1 (by simp); have ac2 := Va.out.c 2 (by simp); have ac3 := Va.out.c 3 (by simp); have ac4 := Va.out.c 4 (by simp); have af0 := Va.out.free 0 (by simp); have af1 := Va.out.free 1 (by simp); have af2 := Va.out.free 2 (by simp); have af3 := Va.out.free 3 (by simp); have af4 := Va.out.free 4 (by simp); have al := Va.out.lt; have an := Nat.ne_of_lt al; have am := Ne.symm an; simp only [List.getElem_cons_succ, List.getElem_cons_zero] at ac0 ac1 ac2 ac3 ac4)); (try (have Vb := Lib.hid (ZA2.out.below BY.out); have bc0 := Vb.out.c 0 (by simp); have bc1 := Vb.out.c 1 (by simp); have bc2 := Vb.out.c 2 (by simp); have bc3 := Vb.out.c 3 (by simp); have bc4 := Vb.out.c 4 (by simp); have bf0 := Vb.out.free 0 (by simp); have bf1 := Vb.out.free 1 (by simp); have bf2 := Vb.out.free 2 (by simp); have bf3 := Vb.out.free 3 (by simp); have bf4 := Vb.out.free 4 (by simp); have bl := Vb.out.lt; have bn := Nat.ne_of_lt bl; have bm := Ne.symm bn; simp only [List.getElem_cons_succ, List.getElem_cons_zero] at bc0 bc1 bc2 bc3 bc4)); (try (have Vc := Lib.hid (ZB1.out); have cc0 := Vc.out.c 0 (by simp); have cc1 := Vc.out.c 1 (by simp); have cc2 := Vc.out.c 2 (by simp); have cc3 := Vc.out.c 3 (by simp); have cc4 := Vc.out.c 4 (by simp); have cf0 := Vc.out.free 0 (by simp); have cf1 := Vc.out.free 1 (by simp); have cf2 := Vc.out.free 2 (by simp); have cf3 := Vc.out.free 3 (by simp); have cf4 := Vc.out.free 4 (by simp); have cl := Vc.out.lt; have cn := Nat.ne_of_lt cl; have cm := Ne.symm cn; simp only [List.getElem_cons_succ, List.getElem_cons_zero] at cc0 cc1 cc2 cc3 cc4)); (try (have Vd := Lib.hid (ZB2.out); have dc0 := Vd.out.c 0 (by simp); have dc1 := Vd.out.c 1 (by simp); have dc2 := Vd.out.c 2 (by simp); have dc3 := Vd.out.c 3 (by simp); have dc4 := Vd.out.c 4 (by simp); have df0 := Vd.out.free 0 (by simp); have df1 := Vd.out.free 1 (by simp); have df2 := Vd.out.free 2 (by simp); have df3 := Vd.out.free 3 (by simp); have df4 := Vd.out.free 4 (by simp); have dl := Vd.out.lt; have dn := Nat.ne_of_lt dl; have dm := Ne.symm dn; simp only [List.getElem_cons_succ, List.getElem_cons_zero] at dc0 dc1 dc2 dc3 dc4)); (try (have zn := Nat.ne_of_lt ZA1.out.lt; have zm := Ne.symm zn)))
                | (refine (K21.out _ (BC.out.alloc BC.out.size _)).mono ?_; rintro e y2 ⟨⟨A7, c7, A8, c8, rfl, ho, hx⟩, hb⟩; obtain ⟨z1, bx, es⟩ := z_one hx; have L6 := ho.lt2; rw [es] at L6; have L6 := Lib.hid L6; have ZB1 := Lib.hid z1; have BY := Lib.hid bx; have O6 := Lib.hid ho; have BC := Lib.hid hb; have N2 := hb.size; have N3 := BY.out.size; clear ho hb hx es bx z1; (try (have Va := Lib.hid (ZA1.out.below BY.out); have ac0 := Va.out.c 0 (by simp); have ac1 := Va.out.c 1 (by simp); have ac2 := Va.out.c 2 (by simp); have ac3 := Va.out.c 3 (by simp); have ac4 := Va.out.c 4 (by simp); have af0 := Va.out.free 0 (by simp); have af1 := Va.out.free 1 (by simp); have af2 := Va.out.free 2 (by simp); have af3 := Va.out.free 3 (by simp); have af4 := Va.out.free 4 (by simp); have al := Va.out.lt; have an := Nat.ne_of_lt al; have am := Ne.symm an; simp only [List.getElem_cons_succ, List.getElem_cons_zero] at ac0 ac1 ac2 ac3 ac4)); (try (have Vb := Lib.hid (ZA2.out.below BY.out); have bc0 := Vb.out.c 0 (by simp); have bc1 := Vb.out.c 1 (by simp); have bc2 := Vb.out.c 2 (by simp); have bc3 := Vb.out.c 3 (by simp); have bc4 := Vb.out.c 4 (by simp); have bf0 := Vb.out.free 0 (by simp); have bf1 := Vb.out.free 1 (by simp); have bf2 := Vb.out.free 2 (by simp); have bf3 := Vb.out.free 3 (by simp); have bf4 := Vb.out.free 4 (by simp); have bl := Vb.out.lt; have bn := Nat.ne_of_lt bl; have bm := Ne.symm bn; simp only [List.getElem_cons_succ, List.getElem_cons_zero] at bc0 bc1 bc2 bc3 bc4)); (try (have Vc := Lib.hid (ZB1.out); have cc0 := Vc.out.c 0 (by simp); have cc1 := Vc.out.c 1 (by simp); have cc2 := Vc.out.c 2 (by simp); have cc3 := Vc.out.c 3 (by simp); have cc4 := Vc.out.c 4 (by simp); have cf0 := Vc.out.free 0 (by simp); have cf1 := Vc.out.free 1 (by simp); have cf2 := Vc.out.free 2 (by simp); have cf3 := Vc.out.free 3 (by simp); have cf4 := Vc.out.free 4 (by simp); have cl := Vc.out.lt; have cn := Nat.ne_of_lt cl; have cm := Ne.symm cn; simp only [List.getElem_cons_succ, List.getElem_cons_zero] at cc0 cc1 cc2 cc3 cc4)); (try (have Vd := Lib.hid (ZB2.out); have dc0 := Vd.out.c 0 (by simp); have dc1 := Vd.out.c 1 (by simp); have dc2 := Vd.out.c 2 (by simp); have dc3 := Vd.out.c 3 (by simp); have dc4 := Vd.out.c 4 (by simp); have df0 := Vd.out.free 0 (by simp); have df1 := Vd.out.free 1 (by simp); have df2 := Vd.out.free 2 (by simp); have df3 := Vd.out.free 3 (by simp); have df4 := Vd.out.free 4 (by simp); have dl := Vd.out.lt; have dn := Nat.ne_of_lt dl; have dm := Ne.symm dn; simp only [List.getElem_cons_succ, List.getElem_cons_zero] at dc0 dc1 dc2 dc3 dc4)); (try (have zn := Nat.ne_of_lt ZA1.out.lt; have zm := Ne.symm zn)))
                | (refine (K21.out _ ((BC.out.alloc BC.out.size _).alloc (BC.out.alloc BC.out.size _).size _)).mono ?_; rintro e y2 ⟨⟨A7, c7, A8, c8, rfl, ho, hx⟩, hb⟩; obtain ⟨z1, z2, bx, es⟩ := z_two hx; have L6 := ho.lt2; rw [es] at L6; have L6 := Lib.hid L6; have ZB1 := Lib.hid z1; have ZB2 := Lib.hid z2; have BY := Lib.hid bx; have O6 := Lib.hid ho; have BC := Lib.hid hb; have N2 := hb.size; have N3 := BY.out.size; clear ho hb hx es bx z1 z2; (try (have Va := Lib.hid (ZA1.out.below BY.out); have ac0 := Va.out.c 0 (by simp); have ac1 := Va.out.c 1 (by simp); have ac2 := Va.out.c 2 (by simp); have ac3 := Va.out.c 3 (by simp); have ac4 := Va.out.c 4 (by simp); have af0 := Va.out.free 0 (by simp); have af1 := Va.out.free 1 (by simp); have af2 := Va.out.free 2 (by simp); have af3 := Va.out.free 3 (by simp); have af4 := Va.out.free 4 (by simp); have al := Va.out.lt; have an := Nat.ne_of_lt al; have am := Ne.symm an; simp only [List.getElem_cons_succ, List.getElem_cons_zero] at ac0 ac1 ac2 ac3 ac4)); (try (have Vb := Lib.hid (ZA2.out.below BY.out); have bc0 := Vb.out.c 0 (by simp); have bc1 := Vb.out.c 1 (by simp); have bc2 := Vb.out.c 2 (by simp); have bc3 := Vb.out.c 3 (by simp); have bc4 := Vb.out.c 4 (by simp); have bf0 := Vb.out.free 0 (by simp); have bf1 := Vb.out.free 1 (by simp); have bf2 := Vb.out.free 2 (by simp); have bf3 := Vb.out.free 3 (by simp); have bf4 := Vb.out.free 4 (by simp); have bl := Vb.out.lt; have bn := Nat.ne_of_lt bl; have bm := Ne.symm bn; simp only [List.getElem_cons_succ, List.getElem_cons_zero] at bc0 bc1 bc2 bc3 bc4)); (try (have Vc := Lib.hid (ZB1.out); have cc0 := Vc.out.c 0 (by simp); have cc1 := Vc.out.c 1 (by simp); have cc2 := Vc.out.c 2 (by simp); have cc3 := Vc.out.c 3 (by simp); have cc4 := Vc.out.c 4 (by simp); have cf0 := Vc.out.free 0 (by simp); have cf1 := Vc.out.free 1 (by simp); have cf2 := Vc.out.free 2 (by simp); have cf3 := Vc.out.free 3 (by simp); have cf4 := Vc.out.free 4 (by simp); have cl := Vc.out.lt; have cn := Nat.ne_of_lt cl; have cm := Ne.symm cn; simp only [List.getElem_cons_succ, List.getElem_cons_zero] at cc0 cc1 cc2 cc3 cc4)); (try (have Vd := Lib.hid (ZB2.out); have dc0 := Vd.out.c 0 (by simp); have dc1 := Vd.out.c 1 (by simp); have dc2 := Vd.out.c 2 (by simp); have dc3 := Vd.out.c 3 (by simp); have dc4 := Vd.out.c 4 (by simp); have df0 := Vd.out.free 0 (by simp); have df1 := Vd.out.free 1 (by simp); have df2 := Vd.out.free 2 (by simp); have df3 := Vd.out.free 3 (by simp); have df4 := Vd.out.free 4 (by simp); have dl := Vd.out.lt; have dn := Nat.ne_of_lt dl; have dm := Ne.symm dn; simp only [List.getElem_cons_succ, List.getElem_cons_zero] at dc0 dc1 dc2 dc3 dc4)); (try (have zn := Nat.ne_of_lt ZA1.out.lt; have zm := Ne.symm zn))))))
        all_goals
          go_wp2_with fail
          go_meet
          case rel =>
            have l5 := L5.out
            have l6 := L6.out
            (try have m1 := ZA1.out.lt)
            (try have m2 := ZA2.out.lt)
            refine ⟨_, _, A5, c5, A6, c6, A7, c7, A8, c8, rfl, rfl, ?_⟩
            refine Cop.fin (w0 := w10) (y2 := y2) (O5.out.below BY.out) O6.out ?_ ?_ ?_ ?_ ?_ ?_ ?_ ?_ ?_
            · first | with_reducible exact pairA1 | with_reducible exact pairA2 | with_reducible exact pairB1 Va.out | with_reducible exact pairB1 Vb.out | with_reducible exact pairB1 Vc.out | with_reducible exact pairB1 Vd.out | with_reducible exact pairB2 | with_reducible exact pairC1 Va.out (by omega) | with_reducible exact pairC1 Vb.out (by omega) | with_reducible exact pairC1 Vc.out (by omega) | with_reducible exact pairC1 Vd.out (by omega) | with_reducible exact pairC2 Va.out (by omega) | with_reducible exact pairC2 Vb.out (by omega) | with_reducible exact pairC2 Vc.out (by omega) | with_reducible exact pairC2 Vd.out (by omega)
            · first | with_reducible exact pairA1 | with_reducible exact pairA2 | with_reducible exact pairB1 Va.out | with_reducible exact pairB1 Vb.out | with_reducible exact pairB1 Vc.out | with_reducible exact pairB1 Vd.out | with_reducible exact pairB2 | with_reducible exact pairC1 Va.out (by omega) | with_reducible exact pairC1 Vb.out (by omega) | with_reducible exact pairC1 Vc.out (by omega) | with_reducible exact pairC1 Vd.out (by omega) | with_reducible exact pairC2 Va.out (by omega) | with_reducible exact pairC2 Vb.out (by omega) | with_reducible exact pairC2 Vc.out (by omega) | with_reducible exact pairC2 Vd.out (by omega)
            · repeat' (first | with_reducible exact BC.out | with_reducible refine Below.alloc ?_ ?_ _ | with_reducible refine Below.setCell ?_ ?_ _ | omega | (dsimp only; omega) | (simp <;> omega))
            · repeat' (first | with_reducible exact Kp2.refl _ _ _ | with_reducible refine Kp2.setA ?_ _ _ | with_reducible refine Kp2.setB ?_ _ _ | with_reducible refine Kp2.alloc ?_ _)
            · first | omega | (simp <;> omega) | exact Nat.le_refl _
            · first | omega | (simp <;> omega)
            · omega
            · intro q e
              have h := l5 q e
              clear l5 l6
              refine ⟨by omega, by omega, ?_⟩
              first | omega | (simp <;> omega)
            · intro q e
              have h := l6 q e
              clear l5 l6
              exact ⟨by omega, by omega⟩
      case rest =>
      obtain ⟨g5, g6, A5, c5, A6, c6, A7, c7, A8, c8, rfl, rfl, hC⟩ := hcut
      generalize wc = w11 at *
      have HC := Lib.hid hC
      have HM := Lib.hid (HT10.out.below hC.bl)
      have hml : m'.body.length ≤ 140737488355328 := by have := SM.out.2.2.2; omega
      have HLT := Lib.hid hC.row
      have HLT2 := Lib.hid hC.row2
      have HG6 := Lib.hid hC.x6.lt
      clear hC
      have d4 := HM.out.xm.c 4 (by simp)
      simp only [List.getElem_cons_succ, List.getElem_cons_zero] at d4
      have C9 := Lib.hid (copyB_any (n := m'.body.length) HM.out.vm.rb rfl hml)
      go_wp2_with fail
      go_at_call 18
      refine C9.out.mono ?_
      rintro e w12 ⟨Pi, qi, rfl, hr, hb⟩
      have RI := Lib.hid hr
      have HIL : Hid (∀ q, Pi = some ⟨q, 0, none⟩ → w11.heap.size ≤ q ∧ q < w12.heap.size) := Lib.hid fun q e => hr.lt e
      have HC12 := Lib.hid (HC.out.below hb)
      have HB12 := Lib.hid hb
      clear hr hb C9 d4
      have C10 := Lib.hid (answer_any n RI.out.rb hml)
      go_wp2_with fail
      go_at_call 19
      refine C10.out.mono ?_
      rintro e w13 ⟨A9, c9, rfl, hr, hb⟩
      have R9 := Lib.hid hr
      have HC13 := Lib.hid (HC12.out.below hb)
      have RI13 := Lib.hid (RI.out.below hb)
      have HB13 := Lib.hid (Below.and HB12.out hb)
      have HS13 := Lib.hid hb.size
      clear hr hb C10 RI HC12
      go_upto_region 11 with fail
      have hn := below_new w13 (.cells #[.string ⟨#[]⟩, .string ⟨#[]⟩, .int .i64 (stA n), .slice none 0 0, .slice A9 m'.body.length c9] 25)
      have X18 : Hid (Cs (w13.alloc (.cells #[.string ⟨#[]⟩, .string ⟨#[]⟩, .int .i64 (stA n), .slice none 0 0, .slice A9 m'.body.length c9] 25)) w13.heap.size [.string ⟨#[]⟩, .string ⟨#[]⟩, .int .i64 (stA n), .slice none 0 0, .slice A9 m'.body.length c9]) := Lib.hid (Cs.new w13 _ _)
      have HC14 := Lib.hid (HC13.out.below hn)
      have RI14 := Lib.hid (RI13.out.below hn)
      have R914 := Lib.hid (R9.out.below hn)
      have HB14 := Lib.hid (Below.and HB13.out hn)
      have HM14 := Lib.hid (HT10.out.below HC14.out.bl)
      have HG18 : Hid (w11.heap.size ≤ w13.heap.size) := Lib.hid HB13.out.size
      clear hn HC13 RI13 R9 HB13 HM
      generalize hg18 : w13.heap.size = g18 at *
      generalize w13.alloc (.cells #[.string ⟨#[]⟩, .string ⟨#[]⟩, .int .i64 (stA n), .slice none 0 0, .slice A9 m'.body.length c9] 25) = w14 at *
      go_cut [120] from 108 to 120 (fun u wx => u = .bool false ∧ Below w14.heap.size w14 wx)
      case first =>
        have HCd : Hid (Cop w10 w14.drew m' g5 g6 A5 c5 A6 c6 A7 c7 A8 c8) := HC14.out.below (below_drewN (Below.refl _ _) 1)
        have HMd : Hid (TwoM w w14.drew m' k' A1 c1 A2 c2 A3 c3 A4 c4) := HM14.out.below (below_drewN (Below.refl _ _) 1)
        have Xd : Hid (Cs w14.drew g18 [.string ⟨#[]⟩, .string ⟨#[]⟩, .int .i64 (stA n), .slice none 0 0, .slice A9 m'.body.length c9]) := X18.out.below (below_drewN (Below.refl _ _) 1)
        have Rd9 : Hid (RowG w14.drew w12.heap.size A9 c9 m'.body) := R914.out.below (below_drewN (Below.refl _ _) 1)
        have K17 : Hid (∀ wy, Below w14.drew.heap.size w14.drew wy → Calls Tryz.prog 13 #[.agg #[.string ⟨m'.meth.toArray⟩, .string ⟨m'.path.toArray⟩, .int .i64 m'.status, .slice A5 m'.heads.length c5, .slice A6 m'.body.length c6], .agg #[.string ⟨m'.meth.toArray⟩, .string ⟨m'.path.toArray⟩, .int .i64 m'.status, .slice A7 m'.heads.length c7, .slice A8 m'.body.length c8]] wy fun e w' => e = .returned (.bool true) ∧ Below wy.heap.size wy w') := Lib.hid fun wy hb =>
          (same_allR m' m' _ _ A6 A8 c6 c8 wy ⟨(HCd.out.below hb).o5.hs.hs, SM.out.1, by have := SM.out.2.1; omega, (HCd.out.below hb).o5.rb.rb⟩ ⟨(HCd.out.below hb).o6.hs.hs, SM.out.1, by have := SM.out.2.1; omega, (HCd.out.below hb).o6.rb.rb⟩).mono fun e w' ⟨y1, y2⟩ => ⟨by rw [y1, eqM_self], y2⟩
        have K24 : Hid (∀ wy, Below w14.drew.heap.size w14.drew wy → Calls Tryz.prog 20 #[.int .i64 n, .slice A2 m'.body.length c2] wy (AnsP n m'.body wy)) := Lib.hid fun wy hb => answer_ref n (HMd.out.below hb).vm.rb hml
        have K17d : Hid (∀ (wy : World) (A0 : Option Addr) (c0 b0 : Nat), Below w14.drew.heap.size w14.drew wy → RowG wy b0 A0 c0 m'.body → Calls Tryz.prog 13 #[.agg #[.string ⟨#[]⟩, .string ⟨#[]⟩, .int .i64 (stA n), .slice none 0 0, .slice A9 m'.body.length c9], .agg #[.string ⟨#[]⟩, .string ⟨#[]⟩, .int .i64 (stA n), .slice none 0 0, .slice A0 m'.body.length c0]] wy fun e w' => e = .returned (.bool true) ∧ Below wy.heap.size wy w') := Lib.hid fun wy A0 c0 b0 hb hr =>
          (same_allR (ansM n m'.body) (ansM n m'.body) (.slice none 0 0) (.slice none 0 0) A9 A0 c9 c0 wy ⟨Hs.nil _, ⟨Nat.zero_le _, fun _ h => by cases h⟩, Nat.zero_le _, (Rd9.out.below hb).rb⟩ ⟨Hs.nil _, ⟨Nat.zero_le _, fun _ h => by cases h⟩, Nat.zero_le _, hr.rb⟩).mono fun e w' ⟨y1, y2⟩ => ⟨by rw [y1, eqM_self], y2⟩
        have SD : Hid (∀ wy, Below w14.drew.heap.size w14.drew wy → wy.cell? ⟨g5, 0, none⟩ = some (.string ⟨m'.meth.toArray⟩) ∧ wy.cell? ⟨g5, 1, none⟩ = some (.string ⟨m'.path.toArray⟩) ∧ wy.cell? ⟨g5, 2, none⟩ = some (.int .i64 m'.status) ∧ wy.cell? ⟨g5, 3, none⟩ = some (.slice A5 m'.heads.length c5) ∧ wy.cell? ⟨g5, 4, none⟩ = some (.slice A6 m'.body.length c6) ∧ wy.cell? ⟨g6, 0, none⟩ = some (.string ⟨m'.meth.toArray⟩) ∧ wy.cell? ⟨g6, 1, none⟩ = some (.string ⟨m'.path.toArray⟩) ∧ wy.cell? ⟨g6, 2, none⟩ = some (.int .i64 m'.status) ∧ wy.cell? ⟨g6, 3, none⟩ = some (.slice A7 m'.heads.length c7) ∧ wy.cell? ⟨g6, 4, none⟩ = some (.slice A8 m'.body.length c8) ∧ wy.cell? ⟨g18, 0, none⟩ = some (.string ⟨#[]⟩) ∧ wy.cell? ⟨g18, 1, none⟩ = some (.string ⟨#[]⟩) ∧ wy.cell? ⟨g18, 2, none⟩ = some (.int .i64 (stA n)) ∧ wy.cell? ⟨g18, 3, none⟩ = some (.slice none 0 0) ∧ wy.cell? ⟨g18, 4, none⟩ = some (.slice A9 m'.body.length c9) ∧ wy.cell? ⟨w.heap.size, 4, none⟩ = some (.slice A2 m'.body.length c2)) := Lib.hid fun wy hb =>
          ⟨(HCd.out.below hb).x5.c 0 (by simp), (HCd.out.below hb).x5.c 1 (by simp), (HCd.out.below hb).x5.c 2 (by simp), (HCd.out.below hb).x5.c 3 (by simp), (HCd.out.below hb).x5.c 4 (by simp), (HCd.out.below hb).x6.c 0 (by simp), (HCd.out.below hb).x6.c 1 (by simp), (HCd.out.below hb).x6.c 2 (by simp), (HCd.out.below hb).x6.c 3 (by simp), (HCd.out.below hb).x6.c 4 (by simp), (Xd.out.below hb).c 0 (by simp), (Xd.out.below hb).c 1 (by simp), (Xd.out.below hb).c 2 (by simp), (Xd.out.below hb).c 3 (by simp), (Xd.out.below hb).c 4 (by simp), (HMd.out.below hb).xm.c 4 (by simp)⟩
        have HD : Hid (w14.drew.cell? ⟨g5, 0, none⟩ = some (.string ⟨m'.meth.toArray⟩) ∧ w14.drew.cell? ⟨g5, 1, none⟩ = some (.string ⟨m'.path.toArray⟩) ∧ w14.drew.cell? ⟨g5, 2, none⟩ = some (.int .i64 m'.status) ∧ w14.drew.cell? ⟨g5, 3, none⟩ = some (.slice A5 m'.heads.length c5) ∧ w14.drew.cell? ⟨g5, 4, none⟩ = some (.slice A6 m'.body.length c6) ∧ w14.drew.cell? ⟨g6, 0, none⟩ = some (.string ⟨m'.meth.toArray⟩) ∧ w14.drew.cell? ⟨g6, 1, none⟩ = some (.string ⟨m'.path.toArray⟩) ∧ w14.drew.cell? ⟨g6, 2, none⟩ = some (.int .i64 m'.status) ∧ w14.drew.cell? ⟨g6, 3, none⟩ = some (.slice A7 m'.heads.length c7) ∧ w14.drew.cell? ⟨g6, 4, none⟩ = some (.slice A8 m'.body.length c8) ∧ w14.drew.cell? ⟨g18, 0, none⟩ = some (.string ⟨#[]⟩) ∧ w14.drew.cell? ⟨g18, 1, none⟩ = some (.string ⟨#[]⟩) ∧ w14.drew.cell? ⟨g18, 2, none⟩ = some (.int .i64 (stA n)) ∧ w14.drew.cell? ⟨g18, 3, none⟩ = some (.slice none 0 0) ∧ w14.drew.cell? ⟨g18, 4, none⟩ = some (.slice A9 m'.body.length c9) ∧ w14.drew.cell? ⟨w.heap.size, 4, none⟩ = some (.slice A2 m'.body.length c2)) := Lib.hid (SD.out _ (Below.refl _ _))
        go_region_held3 (fun wy => wy.cell? ⟨g5, 0, none⟩ = some (.string ⟨m'.meth.toArray⟩) ∧ wy.cell? ⟨g5, 1, none⟩ = some (.string ⟨m'.path.toArray⟩) ∧ wy.cell? ⟨g5, 2, none⟩ = some (.int .i64 m'.status) ∧ wy.cell? ⟨g5, 3, none⟩ = some (.slice A5 m'.heads.length c5) ∧ wy.cell? ⟨g5, 4, none⟩ = some (.slice A6 m'.body.length c6) ∧ wy.cell? ⟨g6, 0, none⟩ = some (.string ⟨m'.meth.toArray⟩) ∧ wy.cell? ⟨g6, 1, none⟩ = some (.string ⟨m'.path.toArray⟩) ∧ wy.cell? ⟨g6, 2, none⟩ = some (.int .i64 m'.status) ∧ wy.cell? ⟨g6, 3, none⟩ = some (.slice A7 m'.heads.length c7) ∧ wy.cell? ⟨g6, 4, none⟩ = some (.slice A8 m'.body.length c8) ∧ wy.cell? ⟨g18, 0, none⟩ = some (.string ⟨#[]⟩) ∧ wy.cell? ⟨g18, 1, none⟩ = some (.string ⟨#[]⟩) ∧ wy.cell? ⟨g18, 2, none⟩ = some (.int .i64 (stA n)) ∧ wy.cell? ⟨g18, 3, none⟩ = some (.slice none 0 0) ∧ wy.cell? ⟨g18, 4, none⟩ = some (.slice A9 m'.body.length c9) ∧ wy.cell? ⟨w.heap.size, 4, none⟩ = some (.slice A2 m'.body.length c2))
          (first | exact HD.out | exact HE.out)
          ((first
            | (go_at_call 13; have hq1 := R24; refine (K17d.out _ _ _ _ B24.out hq1.out).mono ?_; rintro e x3 ⟨rfl, hb⟩; have B18 := Lib.hid (Below.and B24.out hb); have HE := Lib.hid (SD.out _ B18.out); clear hb hq1)
            | (go_at_call 13; refine (K17.out _ (Below.refl _ _)).mono ?_; rintro e x1 ⟨rfl, hb⟩; have B17 := Lib.hid hb; have HE := Lib.hid (SD.out _ B17.out); clear hb)
            | (go_at_call 20; refine (K24.out _ B17.out).mono ?_; rintro e x2 ⟨A0, c0, rfl, hr, hb⟩; have R24 := Lib.hid hr; have B24 := Lib.hid (Below.and B17.out hb); have HE := Lib.hid (SD.out _ B24.out); clear hb hr)))
        all_goals
          go_wp2_with fail
          go_meet
          case rel => exact ⟨rfl, Below.and (below_drewN (Below.refl _ _) 1) B18.out⟩
      case rest =>
        obtain ⟨rfl, hb⟩ := hcut
        generalize wc = w15 at *
        have HC15 := Lib.hid (HC14.out.below hb)
        have RI15 := Lib.hid (RI14.out.below hb)
        have R915 := Lib.hid (R914.out.below hb)
        have X15 := Lib.hid (X18.out.below hb)
        clear hb HC14 RI14 R914 X18 HM14 HB14
        have e0 := HC15.out.x5.c 0 (by simp)
        have e1 := HC15.out.x5.c 1 (by simp)
        have e2 := HC15.out.x5.c 2 (by simp)
        have e3 := HC15.out.x5.c 3 (by simp)
        have e4 := HC15.out.x5.c 4 (by simp)
        simp only [List.getElem_cons_succ, List.getElem_cons_zero] at e0 e1 e2 e3 e4
        have CSP := Lib.hid (spoil_any m' A5 c5 A6 c6 w10.heap.size w15 HC15.out.o5 HC15.out.bl.size (by have := SM.out.2.2.2; omega) (by have := SM.out.1.1; omega))
        go_wp2_with fail
        go_at_call 21
        refine CSP.out.mono ?_
        rintro e w16 ⟨rfl, hb, hq⟩
        obtain ⟨hx6, ho6⟩ := HC15.out.spoilt hq
        have X6 := Lib.hid hx6
        have O6 := Lib.hid ho6
        have RI16 := Lib.hid (hq.rowG RI15.out HLT.out)
        have R916 := Lib.hid (hq.rowG R915.out (fun q e => Nat.lt_of_lt_of_le (HLT.out q e) HB12.out.size))
        have X16 := Lib.hid (hq.cs X15.out (fun q e => Nat.lt_of_lt_of_le (HLT.out q e) HG18.out))
        have B16 := Lib.hid (HC15.out.bl.trans hb)
        have GB := Lib.hid HC15.out.g6b
        clear hb hq hx6 ho6 CSP HC15 RI15 R915 X15 e0 e1 e2 e3 e4
        have HRV : Hid (∀ gi, Pi = some ⟨gi, 0, none⟩ → RowV w16 gi m'.body.length isU8) := Lib.hid fun gi e => by
          have hr := RI16.out
          subst e
          exact hr.rowV
        have HNB : Hid (0 < m'.body.length → ∃ gi, Pi = some ⟨gi, 0, none⟩) := Lib.hid fun h0 => by
          rcases RI16.out.at_ with ⟨_, h1⟩ | ⟨g, e, _⟩
          · have := RI16.out.le; omega
          · exact ⟨g, e⟩
        have HCI := Lib.hid RI16.out.le
        clear RI16
        go_wp2_with fail
        go_loopw [19] (fun i wr => ∃ j : Nat, j ≤ m'.body.length ∧ i = .int .i64 j ∧ KeptBut w16 wr Pi none ∧ Below w10.heap.size w16 wr ∧ ∀ gi, Pi = some ⟨gi, 0, none⟩ → RowV wr gi m'.body.length isU8) (fun i _ => m'.body.length - (intOf i).toNat)
        case atStart => exact ⟨0, Nat.zero_le _, rfl, KeptBut.of _ _ (Below.refl _ _), Below.refl _ _, HRV.out⟩
        case round =>
          obtain ⟨j, hj, rfl, hq, hb, hv⟩ := hrel
          have HQ := Lib.hid hq
          have HB := Lib.hid hb
          have HV := Lib.hid hv
          clear hq hb hv
          by_cases hlt : j < m'.body.length
          · obtain ⟨gi, rfl⟩ := HNB.out (by omega)
            have g3 := HV.out gi rfl
            obtain ⟨_, ⟨x, rfl⟩, hx⟩ := g3.has j hlt
            have hf := g3.free j hlt
            have i1 : (0 : Int) ≤ j := by omega
            have i2 : (j : Int) < m'.body.length := by omega
            have hcap := HCI.out
            have hgi : w10.heap.size ≤ gi := Nat.le_trans HC.out.bl.size (HIL.out gi rfl).1
            clear g3
            go_wp2_with fail
            exact ⟨⟨j + 1, by omega, by go_num, HQ.out.setA j _, HB.out.setCell (p := ⟨gi, j, none⟩) hgi _, fun q e => by
              obtain rfl : gi = q := by simpa using e
              exact (HV.out gi rfl).set j _ ⟨_, rfl⟩⟩, by simp [intOf]; omega⟩
          · have B17 := Lib.hid (B16.out.trans HB.out)
            have M17 := Lib.hid (HT10.out.below B17.out)
            have X6r := Lib.hid (HQ.out.cs2 X6.out (fun q e => by have := (HIL.out q e).1; have := HG6.out; omega))
            have O6h := Lib.hid (HQ.out.rowH2 O6.out.hs (fun q e x => by have := (HIL.out q e).1; have := HLT2.out q (.inl x); omega))
            have O6b := Lib.hid (HQ.out.rowG2 O6.out.rb (fun q e x => by have := (HIL.out q e).1; have := HLT2.out q (.inr x); omega))
            have R9r := Lib.hid (HQ.out.rowG2 R916.out (fun q e x => by have := (HIL.out q e).2; have := (R916.out.lt x).1; omega))
            have X18r := Lib.hid (HQ.out.cs2 X16.out (fun q e => by have := (HIL.out q e).2; have := HS13.out; omega))
            clear X6 O6 R916 X16 HQ HB HV
            go_upto_region 18 with fail
            have d0 := M17.out.xm.c 0 (by simp)
            have d1 := M17.out.xm.c 1 (by simp)
            have d2 := M17.out.xm.c 2 (by simp)
            have d3 := M17.out.xm.c 3 (by simp)
            have d4 := M17.out.xm.c 4 (by simp)
            have e0 := X6r.out.c 0 (by simp)
            have e1 := X6r.out.c 1 (by simp)
            have e2 := X6r.out.c 2 (by simp)
            have e3 := X6r.out.c 3 (by simp)
            have e4 := X6r.out.c 4 (by simp)
            simp only [List.getElem_cons_succ, List.getElem_cons_zero] at d0 d1 d2 d3 d4 e0 e1 e2 e3 e4
            have CS := same_allR m' m' _ _ A2 A8 c2 c8 wr M17.out.vm ⟨O6h.out.hs, SM.out.1, by have := SM.out.2.1; omega, O6b.out.rb⟩
            rw [eqM_self] at CS
            have CS := Lib.hid CS
            go_wp2_with fail
            go_at_call 13
            refine CS.out.mono ?_
            rintro e x1 ⟨rfl, hb⟩
            have M18 := Lib.hid (M17.out.below hb)
            have x4 := (X18r.out.below hb).c 4 (by simp)
            have e4' := (X6r.out.below hb).c 4 (by simp)
            simp only [List.getElem_cons_succ, List.getElem_cons_zero] at x4 e4'
            have CE := eqBytes_rb (R9r.out.below hb).rb (O6b.out.below hb).rb
            rw [beq_self_eq_true] at CE
            have CE := Lib.hid CE
            clear d0 d1 d2 d3 d4 e0 e1 e2 e3 e4 hb CS M17 X6r X18r R9r O6b O6h
            go_wp2_with fail
            go_at_call 11
            refine CE.out.mono ?_
            rintro e x2 ⟨rfl, rfl⟩
            clear x4 e4' CE
            go_wp2_with fail
            go_at_call 22
            refine (works_any _ (HG.out _ M18.out.bl)).mono ?_
            rintro e x3 ⟨rfl, hb⟩
            have HE := Lib.hid (Below.and M18.out.bl hb)
            clear hb
            go_wp2_with fail
            go_ret
            exact ⟨rfl, HE.out⟩
end Go.Proofs.YthniggdimfldhaaGreatDoor
