/- The reader: its first line; so many bytes; a chunk; the body. The reader: appending bytes; so many bytes; a chunk. The reader: a chunk; the body. -/
import Derived.Test.YthniggdimfldhaaGreatDoorNg
import Derived.Deep.Upon
namespace Go.Proofs.YthniggdimfldhaaGreatDoor
open Go Go.RowKit

theorem RSt.setM {w : World} {g D : Nat} {A : Option Addr} {c : Nat} {x a p : List UInt8} {n : Int} {hV bV : Value} {ch : Bool} {k : Int} (h : RSt w g D A c x a p n hV bV ch k) (a' p' : List UInt8) (n' : Int) (hV' bV' : Value) :
    RSt (((((w.setCell ⟨g, 1, none⟩ (.string ⟨a'.toArray⟩)).setCell ⟨g, 2, none⟩ (.string ⟨p'.toArray⟩)).setCell ⟨g, 3, none⟩ (.int .i64 n')).setCell ⟨g, 4, none⟩ hV').setCell ⟨g, 5, none⟩ bV') g D A c x a' p' n' hV' bV' ch k :=
  ((((h.set1 a').set2 p').set3 n').set4 hV').set5 bV'
theorem kp_setM {g B : Nat} (w : World) (v1 v2 v3 v4 v5 : Value) : Kp g B w (((((w.setCell ⟨g, 1, none⟩ v1).setCell ⟨g, 2, none⟩ v2).setCell ⟨g, 3, none⟩ v3).setCell ⟨g, 4, none⟩ v4).setCell ⟨g, 5, none⟩ v5) :=
  ((((kp_set w 1 v1).trans (kp_set _ 2 v2)).trans (kp_set _ 3 v3)).trans (kp_set _ 4 v4)).trans (kp_set _ 5 v5)
/-- what the first line leaves -/
def FirstP (g D : Nat) (x : List UInt8) (w : World) (e : Ending) (w' : World) : Prop :=
  Kp g w.heap.size w w' ∧ match lineR x with
    | .error E => e = .returned (.int .i64 E)
    | .ok (s, r) => match firstP s with
      | none => e = .returned (.int .i64 4)
      | some (a, p, n) => e = .returned (.int .i64 0) ∧ ∃ A c, RSt w' g D A c r a p n nilV nilV false 0
theorem line_err {x : List UInt8} {E : Int} (h : lineR x = .error E) : E = 3 ∨ E = 4 := by
  unfold lineR at h
  split at h
  · cases h; exact .inl rfl
  · split at h
    · cases h; exact .inr rfl
    · cases h
set_option maxRecDepth 100000 in
set_option maxHeartbeats 2000000 in
theorem firstLine_any {w : World} {g D : Nat} {A : Option Addr} {c : Nat} {x : List UInt8} (h : RSt w g D A c x [] [] 0 nilV nilV false 0) (hs : x.length ≤ 1000000) :
    Calls Tryz.prog 80 #[.pointer (some ⟨g, 0, none⟩)] w (FirstP g D x w) := by
  have C := Lib.hid (rline_any h hs)
  have hE := @line_err x
  have hO := fun s r => @lineR_ok x s r
  cases hl : lineR x with
  | error E =>
    have hE := hE hl
    have HE := Lib.hid hl
    have hne : ((E : Int) != 0) = true := by rw [bne_iff_ne]; omega
    clear hl hO hE
    go_enter Tryz.func80, Tryz.ntmps80
    go_wp2_with fail
    go_at_call 92
    refine C.out.mono ?_
    rintro e w1 ⟨hk, hp⟩
    rw [HE.out] at hp
    obtain ⟨rfl, _⟩ := hp
    clear C
    go_wp2_with fail
    go_ret
    unfold FirstP
    rw [HE.out]
    exact ⟨hk, rfl⟩
  | ok v =>
    obtain ⟨s, r⟩ := v
    obtain ⟨_, _, hsl⟩ := hO s r hl
    have HE := Lib.hid hl
    have C1 := Lib.hid fun w => requestOf_any s w (by omega)
    have C2 := Lib.hid fun w hG => responseOf_any s w (by omega) hG
    clear hl hO hE
    cases h1 : reqP s with
    | some v1 =>
      obtain ⟨a, p, n⟩ := v1
      have hF := Lib.hid (show firstP s = some (a, p, n) by unfold firstP; rw [h1])
      rw [h1] at C1
      clear h1 C2 hsl
      have C1 : Hid (∀ w, Calls Tryz.prog 93 #[.string ⟨s.toArray⟩] w fun e w' => e = .returned (.tuple #[.agg #[.string ⟨a.toArray⟩, .string ⟨p.toArray⟩, .int .i64 n, .slice none 0 0, .slice none 0 0], .bool true]) ∧ Below w.heap.size w w') := C1
      go_enter Tryz.func80, Tryz.ntmps80
      go_wp2_with fail
      go_at_call 92
      refine C.out.mono ?_
      rintro e w1 ⟨hk, hp⟩
      rw [HE.out] at hp
      obtain ⟨rfl, A', c', hR⟩ := hp
      clear C
      have HK := Lib.hid hk
      have HR := Lib.hid hR
      clear hk hR
      go_wp2_with fail
      go_at_call 93
      refine (C1.out _).mono ?_
      rintro e w2 ⟨rfl, hb2⟩
      have hb3 := Below.and hb2 (below_new w2 (.cells #[.string ⟨a.toArray⟩, .string ⟨p.toArray⟩, .int .i64 n, .slice none 0 0, .slice none 0 0] 25))
      have HR3 := Lib.hid (HR.out.fresh hb3)
      have HK3 := Lib.hid (HK.out.trans (kp_fresh (g := g) HK.out.size hb3))
      have d1 := HR3.out.c1
      have d2 := HR3.out.c2
      have d3 := HR3.out.c3
      have d4 := HR3.out.c4
      have d5 := HR3.out.c5
      have f1 := HR3.out.f 1 (by decide)
      have f2 := HR3.out.f 2 (by decide)
      have f3 := HR3.out.f 3 (by decide)
      have f4 := HR3.out.f 4 (by decide)
      have f5 := HR3.out.f 5 (by decide)
      clear hb2 hb3
      go_wp2_with fail
      go_ret
      unfold FirstP
      rw [HE.out]
      dsimp only
      rw [hF.out]
      exact ⟨HK3.out.trans (kp_setM _ _ _ _ _ _), rfl, A', c', HR3.out.setM a p n nilV nilV⟩
    | none =>
      rw [h1] at C1
      have C1 : Hid (∀ w, Calls Tryz.prog 93 #[.string ⟨s.toArray⟩] w fun e w' => e = .returned (.tuple #[.agg #[.string ⟨#[]⟩, .string ⟨#[]⟩, .int .i64 0, .slice none 0 0, .slice none 0 0], .bool false]) ∧ Below w.heap.size w w') := C1
      have hF0 : firstP s = ansP s := by unfold firstP; rw [h1]
      cases h2 : ansP s with
      | none =>
        have hF := Lib.hid (hF0.trans h2)
        rw [h2] at C2
        have C2 : Hid (∀ w, Gl w → Calls Tryz.prog 94 #[.string ⟨s.toArray⟩] w fun e w' => e = .returned (.tuple #[.agg #[.string ⟨#[]⟩, .string ⟨#[]⟩, .int .i64 0, .slice none 0 0, .slice none 0 0], .bool false]) ∧ Below w.heap.size w w') := C2
        clear h1 h2 hF0 hsl
        go_enter Tryz.func80, Tryz.ntmps80
        go_wp2_with fail
        go_at_call 92
        refine C.out.mono ?_
        rintro e w1 ⟨hk, hp⟩
        rw [HE.out] at hp
        obtain ⟨rfl, A', c', hR⟩ := hp
        clear C
        have HK := Lib.hid hk
        have HR := Lib.hid hR
        clear hk hR
        go_wp2_with fail
        go_at_call 93
        refine (C1.out _).mono ?_
        rintro e w2 ⟨rfl, hb2⟩
        have hb3 := Below.and hb2 (below_new w2 (.cells #[.string ⟨#[]⟩, .string ⟨#[]⟩, .int .i64 0, .slice none 0 0, .slice none 0 0] 25))
        have hn3 := Cs.new w2 [.string ⟨#[]⟩, .string ⟨#[]⟩, .int .i64 0, .slice none 0 0, .slice none 0 0] 25
        have hgw : g < w2.heap.size := Nat.lt_of_lt_of_le HR.out.cs.lt hb2.size
        have hbw : w.heap.size ≤ w2.heap.size := Nat.le_trans HK.out.size hb2.size
        have HR3 := Lib.hid (HR.out.fresh hb3)
        have HK3 := Lib.hid (HK.out.trans (kp_fresh (g := g) HK.out.size hb3))
        have HN3 : Hid (Cs (w2.alloc (.cells #[.string ⟨#[]⟩, .string ⟨#[]⟩, .int .i64 0, .slice none 0 0, .slice none 0 0] 25)) w2.heap.size [.string ⟨#[]⟩, .string ⟨#[]⟩, .int .i64 0, .slice none 0 0, .slice none 0 0]) := hn3
        have CC := Lib.hid (C2.out _ HR3.out.gl)
        clear hb2 hb3 hn3 C1 C2
        go_wp2_with fail
        generalize w2.alloc (.cells #[.string ⟨#[]⟩, .string ⟨#[]⟩, .int .i64 0, .slice none 0 0, .slice none 0 0] 25) = w3 at *
        generalize w2.heap.size = b5 at *
        go_at_call 94
        refine CC.out.mono ?_
        rintro e w4 ⟨rfl, hb4⟩
        have HR4 := Lib.hid (HR3.out.fresh hb4)
        have HK4 := Lib.hid (HK3.out.trans (kp_fresh (g := g) HK3.out.size hb4))
        have HN4 := Lib.hid (HN3.out.keep hb4.size (hb4.block _ HN3.out.lt))
        have e1 : ¬ (g = b5) := by omega
        have e2 : ¬ (b5 = g) := by omega
        clear hb4 CC HR3 HK3 HN3
        have d1 := HR4.out.c1
        have d2 := HR4.out.c2
        have d3 := HR4.out.c3
        have d4 := HR4.out.c4
        have d5 := HR4.out.c5
        have f1 := HR4.out.f 1 (by decide)
        have f2 := HR4.out.f 2 (by decide)
        have f3 := HR4.out.f 3 (by decide)
        have f4 := HR4.out.f 4 (by decide)
        have f5 := HR4.out.f 5 (by decide)
        have n0 := HN4.out.c 0 (by simp)
        have n1 := HN4.out.c 1 (by simp)
        have n2 := HN4.out.c 2 (by simp)
        have n3 := HN4.out.c 3 (by simp)
        have n4 := HN4.out.c 4 (by simp)
        have m0 := HN4.out.free 0 (by simp)
        have m1 := HN4.out.free 1 (by simp)
        have m2 := HN4.out.free 2 (by simp)
        have m3 := HN4.out.free 3 (by simp)
        have m4 := HN4.out.free 4 (by simp)
        go_wp2_with fail
        go_ret
        unfold FirstP
        rw [HE.out]
        dsimp only
        rw [hF.out]
        exact ⟨HK4.out.trans (kp_below (msg_set_below (Below.refl _ _) hbw _ _ _ _ _)), rfl⟩
      | some v1 =>
        obtain ⟨a, p, n⟩ := v1
        have hF := Lib.hid (hF0.trans h2)
        rw [h2] at C2
        have C2 : Hid (∀ w, Gl w → Calls Tryz.prog 94 #[.string ⟨s.toArray⟩] w fun e w' => e = .returned (.tuple #[.agg #[.string ⟨a.toArray⟩, .string ⟨p.toArray⟩, .int .i64 n, .slice none 0 0, .slice none 0 0], .bool true]) ∧ Below w.heap.size w w') := C2
        clear h1 h2 hF0 hsl
        go_enter Tryz.func80, Tryz.ntmps80
        go_wp2_with fail
        go_at_call 92
        refine C.out.mono ?_
        rintro e w1 ⟨hk, hp⟩
        rw [HE.out] at hp
        obtain ⟨rfl, A', c', hR⟩ := hp
        clear C
        have HK := Lib.hid hk
        have HR := Lib.hid hR
        clear hk hR
        go_wp2_with fail
        go_at_call 93
        refine (C1.out _).mono ?_
        rintro e w2 ⟨rfl, hb2⟩
        have hb3 := Below.and hb2 (below_new w2 (.cells #[.string ⟨#[]⟩, .string ⟨#[]⟩, .int .i64 0, .slice none 0 0, .slice none 0 0] 25))
        have hn3 := Cs.new w2 [.string ⟨#[]⟩, .string ⟨#[]⟩, .int .i64 0, .slice none 0 0, .slice none 0 0] 25
        have hgw : g < w2.heap.size := Nat.lt_of_lt_of_le HR.out.cs.lt hb2.size
        have hbw : w.heap.size ≤ w2.heap.size := Nat.le_trans HK.out.size hb2.size
        have HR3 := Lib.hid (HR.out.fresh hb3)
        have HK3 := Lib.hid (HK.out.trans (kp_fresh (g := g) HK.out.size hb3))
        have HN3 : Hid (Cs (w2.alloc (.cells #[.string ⟨#[]⟩, .string ⟨#[]⟩, .int .i64 0, .slice none 0 0, .slice none 0 0] 25)) w2.heap.size [.string ⟨#[]⟩, .string ⟨#[]⟩, .int .i64 0, .slice none 0 0, .slice none 0 0]) := hn3
        have CC := Lib.hid (C2.out _ HR3.out.gl)
        clear hb2 hb3 hn3 C1 C2
        go_wp2_with fail
        generalize w2.alloc (.cells #[.string ⟨#[]⟩, .string ⟨#[]⟩, .int .i64 0, .slice none 0 0, .slice none 0 0] 25) = w3 at *
        generalize w2.heap.size = b5 at *
        go_at_call 94
        refine CC.out.mono ?_
        rintro e w4 ⟨rfl, hb4⟩
        have HR4 := Lib.hid (HR3.out.fresh hb4)
        have HK4 := Lib.hid (HK3.out.trans (kp_fresh (g := g) HK3.out.size hb4))
        have HN4 := Lib.hid (HN3.out.keep hb4.size (hb4.block _ HN3.out.lt))
        have e1 : ¬ (g = b5) := by omega
        have e2 : ¬ (b5 = g) := by omega
        clear hb4 CC HR3 HK3 HN3
        have d1 := HR4.out.c1
        have d2 := HR4.out.c2
        have d3 := HR4.out.c3
        have d4 := HR4.out.c4
        have d5 := HR4.out.c5
        have f1 := HR4.out.f 1 (by decide)
        have f2 := HR4.out.f 2 (by decide)
        have f3 := HR4.out.f 3 (by decide)
        have f4 := HR4.out.f 4 (by decide)
        have f5 := HR4.out.f 5 (by decide)
        have n0 := HN4.out.c 0 (by simp)
        have n1 := HN4.out.c 1 (by simp)
        have n2 := HN4.out.c 2 (by simp)
        have n3 := HN4.out.c 3 (by simp)
        have n4 := HN4.out.c 4 (by simp)
        have m0 := HN4.out.free 0 (by simp)
        have m1 := HN4.out.free 1 (by simp)
        have m2 := HN4.out.free 2 (by simp)
        have m3 := HN4.out.free 3 (by simp)
        have m4 := HN4.out.free 4 (by simp)
        have HR5 := Lib.hid (HR4.out.low hgw (msg_set_below (Below.refl b5 w4) (Nat.le_refl _) (.string ⟨a.toArray⟩) (.string ⟨p.toArray⟩) (.int .i64 n) (.slice none 0 0) (.slice none 0 0)))
        go_wp2_with fail
        go_ret
        unfold FirstP
        rw [HE.out]
        dsimp only
        rw [hF.out]
        exact ⟨(HK4.out.trans (kp_below (msg_set_below (Below.refl _ _) hbw _ _ _ _ _))).trans (kp_setM _ _ _ _ _ _), rfl, A', c', HR5.out.setM a p n nilV nilV⟩
end Go.Proofs.YthniggdimfldhaaGreatDoor
namespace Go.Proofs.YthniggdimfldhaaGreatDoor
open Go Go.RowKit

/-! 'append(v, x...)': a row of bytes of the call's own, and bytes that a slice holds. -/
theorem run_pushR (w : World) (base : Nat) (ty : TypeId) (v : Value) (l : List UInt8) (D : Nat) (A : Option Addr) (c : Nat) (z : List UInt8) (hown : OwnB w base v l) (hz : Rb D w A c z) (hbase : base ≤ w.heap.size) (hlen : l.length + z.length ≤ 140737488355328) :
    ∃ v' w', (Builtin.append_ #[23, 23] ty #[v, .slice A z.length c]).run Tryz.prog w = .ok v' w' ∧ OwnB w' base v' (l ++ z) ∧ Below base w w' ∧ w.grownBy w' v.ownBlock ∧ (v = .slice none 0 0 ∧ z = [] → v' = .slice none 0 0) := by
  obtain ⟨i0, hi, hz0, hz1, hz2⟩ := info_parts info5
  cases A with
  | none =>
    have hc : c = 0 := hz.nil rfl
    have hz0' : z = [] := List.eq_nil_of_length_eq_zero (by have := hz.cap; omega)
    subst hz0' hc
    obtain ⟨Av, cv, rfl, hrv⟩ := OwnB.rb hown
    refine ⟨_, w, run_append_nothing (P := Tryz.prog) w 23 23 ty 5 i0 Tryz.underlying23 hi Av l.length cv hrv.cap _ (Src.ofNil w Tryz.underlying23 0), by rw [List.append_nil]; exact hown, Below.refl _ _, grownBy_below (Below.refl _ _) _, fun h => h.1⟩
  | some ad =>
    have hnews : ∀ j u, (Lib.byteCells z)[j]? = some u → w.cell? (ad.add j) = some u := fun j u hj => by
      have hjl : j < z.length := by
        have := (List.getElem?_eq_some_iff.1 hj).1
        rwa [Lib.byteCells_length] at this
      obtain ⟨b, off, e, _, hcl⟩ := hz.rd j hjl
      have e := Option.some.inj e
      rw [e, add_pl, hcl, ← hj]
      unfold Lib.byteCells
      rw [List.getElem?_map, List.getElem?_eq_getElem hjl]
      rfl
    obtain ⟨v', w', hr, ho, hg, hnil⟩ := run_append_own (P := Tryz.prog) w base 23 ty 5 i0 (.int .u8 0) 1 1 Tryz.underlying23 hi hz0 hz1 hz2 rfl (by decide) v l.length (Lib.byteCells l) hown
      ad z.length c (Lib.byteCells z) (by rw [Lib.byteCells_length, Nat.mul_one]) hnews (fun u hu => by unfold Lib.byteCells at hu; obtain ⟨y, _, rfl⟩ := List.mem_map.1 hu; rfl) (by unfold maxLen; omega) (by omega) hbase
    refine ⟨v', w', hr, ?_, (Below.refl base w).grown hg hbase (fun k hk => (World.ownsRow.lt hown k hk).1), hg, fun h => hnil.2 ⟨h.1, by rw [h.2]; rfl⟩⟩
    unfold OwnB
    rw [List.length_append]
    simpa [Lib.byteCells] using ho
theorem wpList_pushR {ops : Array Oper} {rest : List Oper} {o : Oper} {a : Act} {Q : Exit → Act → World → Prop} (hgd : o.guard = none) (s x : Operand)
    (ho : o.op = .call { callee := .builtin .append, args := #[s, x], argTypes := #[23, 23] }) (w : World) (base : Nat) (v : Value) (l : List UInt8) (D : Nat) (A : Option Addr) (c n : Nat) (z : List UInt8) (hn : n = z.length)
    (hs : a.eval s = v) (hx : a.eval x = .slice A n c) (hown : OwnB w base v l) (hz : Rb D w A c z) (hbase : base ≤ w.heap.size) (hlen : l.length + z.length ≤ 140737488355328)
    (h : ∀ (A' : Option Addr) (c' : Nat) w', OwnB w' base (.slice A' (l.length + n) c') (l ++ z) → Below base w w' → w.grownBy w' v.ownBlock → wpList Tryz.prog ops Q rest (a.put o.dst (.slice A' (l.length + n) c')) w') :
    wpList Tryz.prog ops Q (o :: rest) a w := by
  subst hn
  refine wpList_plain hgd fun K hK => ?_
  obtain ⟨v', w', hr, h2, h3, h4, h5⟩ := run_pushR w base o.type v l D A c z hown hz hbase hlen
  obtain ⟨A', c', e, _⟩ := OwnB.rb h2
  rw [List.length_append] at e
  subst e
  unfold Oper.wp execOp
  simp only [ho, resolve, invoke, builtin, Sem.run_bind, Sem.run_pure, Result.andThen_ok, List.map_toArray, List.map_cons, List.map_nil, hs, hx, hr]
  exact hK _ _ (h A' c' w' h2 h3 h4)
/-- what part leaves -/
def PartP (g D : Nat) (A : Option Addr) (c : Nat) (x a p : List UInt8) (n : Int) (hV bV : Value) (ch : Bool) (k : Int) (m : Nat) (w : World) (e : Ending) (w' : World) : Prop :=
  Kp g w.heap.size w w' ∧ match takeR m x with
    | .error E => e = .returned (.tuple #[.slice none 0 0, .int .i64 E]) ∧ RSt w' g D A c x a p n hV bV ch k
    | .ok (s, r) => e = .returned (.tuple #[.slice A m c, .int .i64 0]) ∧ s.length = m ∧ Rb D w' A c s ∧ ∃ A' c', RSt w' g D A' c' r a p n hV bV ch k
set_option maxRecDepth 100000 in
theorem part_any {w : World} {g D : Nat} {A : Option Addr} {c : Nat} {x a p : List UInt8} {n : Int} {hV bV : Value} {ch : Bool} {k : Int} (h : RSt w g D A c x a p n hV bV ch k) (_hs : x.length ≤ 1000000) (m : Nat) (hm : m ≤ 1000000) :
    Calls Tryz.prog 98 #[.pointer (some ⟨g, 0, none⟩), .int .i64 m] w (PartP g D A c x a p n hV bV ch k m w) := by
  have d0 := h.c0
  have f0 := h.f 0 (by decide)
  have H := Lib.hid h
  have hcap := h.rb.cap
  by_cases hl : x.length < m
  · have hlz : ((x.length : Int) < (m : Int)) := by omega
    have HE := Lib.hid (show takeR m x = .error 3 by unfold takeR; rw [if_pos hl])
    clear h hl
    go_enter Tryz.func98, Tryz.ntmps98
    go_wp2_with fail
    go_ret2
    unfold PartP
    rw [HE.out]
    exact ⟨Kp.refl _ _ _, rfl, H.out⟩
  · have hlz : ¬ ((x.length : Int) < (m : Int)) := by omega
    have HE := Lib.hid (show takeR m x = .ok (x.take m, x.drop m) by unfold takeR; rw [if_neg hl])
    have hml : (m : Int) ≤ x.length := by omega
    have hmc : (m : Int) ≤ c := by omega
    have hrt := Lib.hid (h.rb.take m)
    have hrd := h.rb.drop m (by omega)
    have hdl : (x.drop m).length = x.length - m := List.length_drop
    have htl := Lib.hid (show (x.take m).length = m by rw [List.length_take]; omega)
    have hset := fun {A' : Option Addr} {c' : Nat} (hr : Rb D w A' c' (x.drop m)) => h.set0 hr
    have hDg := h.dg
    by_cases hcm : c = m
    · rw [if_pos hcm] at hrd
      have hset := Lib.hid (hset hrd)
      subst hcm
      rw [hdl, show x.length - c = 0 by omega, Nat.sub_self] at hset
      have hkeep := Lib.hid (hrt.out.keep (w' := w.setCell ⟨g, 0, none⟩ (.slice A 0 0)) fun j hj => Below.heap_setCell _ _ _ _ (by show j ≠ g; omega))
      clear h hl hrd hdl hDg
      go_enter Tryz.func98, Tryz.ntmps98
      go_wp2_with fail
      go_ret2
      unfold PartP
      rw [HE.out]
      exact ⟨kp_set w 0 _, rfl, htl.out, hkeep.out, _, _, hset.out⟩
    · rw [if_neg hcm] at hrd
      have hset := Lib.hid (hset hrd)
      rw [hdl] at hset
      obtain ⟨ad, rfl⟩ : ∃ ad, A = some ad := by
        cases A with
        | none => exact absurd (show c = m by have := h.rb.nil rfl; omega) hcm
        | some ad => exact ⟨ad, rfl⟩
      have hset : Hid (RSt (w.setCell ⟨g, 0, none⟩ (.slice (some (ad.add m)) (x.length - m) (c - m))) g D (some (ad.add m)) (c - m) (x.drop m) a p n hV bV ch k) := hset
      have hkeep := Lib.hid (hrt.out.keep (w' := w.setCell ⟨g, 0, none⟩ (.slice (some (ad.add m)) (x.length - m) (c - m))) fun j hj => Below.heap_setCell _ _ _ _ (by show j ≠ g; omega))
      clear h hl hrd hdl hDg
      go_enter Tryz.func98, Tryz.ntmps98
      go_wp2_with fail
      go_ret2
      unfold PartP
      rw [HE.out]
      exact ⟨kp_set w 0 _, rfl, htl.out, hkeep.out, _, _, hset.out⟩
end Go.Proofs.YthniggdimfldhaaGreatDoor
namespace Go.Proofs.YthniggdimfldhaaGreatDoor
open Go Go.RowKit

/-- A chunk: its bytes. -/
def chunkR (have_ : Nat) : Rdr (List UInt8) := rBind lineR fun s => match numO 16 s with
  | none => rFail 4
  | some n => if 2000 < have_ + n then rFail 5 else rBind (takeR (n + 2)) fun p => if Lib.hasSuffix p [13, 10] = true then rPure (p.take n) else rFail 4
theorem chunks_step (f have_ : Nat) (x : List UInt8) : chunksR (f + 1) have_ x = match chunkR have_ x with
    | .error e => .error e
    | .ok (p, r) => if p = [] then .ok ([], r) else match chunksR f (have_ + p.length) r with
      | .error e => .error e
      | .ok (b, r') => .ok (p ++ b, r') := by
  conv => lhs; unfold chunksR
  unfold chunkR rBind
  cases lineR x with
  | error e => rfl
  | ok v =>
    obtain ⟨s, r⟩ := v
    dsimp only
    cases numO 16 s with
    | none => rfl
    | some n =>
      dsimp only
      by_cases h : 2000 < have_ + n
      · rw [if_pos h, if_pos h]; rfl
      · rw [if_neg h, if_neg h]
        cases ht : takeR (n + 2) r with
        | error e => rfl
        | ok v =>
          obtain ⟨p, r2⟩ := v
          have hp : p.length = n + 2 := by
            unfold takeR at ht
            split at ht
            · cases ht
            · simp only [Except.ok.injEq, Prod.mk.injEq] at ht
              rw [← ht.1, List.length_take]; omega
          have hpl : (p.take n).length = n := by rw [List.length_take]; omega
          dsimp only
          by_cases hs : Lib.hasSuffix p [13, 10] = true
          · rw [if_pos hs, if_pos hs]
            by_cases h0 : n = 0
            · subst h0
              rw [if_pos rfl]
              have : p.take 0 = [] := rfl
              unfold rPure
              dsimp only
              rw [if_pos this]
            · rw [if_neg h0]
              unfold rPure
              dsimp only
              rw [if_neg (fun e => h0 (by rw [← hpl, e]; rfl)), hpl]
              cases chunksR f (have_ + n) r2 with
              | error e => rfl
              | ok v => obtain ⟨b, r'⟩ := v; rfl
          · rw [if_neg hs, if_neg hs]; rfl
/-- what a chunk's reader leaves -/
def ChunkP (g D : Nat) (x a p : List UInt8) (n : Int) (hV bV : Value) (ch : Bool) (k : Int) (m : Nat) (w : World) (e : Ending) (w' : World) : Prop :=
  Kp g w.heap.size w w' ∧ match chunkR m x with
    | .error E => e = .returned (.tuple #[.slice none 0 0, .int .i64 E]) ∧ E ≠ 0
    | .ok (s, r) => ∃ A c A' c', e = .returned (.tuple #[.slice A s.length c, .int .i64 0]) ∧ m + s.length ≤ 2000 ∧ r.length ≤ 1000000 ∧ Rb D w' A c s ∧ RSt w' g D A' c' r a p n hV bV ch k
theorem rBind_ok {α β : Type} {p : Rdr α} {q : α → Rdr β} {x : List UInt8} {a : α} {r : List UInt8} (h : p x = .ok (a, r)) : rBind p q x = q a r := by unfold rBind; rw [h]
theorem rBind_err {α β : Type} {p : Rdr α} {q : α → Rdr β} {x : List UInt8} {E : Int} (h : p x = .error E) : rBind p q x = .error E := by unfold rBind; rw [h]
theorem rPure_ok {α : Type} (a : α) (x : List UInt8) : rPure a x = .ok (a, x) := rfl
theorem take_rest {m : Nat} {x s r : List UInt8} (h : takeR m x = .ok (s, r)) : r.length ≤ x.length := by
  unfold takeR at h
  split at h
  · cases h
  · simp only [Except.ok.injEq, Prod.mk.injEq] at h
    rw [← h.2, List.length_drop]; omega
theorem suffix_crlf {D : Nat} {A : Option Addr} {c n : Nat} {s : List UInt8} {w : World} (h : Rb D w A c s) (hn : s.length = n) (hD : D ≤ w.heap.size) (hs : s.length ≤ 1000000) (z : Bool) (hz : Lib.hasSuffix s [13, 10] = z) :
    Calls Tryz.prog 116 #[.slice A n c, .slice (some ⟨w.heap.size, 0, none⟩) 2 2] (crlfW w) fun e w' => e = .returned (.tuple #[Lib.trimSuffixV A n c (ints s) [13, 10], .bool z]) ∧ w' = crlfW w := by
  subst hn hz
  have h1 : Rb D (crlfW w) A c s := h.keep fun k hk => (crlf_below w).block k (by omega)
  have := Tryz.bytes_CutSuffix_all A (some ⟨w.heap.size, 0, none⟩) s.length c 2 2 (ints s) [13, 10] (crlfW w) (ints_len s) rfl h.cap (by omega) h1.bytesIn (crlf_in w)
  rw [ints_of] at this
  exact this
theorem trimV_yes {D : Nat} {A : Option Addr} {c n : Nat} {s : List UInt8} {w : World} (h : Rb D w A c s) (hn : s.length = n) (hz : Lib.hasSuffix s [13, 10] = true) : Lib.trimSuffixV A n c (ints s) [13, 10] = .slice A (n - 2) c ∧ 2 ≤ n := by
  have h2 : 2 ≤ s.length := by
    obtain ⟨t, ht⟩ := List.isSuffixOf_iff_suffix.1 hz
    rw [← ht, List.length_append]; simp
  obtain ⟨b, off, rfl, _, _⟩ := h.rd 0 (by omega)
  refine ⟨?_, by omega⟩
  show Lib.bytesTrimSuffix b off n c (ints s) [13, 10] = _
  unfold Lib.bytesTrimSuffix
  rw [ints_of, show Lib.bytesOf [13, 10] = [13, 10] from rfl, if_pos hz]
  rfl
set_option maxRecDepth 100000 in
set_option maxHeartbeats 4000000 in
theorem chunk_any {w : World} {g D : Nat} {A : Option Addr} {c : Nat} {x a p : List UInt8} {n : Int} {hV : Value} {ch : Bool} {k : Int} {Ab : Option Addr} {m cb : Nat} (h : RSt w g D A c x a p n hV (.slice Ab m cb) ch k) (hs : x.length ≤ 1000000) (hm : m ≤ 2000) :
    Calls Tryz.prog 99 #[.pointer (some ⟨g, 0, none⟩)] w (ChunkP g D x a p n hV (.slice Ab m cb) ch k m w) := by
  have C := Lib.hid (rline_any h hs)
  have hE := @line_err x
  have hO := fun s r => @lineR_ok x s r
  cases hl : lineR x with
  | error E =>
    have hE := hE hl
    have HE := Lib.hid hl
    have HF := Lib.hid (show chunkR m x = .error E by unfold chunkR; exact rBind_err hl)
    have hne : ((E : Int) != 0) = true := by rw [bne_iff_ne]; omega
    have hne2 := Lib.hid (show E ≠ 0 by omega)
    clear hl hO hE
    go_enter Tryz.func99, Tryz.ntmps99
    go_wp2_with fail
    go_at_call 92
    refine C.out.mono ?_
    rintro e w1 ⟨hk, hp⟩
    rw [HE.out] at hp
    obtain ⟨rfl, _⟩ := hp
    clear C
    go_wp2_with fail
    go_ret2
    unfold ChunkP
    rw [HF.out]
    exact ⟨hk, rfl, hne2.out⟩
  | ok v =>
    obtain ⟨s, r⟩ := v
    obtain ⟨hxs, _, hsl⟩ := hO s r hl
    have hrl : r.length ≤ 1000000 := by rw [hxs] at hs; simp at hs; omega
    have HE := Lib.hid hl
    have HF := Lib.hid (show chunkR m x = (match numO 16 s with
        | none => rFail 4
        | some n => if 2000 < m + n then rFail 5 else rBind (takeR (n + 2)) fun p => if Lib.hasSuffix p [13, 10] = true then rPure (p.take n) else rFail 4) r by
      unfold chunkR
      exact rBind_ok hl)
    have C1 := fun w hG => number16_any s (by omega) w hG
    unfold numV at C1
    have C1 := Lib.hid C1
    have hlt := fun v => @numO_lt 16 (.inr rfl) s v
    clear hl hO hE hxs
    cases ho : numO 16 s with
    | none =>
      rw [ho] at C1 HF
      have HF : Hid (chunkR m x = .error 4) := HF
      have C1 : Hid (∀ w, Gl w → Calls Tryz.prog 96 #[.string ⟨s.toArray⟩, .int .i64 16] w fun e w' => e = .returned (.tuple #[.int .i64 0, .bool false]) ∧ Below w.heap.size w w') := C1
      clear ho hlt
      go_enter Tryz.func99, Tryz.ntmps99
      go_wp2_with fail
      go_at_call 92
      refine C.out.mono ?_
      rintro e w1 ⟨hk, hp⟩
      rw [HE.out] at hp
      obtain ⟨rfl, A', c', hR⟩ := hp
      clear C
      have HK := Lib.hid hk
      have HR := Lib.hid hR
      clear hk hR
      go_wp2_with fail
      go_at_call 96
      refine (C1.out _ HR.out.gl).mono ?_
      rintro e w2 ⟨rfl, hb2⟩
      go_wp2_with fail
      go_ret2
      unfold ChunkP
      rw [HF.out]
      exact ⟨HK.out.trans (kp_fresh HK.out.size hb2), rfl, by decide⟩
    | some v =>
      have hv := hlt v ho
      rw [ho] at C1 HF
      have C1 : Hid (∀ w, Gl w → Calls Tryz.prog 96 #[.string ⟨s.toArray⟩, .int .i64 16] w fun e w' => e = .returned (.tuple #[.int .i64 v, .bool true]) ∧ Below w.heap.size w w') := C1
      have HF : Hid (chunkR m x = (if 2000 < m + v then rFail 5 else rBind (takeR (v + 2)) fun p => if Lib.hasSuffix p [13, 10] = true then rPure (p.take v) else rFail 4) r) := HF
      clear ho hlt
      have iv : (0 : Int) ≤ v := by omega
      have iv2 : (v : Int) ≤ 65536 := by omega
      have im : (m : Int) ≤ 2000 := by omega
      have im0 : (0 : Int) ≤ m := by omega
      by_cases h2 : 2000 < m + v
      · rw [if_pos h2] at HF
        have HF : Hid (chunkR m x = .error 5) := HF
        have h2z : (2000 : Int) < (m : Int) + (v : Int) := by omega
        clear h2
        go_enter Tryz.func99, Tryz.ntmps99
        go_wp2_with fail
        go_at_call 92
        refine C.out.mono ?_
        rintro e w1 ⟨hk, hp⟩
        rw [HE.out] at hp
        obtain ⟨rfl, A', c', hR⟩ := hp
        clear C
        have HK := Lib.hid hk
        have HR := Lib.hid hR
        clear hk hR
        go_wp2_with fail
        go_at_call 96
        refine (C1.out _ HR.out.gl).mono ?_
        rintro e w2 ⟨rfl, hb2⟩
        have HR2 := Lib.hid (HR.out.fresh hb2)
        have HK2 := Lib.hid (HK.out.trans (kp_fresh (g := g) HK.out.size hb2))
        have d5 := HR2.out.c5
        clear hb2
        go_wp2_with fail
        go_ret2
        unfold ChunkP
        rw [HF.out]
        exact ⟨HK2.out, rfl, by decide⟩
      · rw [if_neg h2] at HF
        have h2z : ¬ (2000 : Int) < (m : Int) + (v : Int) := by omega
        have hv2 : v ≤ 2000 := by omega
        clear h2
        go_enter Tryz.func99, Tryz.ntmps99
        go_wp2_with fail
        go_at_call 92
        refine C.out.mono ?_
        rintro e w1 ⟨hk, hp⟩
        rw [HE.out] at hp
        obtain ⟨rfl, A', c', hR⟩ := hp
        clear C
        have HK := Lib.hid hk
        have HR := Lib.hid hR
        clear hk hR
        go_wp2_with fail
        go_at_call 96
        refine (C1.out _ HR.out.gl).mono ?_
        rintro e w2 ⟨rfl, hb2⟩
        have HR2 := Lib.hid (HR.out.fresh hb2)
        have HK2 := Lib.hid (HK.out.trans (kp_fresh (g := g) HK.out.size hb2))
        have d5 := HR2.out.c5
        have CP := part_any HR2.out hrl (v + 2) (by omega)
        rw [show ((v + 2 : Nat) : Int) = (v : Int) + 2 by omega] at CP
        have CP := Lib.hid CP
        clear hb2
        go_wp2_with fail
        go_at_call 98
        refine CP.out.mono ?_
        rintro e w3 ⟨hk3, hp3⟩
        have HK3 := Lib.hid (HK2.out.trans (hk3.mono HK2.out.size))
        clear hk3 CP
        cases ht : takeR (v + 2) r with
        | error E3 =>
          have hE3 : E3 = 3 := by
            unfold takeR at ht
            split at ht
            · cases ht; rfl
            · cases ht
          subst hE3
          rw [ht] at hp3
          obtain ⟨rfl, _⟩ := hp3
          have HF2 := Lib.hid (show chunkR m x = .error 3 by rw [HF.out]; exact rBind_err ht)
          clear ht HF
          go_wp2_with fail
          go_ret2
          unfold ChunkP
          rw [HF2.out]
          exact ⟨HK3.out, rfl, by decide⟩
        | ok v3 =>
          obtain ⟨s3, r3⟩ := v3
          rw [ht] at hp3
          obtain ⟨rfl, hl3, hrb3, A3, c3, hR3⟩ := hp3
          have HF2 := Lib.hid (show chunkR m x = (if Lib.hasSuffix s3 [13, 10] = true then rPure (s3.take v) else rFail 4) r3 by rw [HF.out]; exact rBind_ok ht)
          have HR3 := Lib.hid hR3
          have HRB := Lib.hid hrb3
          have hr3l : r3.length ≤ 1000000 := Nat.le_trans (take_rest ht) hrl
          have hDw : D ≤ w3.heap.size := Nat.le_trans hR3.dg (Nat.le_of_lt hR3.cs.lt)
          have kc := fun (w : World) (C : Array Value) (n c : Nat) => Lib.run_convert_bytes_const (P := Tryz.prog) w 23 5 C n c Tryz.underlying23 Tryz.underlying5
          have HB3 := Lib.hid (crlf_below w3)
          clear ht HF hrb3 hR3
          cases hz : Lib.hasSuffix s3 [13, 10] with
          | false =>
            have CS := Lib.hid (suffix_crlf HRB.out hl3 hDw (by omega) false hz)
            rw [hz] at HF2
            have HF2 : Hid (chunkR m x = .error 4) := HF2
            generalize Lib.trimSuffixV A' (v + 2) c' (ints s3) [13, 10] = tv at *
            clear hz hDw hl3
            go_wp2_with fail
            go_at_call 116
            refine CS.out.mono ?_
            rintro e w4 ⟨rfl, rfl⟩
            clear CS kc
            go_wp2_with fail
            go_ret2
            unfold ChunkP
            rw [HF2.out]
            exact ⟨HK3.out.trans (kp_fresh HK3.out.size HB3.out), rfl, by decide⟩
          | true =>
            have CS := suffix_crlf HRB.out hl3 hDw (by omega) true hz
            rw [(trimV_yes HRB.out hl3 hz).1, show v + 2 - 2 = v by omega] at CS
            have CS := Lib.hid CS
            rw [hz] at HF2
            have HF2 : Hid (chunkR m x = .ok (s3.take v, r3)) := HF2
            have htl := Lib.hid (show (s3.take v).length = v by rw [List.length_take]; omega)
            have HRT := Lib.hid ((HRB.out.take v).keep (w' := crlfW w3) fun j hj => HB3.out.block j (by omega))
            have HR4 := Lib.hid (HR3.out.fresh HB3.out)
            clear hz hDw hl3
            go_wp2_with fail
            go_at_call 116
            refine CS.out.mono ?_
            rintro e w4 ⟨rfl, rfl⟩
            clear CS kc
            go_wp2_with fail
            go_ret2
            unfold ChunkP
            rw [HF2.out]
            exact ⟨HK3.out.trans (kp_fresh HK3.out.size HB3.out), A', c', A3, c3, by rw [htl.out]; rfl, by rw [htl.out]; omega, hr3l, HRT.out, HR4.out⟩
/-- what the body's reader leaves -/
def BodyP (g D : Nat) (x a p : List UInt8) (n : Int) (hV : Value) (ch : Bool) (k : Nat) (w : World) (e : Ending) (w' : World) : Prop :=
  Kp g w.heap.size w w' ∧ match (if ch = true then chunksR 2001 0 else takeR k) x with
    | .error E => e = .returned (.int .i64 E) ∧ E ≠ 0
    | .ok (b, r) => e = .returned (.int .i64 0) ∧ b.length ≤ 2000 ∧ ∃ A' c' bV, RSt w' g D A' c' r a p n hV bV ch k ∧ OwnB w' w.heap.size bV b
theorem OwnB.lt {w : World} {base : Nat} {v : Value} {l : List UInt8} (h : OwnB w base v l) (k : Nat) (hk : v.ownBlock = some k) : base ≤ k := (World.ownsRow.lt h k hk).1
theorem OwnB.kept {w w' : World} {base : Nat} {v : Value} {l : List UInt8} (h : OwnB w base v l) {g : Nat} (hg : g < base) (hk : Kp g w.heap.size w w') : OwnB w' base v l := by
  refine World.ownsRow.kept h (row := some g) ⟨hk.os, hk.tape, hk.output, hk.size, fun k hk1 hk2 => hk.block k hk1 (fun e => hk2 (by rw [e]))⟩ (.inr fun e => ?_)
  have := h.lt g e
  omega
theorem OwnB.set {w : World} {base : Nat} {v : Value} {l : List UInt8} (h : OwnB w base v l) {g : Nat} (hg : g < base) (j : Nat) (u : Value) : OwnB (w.setCell ⟨g, j, none⟩ u) base v l := h.kept hg (kp_set w j u)
theorem take_err {m : Nat} {x : List UInt8} {E : Int} (h : takeR m x = .error E) : E = 3 := by
  unfold takeR at h
  split at h
  · cases h; rfl
  · cases h
theorem take_len {m : Nat} {x s r : List UInt8} (h : takeR m x = .ok (s, r)) : s.length = m := by
  unfold takeR at h
  split at h
  · cases h
  · simp only [Except.ok.injEq, Prod.mk.injEq] at h
    rw [← h.1, List.length_take]; omega
set_option maxRecDepth 100000 in
set_option maxHeartbeats 4000000 in
theorem body_plain {w : World} {g D : Nat} {A : Option Addr} {c : Nat} {x a p : List UInt8} {n : Int} {hV : Value} {k : Nat} (h : RSt w g D A c x a p n hV nilV false k) (hs : x.length ≤ 1000000) (hk : k ≤ 2000) :
    Calls Tryz.prog 83 #[.pointer (some ⟨g, 0, none⟩)] w (BodyP g D x a p n hV false k w) := by
  have CP := Lib.hid (part_any h hs k (by omega))
  have d6 := h.c6
  have d7 := h.c7
  have hgw := h.cs.lt
  clear h
  cases ht : takeR k x with
  | error E =>
    have hE := take_err ht
    subst hE
    have HF := Lib.hid (show (if false = true then chunksR 2001 0 else takeR k) x = .error 3 by rw [if_neg (by decide), ht])
    go_enter Tryz.func83, Tryz.ntmps83
    go_wp2_with fail
    go_at_call 98
    refine CP.out.mono ?_
    rintro e w1 ⟨hk1, hp⟩
    rw [ht] at hp
    obtain ⟨rfl, hR⟩ := hp
    have HK := Lib.hid hk1
    have HR := Lib.hid hR
    have d5 := hR.c5
    have f5 := hR.f 5 (by decide)
    clear CP hk1 hR ht d6 d7
    have hnil := OwnB.nil w1 w1.heap.size
    have hrbn : Rb D w1 none 0 [] := ⟨Nat.le_refl _, fun _ => rfl, fun i hi => by simp at hi⟩
    go_wp2_with (at_builtin; refine wpList_pushR rfl (.tmp 26) (.tmp 27) rfl w1 w1.heap.size (.slice none 0 0) [] D none 0 0 [] rfl rfl rfl hnil hrbn (Nat.le_refl _) (by decide) ?_; intro A2 c2 w2 hown2 hb2 hg2; have q5 := (HR.out.fresh hb2).c5; have q6 := (HR.out.fresh hb2).f 5 (by decide); have KB := Lib.hid hb2)
    go_ret
    unfold BodyP
    rw [HF.out]
    exact ⟨HK.out.trans ((kp_fresh HK.out.size KB.out).trans (kp_set _ 5 _)), rfl, by decide⟩
  | ok v =>
    obtain ⟨s, r⟩ := v
    have HF := Lib.hid (show (if false = true then chunksR 2001 0 else takeR k) x = .ok (s, r) by rw [if_neg (by decide), ht])
    have hsl := take_len ht
    go_enter Tryz.func83, Tryz.ntmps83
    go_wp2_with fail
    go_at_call 98
    refine CP.out.mono ?_
    rintro e w1 ⟨hk1, hp⟩
    rw [ht] at hp
    obtain ⟨rfl, _, hrb, A', c', hR⟩ := hp
    have HK := Lib.hid hk1
    have HR := Lib.hid hR
    have d5 := hR.c5
    have f5 := hR.f 5 (by decide)
    have hlt1 := hR.cs.lt
    have HSL := Lib.hid hsl
    have hsl2 : s.length ≤ 2000 := by omega
    clear CP hk1 hR ht d6 d7 hsl
    have hnil := OwnB.nil w1 w.heap.size
    go_wp2_with (at_builtin; (refine wpList_pushR rfl (.tmp 26) (.tmp 27) rfl w1 w.heap.size (.slice none 0 0) [] D A c k s HSL.out.symm rfl rfl hnil hrb HK.out.size (by show 0 + s.length ≤ _; omega) ?_; intro A2 c2 w2 hown2 hb2 hg2; have HR2 := Lib.hid (HR.out.low hgw hb2); have q5 := HR2.out.c5; have q6 := HR2.out.f 5 (by decide); have KB := Lib.hid hb2))
    go_ret
    unfold BodyP
    rw [HF.out]
    exact ⟨HK.out.trans ((kp_below KB.out).trans (kp_set _ 5 _)), rfl, hsl2, A', c', _, HR2.out.set5 _, by rw [show ([] : List UInt8).length + k = k from Nat.zero_add k] at hown2; exact OwnB.set hown2 hgw 5 _⟩
set_option maxRecDepth 100000 in
set_option maxHeartbeats 4000000 in
theorem body_chunks {w : World} {g D : Nat} {A : Option Addr} {c : Nat} {x a p : List UInt8} {n : Int} {hV : Value} {k : Nat} (h : RSt w g D A c x a p n hV nilV true k) (hs : x.length ≤ 1000000) :
    Calls Tryz.prog 83 #[.pointer (some ⟨g, 0, none⟩)] w (BodyP g D x a p n hV true k w) := by
  have d6 := h.c6
  have hgw := h.cs.lt
  have H := Lib.hid h
  clear h
  go_enter Tryz.func83, Tryz.ntmps83
  go_wp2_with fail
  clear d6
  go_loopg [] 2001 (fun f wr => ∃ (A1 : Option Addr) (c1 : Nat) (x1 b : List UInt8) (Ab : Option Addr) (cb : Nat), Hid (RSt wr g D A1 c1 x1 a p n hV (.slice Ab b.length cb) true k ∧ OwnB wr w.heap.size (.slice Ab b.length cb) b ∧ Kp g w.heap.size w wr ∧ x1.length ≤ 1000000 ∧
    b.length ≤ 2000 ∧ 2001 ≤ f + b.length ∧ chunksR 2001 0 x = match chunksR f b.length x1 with
      | .error e => .error e
      | .ok (b', r) => .ok (b ++ b', r)))
  case atStart =>
    refine ⟨A, c, x, [], none, 0, ⟨H.out, OwnB.nil _ _, Kp.refl _ _ _, hs, Nat.zero_le _, Nat.le_refl _, ?_⟩⟩
    cases chunksR 2001 0 x with
    | error e => rfl
    | ok v => rfl
  case round =>
    obtain ⟨A1, c1, x1, b, Ab, cb, HI⟩ := hrel
    obtain ⟨hR, hO, hK, hx1, hb2, hf, hch⟩ := HI.out
    obtain ⟨f, rfl⟩ : ∃ f, gk = f + 1 := ⟨gk - 1, by omega⟩
    have HR := Lib.hid hR
    have HO := Lib.hid hO
    have HK := Lib.hid hK
    have HCH := Lib.hid hch
    have CP := Lib.hid (chunk_any hR hx1 hb2)
    have hst := chunks_step f b.length x1
    clear HI hR hO hK hch
    go_wp2_with fail
    go_at_call 99
    refine CP.out.mono ?_
    rintro e w1 ⟨hk1, hp⟩
    clear CP
    have HK1 := Lib.hid (HK.out.trans (hk1.mono HK.out.size))
    cases ht : chunkR b.length x1 with
    | error E =>
      rw [ht] at hp hst
      obtain ⟨rfl, hne⟩ := hp
      have HF := Lib.hid (show chunksR 2001 0 x = .error E by rw [HCH.out, hst])
      have hne1 : ((E : Int) != 0) = true := by rw [bne_iff_ne]; exact hne
      have HNE := Lib.hid hne
      clear ht hst HCH hk1 hne
      go_wp2_with fail
      go_ret
      unfold BodyP
      rw [if_pos rfl, HF.out]
      exact ⟨HK1.out, rfl, HNE.out⟩
    | ok v =>
      obtain ⟨s, r⟩ := v
      rw [ht] at hp hst
      obtain ⟨As, cs, A2, c2, rfl, hsl, hrl, hrb, hR2⟩ := hp
      have HR2 := Lib.hid hR2
      have HO1 := Lib.hid (HO.out.kept hgw (hk1.mono (Nat.le_refl _)))
      dsimp only at hst
      by_cases h0 : s = []
      · subst h0
        rw [if_pos rfl] at hst
        have HF := Lib.hid (show chunksR 2001 0 x = .ok (b, r) by rw [HCH.out, hst]; dsimp only; rw [List.append_nil])
        clear ht hst HCH hk1 hR2
        go_wp2_with fail
        go_ret
        unfold BodyP
        rw [if_pos rfl, HF.out]
        exact ⟨HK1.out, rfl, hb2, A2, c2, _, HR2.out, HO1.out⟩
      · rw [if_neg h0] at hst
        have hs1 : 1 ≤ s.length := by cases s with | nil => exact absurd rfl h0 | cons y t => simp
        have hsz : ((s.length : Int) == 0) = false := by rw [beq_eq_false_iff_ne]; omega
        have HF := Lib.hid (show chunksR 2001 0 x = (match chunksR f (b ++ s).length r with
            | .error e => .error e
            | .ok (b', r') => .ok ((b ++ s) ++ b', r')) by
          rw [HCH.out, hst, List.length_append]
          cases chunksR f (b.length + s.length) r with
          | error e => rfl
          | ok v => dsimp only; rw [List.append_assoc])
        have d5 := hR2.c5
        have HRB := Lib.hid hrb
        have hbs : b.length + s.length ≤ 140737488355328 := by omega
        clear ht hst HCH hk1 hR2 hrb h0
        go_wp2_with (at_builtin; refine wpList_pushR rfl (.tmp 51) (.tmp 52) rfl w1 w.heap.size (.slice Ab b.length cb) b D As cs s.length s rfl rfl rfl HO1.out HRB.out HK1.out.size hbs ?_; intro A3 c3 w3 hown3 hb3 hg3; have HR3 := Lib.hid (HR2.out.low hgw hb3); have q5 := HR3.out.c5; have q6 := HR3.out.f 5 (by decide); have KB := Lib.hid hb3; have HO3 := Lib.hid hown3; clear hown3 hg3)
        go_roundg f
        case measure => omega
        case rel =>
          have e1 : (b ++ s).length = b.length + s.length := List.length_append
          refine ⟨A2, c2, r, b ++ s, A3, c3, ⟨?_, ?_, HK1.out.trans ((kp_below KB.out).trans (kp_set _ 5 _)), hrl, by omega, by omega, HF.out⟩⟩
          · rw [e1]; exact HR3.out.set5 _
          · rw [e1]; exact OwnB.set HO3.out hgw 5 _
end Go.Proofs.YthniggdimfldhaaGreatDoor
