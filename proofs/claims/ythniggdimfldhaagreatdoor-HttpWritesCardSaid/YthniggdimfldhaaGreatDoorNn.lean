/- The reader: header lines. -/
import Derived.Test.YthniggdimfldhaaGreatDoorNm
import Derived.Test.YthniggdimfldhaaGreatDoorHt
import Derived.Deep.RegionLaw
namespace Go.Proofs.YthniggdimfldhaaGreatDoor
open Go Go.RowKit

theorem heads_step (k : Nat) (x : List UInt8) : headsR k x = match lineR x with
    | .error e => .error e
    | .ok (s, r) => if s = [] then .ok ([], r) else match k with
      | 0 => .error 4
      | k + 1 => match lineP s with
        | none => .error 40
        | some h => match headsR k r with
          | .error e => .error e
          | .ok (l, r') => .ok (h :: l, r') := by
  cases k with
  | zero =>
    conv => lhs; unfold headsR rBind
    cases lineR x with
    | error e => rfl
    | ok v =>
      obtain ⟨s, r⟩ := v
      dsimp only
      split <;> rfl
  | succ k =>
    conv => lhs; unfold headsR rBind
    cases lineR x with
    | error e => rfl
    | ok v =>
      obtain ⟨s, r⟩ := v
      dsimp only
      by_cases h : s = []
      · rw [if_pos h, if_pos h]; rfl
      · rw [if_neg h, if_neg h]
        cases lineP s with
        | none => rfl
        | some h =>
          dsimp only
          cases headsR k r with
          | error e => rfl
          | ok v => rfl
theorem lineP_ok {s : List UInt8} {h : Hd} (e : lineP s = some h) : okH h = true := by
  unfold lineP at e
  split at e
  · cases e
  · split at e
    · split at e
      · rename_i h2; cases e; exact h2
      · cases e
    · cases e
/-- what the header lines' reader leaves -/
def HeadsP (g D : Nat) (x a p : List UInt8) (n : Int) (ch : Bool) (k : Int) (w : World) (e : Ending) (w' : World) : Prop :=
  Kp g w.heap.size w w' ∧ match headsR 20 x with
    | .error E => e = .returned (.int .i64 E) ∧ E ≠ 0
    | .ok (l, r) => e = .returned (.int .i64 0) ∧ l.length ≤ 20 ∧ (∀ h ∈ l, okH h = true) ∧ r.length ≤ 1000000 ∧ ∃ A' c' hV, RSt w' g D A' c' r a p n hV nilV ch k ∧ OwnH w' w.heap.size hV l
theorem OwnH.kept {w w' : World} {base : Nat} {v : Value} {l : List Hd} (h : OwnH w base v l) {g : Nat} (hg : g < base) (hk : Kp g w.heap.size w w') : OwnH w' base v l := by
  refine World.ownsRow.kept h (row := some g) ⟨hk.os, hk.tape, hk.output, hk.size, fun k hk1 hk2 => hk.block k hk1 (fun e => hk2 (by rw [e]))⟩ (.inr fun e => ?_)
  have := (World.ownsRow.lt h g e).1
  omega
theorem OwnH.shape {w : World} {base : Nat} {v : Value} {l : List Hd} (h : OwnH w base v l) : ∃ A c, v = .slice A l.length c := by
  obtain ⟨A, c, e, _⟩ := Rd.own h
  exact ⟨A, c, e⟩
theorem rest_le {x s r : List UInt8} (h : lineR x = .ok (s, r)) : r.length ≤ x.length := by
  obtain ⟨e, _⟩ := lineR_ok h
  rw [e]; simp; omega
theorem step_pushH {ops : Array Oper} {o : Oper} {a : Act} {K : Act → World → Prop} {Q : Exit → Act → World → Prop} {E : Prop} (hgd : o.guard = none) (s x : Operand)
    (ho : o.op = .call { callee := .builtin .append, args := #[s, x], argTypes := #[22, 22] }) (w : World) (base : Nat) (v : Value) (l : List Hd) (z y : List UInt8) (n : Nat) (hn : l.length = n)
    (hs : a.eval s = v) (hown : OwnH w base v l) (hx : a.eval x = .slice (some ⟨w.heap.size, 0, none⟩) 1 1) (hbase : base ≤ w.heap.size) (hlen : l.length ≤ 1000000000)
    (h : ∀ (A : Option Addr) (c : Nat) w', OwnH w' base (.slice A (n + 1) c) (l ++ [(z, y)]) → Below base w w' → K (a.put o.dst (.slice A (n + 1) c)) w') :
    if Region.wanted o (yielded ops a.tmps) = true then Oper.wp Tryz.prog o a (w.alloc (.cells #[.string ⟨z.toArray⟩, .string ⟨y.toArray⟩] 41)).drew K Q else E :=
  step_pushh hgd s x ho w base v l z y hs hown hx hbase hlen fun v' w' h1 h2 => by
    obtain ⟨A, c, e⟩ := OwnH.shape h1
    rw [List.length_append, hn] at e
    have e : v' = .slice A (n + 1) c := e
    rw [e] at h1 ⊢
    exact h A c w' h1 h2
set_option maxRecDepth 100000 in
set_option maxHeartbeats 4000000 in
theorem headLines_any {w : World} {g D : Nat} {A : Option Addr} {c : Nat} {x a p : List UInt8} {n : Int} {ch : Bool} {k : Int} (h : RSt w g D A c x a p n nilV nilV ch k) (hs : x.length ≤ 1000000) :
    Calls Tryz.prog 81 #[.pointer (some ⟨g, 0, none⟩)] w (HeadsP g D x a p n ch k w) := by
  have hgw := h.cs.lt
  have H := Lib.hid h
  clear h
  go_enter Tryz.func81, Tryz.ntmps81
  go_wp2_with fail
  go_loopw [3] (fun i wr => ∃ (j : Nat) (A1 : Option Addr) (c1 : Nat) (x1 : List UInt8) (l : List Hd) (Ah : Option Addr) (chh : Nat), i = .int .i64 j ∧ j ≤ 20 ∧ Hid (RSt wr g D A1 c1 x1 a p n (.slice Ah j chh) nilV ch k ∧ OwnH wr w.heap.size (.slice Ah j chh) l ∧ Kp g w.heap.size w wr ∧ x1.length ≤ 1000000 ∧
    l.length = j ∧ (∀ h ∈ l, okH h = true) ∧ headsR 20 x = match headsR (20 - j) x1 with
      | .error e => .error e
      | .ok (l', r) => .ok (l ++ l', r))) (fun i _ => 21 - (intOf i).toNat)
  case atStart =>
    refine ⟨0, A, c, x, [], none, 0, rfl, Nat.zero_le _, ⟨H.out, OwnH.nil _ _, Kp.refl _ _ _, hs, rfl, fun h hh => by simp at hh, ?_⟩⟩
    cases headsR (20 - 0) x with
    | error e => rfl
    | ok v => rfl
  case round =>
    obtain ⟨j, A1, c1, x1, l, Ah, chh, rfl, hj, HI⟩ := hrel
    obtain ⟨hR, hO, hK, hx1, hlj, hok, hch⟩ := HI.out
    have HR := Lib.hid hR
    have HO := Lib.hid hO
    have HK := Lib.hid hK
    have HOK := Lib.hid hok
    have HLJ := Lib.hid hlj
    have CP := Lib.hid (rline_any hR hx1)
    have hst := heads_step (20 - j) x1
    rw [hst] at hch
    have hLE := @line_err x1
    have hLO := fun s r => @lineR_ok x1 s r
    have hRL := fun s r => @rest_le x1 s r
    clear HI hR hO hK hst hok hlj
    go_wp2_with fail
    go_at_call 92
    refine CP.out.mono ?_
    rintro e w1 ⟨hk1, hp⟩
    clear CP
    have HK1 := Lib.hid (HK.out.trans (hk1.mono HK.out.size))
    have HO1 := Lib.hid (HO.out.kept hgw hk1)
    cases ht : lineR x1 with
    | error E =>
      rw [ht] at hp hch
      have hE := hLE ht
      obtain ⟨rfl, _⟩ := hp
      have HF := Lib.hid (show headsR 20 x = .error E from hch)
      have hne1 : ((E : Int) != 0) = true := by rw [bne_iff_ne]; omega
      have HNE := Lib.hid (show E ≠ 0 by omega)
      clear ht hch hk1 hE hLE hLO hRL
      go_wp2_with fail
      go_ret
      unfold HeadsP
      rw [HF.out]
      exact ⟨HK1.out, rfl, HNE.out⟩
    | ok v =>
      obtain ⟨s, r⟩ := v
      rw [ht] at hp hch
      obtain ⟨rfl, A2, c2, hR2⟩ := hp
      have hrl : r.length ≤ 1000000 := Nat.le_trans (hRL s r ht) hx1
      obtain ⟨_, _, hsl⟩ := hLO s r ht
      have HR2 := Lib.hid hR2
      dsimp only at hch
      clear ht hk1 hLE hLO hRL hR2
      by_cases h0 : s = []
      · subst h0
        rw [if_pos rfl] at hch
        have HF := Lib.hid (show headsR 20 x = .ok (l, r) by rw [hch]; dsimp only; rw [List.append_nil])
        clear hch
        go_wp2_with fail
        go_ret
        unfold HeadsP
        rw [HF.out]
        exact ⟨HK1.out, rfl, by rw [HLJ.out]; exact hj, HOK.out, hrl, A2, c2, _, HR2.out, HO1.out⟩
      · rw [if_neg h0] at hch
        have hse : s.isEmpty = false := by cases s with | nil => exact absurd rfl h0 | cons y t => rfl
        by_cases h20 : j = 20
        · subst h20
          have HF := Lib.hid (show headsR 20 x = .error 4 from hch)
          clear hch
          go_wp2_with fail
          go_ret
          unfold HeadsP
          rw [HF.out]
          exact ⟨HK1.out, rfl, by decide⟩
        · have hjz : ((j : Int) == 20) = false := by rw [beq_eq_false_iff_ne]; omega
          obtain ⟨q, hq⟩ : ∃ q, 20 - j = q + 1 := ⟨19 - j, by omega⟩
          rw [hq] at hch
          dsimp only at hch
          have CL := line_anyL s w1 (by omega)
          cases hlp : lineP s with
          | none =>
            rw [hlp] at hch CL
            have HF := Lib.hid (show headsR 20 x = .error 40 from hch)
            unfold lineV at CL
            dsimp only at CL
            have CL := Lib.hid CL
            clear hch hlp hq h20
            go_wp2_with fail
            go_at_call 95
            refine CL.out.mono ?_
            rintro e w2 ⟨rfl, hb2⟩
            have KB := Lib.hid (Below.and hb2 (below_new w2 (.cells #[.string ⟨#[]⟩, .string ⟨#[]⟩] 41)))
            clear hb2 CL
            go_wp2_with fail
            go_ret
            unfold HeadsP
            rw [HF.out]
            exact ⟨HK1.out.trans (kp_fresh HK1.out.size KB.out), rfl, by decide⟩
          | some hd =>
            obtain ⟨z, y⟩ := hd
            have hok := lineP_ok hlp
            rw [hlp] at hch CL
            have HF := Lib.hid (show headsR 20 x = (match headsR q r with
                | .error e => .error e
                | .ok (l', r') => .ok ((l ++ [(z, y)]) ++ l', r')) by
              rw [hch]
              dsimp only
              cases headsR q r with
              | error e => rfl
              | ok v => dsimp only; rw [List.append_assoc]; rfl)
            have HQ := Lib.hid (show 20 - (j + 1) = q by omega)
            have HJ := Lib.hid (show j + 1 ≤ 20 by omega)
            unfold lineV at CL
            dsimp only at CL
            have CL := Lib.hid CL
            have HOKH := Lib.hid hok
            clear hch hlp hq h20 hok
            go_wp2_with fail
            go_at_call 95
            refine CL.out.mono ?_
            rintro e w2 ⟨rfl, hb2⟩
            have KB := Lib.hid (Below.and hb2 (below_new w2 (.cells #[.string ⟨z.toArray⟩, .string ⟨y.toArray⟩] 41)))
            have HR3 := Lib.hid (HR2.out.fresh KB.out)
            have HK3 := Lib.hid (HK1.out.trans (kp_fresh (g := g) HK1.out.size KB.out))
            have HO3 := Lib.hid (OwnH.below HO1.out KB.out)
            obtain ⟨e0, e1⟩ := alloc_head w2 (.string ⟨z.toArray⟩) (.string ⟨y.toArray⟩)
            have d4 := HR3.out.c4
            have f4 := HR3.out.f 4 (by decide)
            clear hb2 CL
            go_wp2_with fail
            generalize w2.alloc (.cells #[.string ⟨z.toArray⟩, .string ⟨y.toArray⟩] 41) = w3 at *
            generalize w2.heap.size = b6 at *
            have k4 := ((below_new w3 (.cells #[.string ⟨z.toArray⟩, .string ⟨y.toArray⟩] 41)).cell (p := ⟨g, 4, none⟩) HR3.out.cs.lt).trans d4
            go_region_law (refine step_pushH rfl (.tmp 37) (.tmp 39) rfl w3 w.heap.size (.slice Ah j chh) l z y j HLJ.out rfl HO3.out rfl HK3.out.size (by rw [HLJ.out]; omega) ?_; intro A4 c4 w4 hown4 hb4; have HR4 := Lib.hid (HR3.out.low hgw hb4); have q4 := HR4.out.c4; have g4 := HR4.out.f 4 (by decide); have KB4 := Lib.hid hb4; have HO4 := Lib.hid hown4; clear hown4)
            all_goals
              go_wp2_with fail
              go_roundw
              case rel =>
                refine ⟨j + 1, A2, c2, r, l ++ [(z, y)], A4, c4, by go_num, HJ.out, ⟨HR4.out.set4 _, OwnH.kept HO4.out hgw (kp_set _ 4 _), HK3.out.trans ((kp_below KB4.out).trans (kp_set _ 4 _)), hrl, by rw [List.length_append, HLJ.out]; rfl, fun h hh => ?_, by rw [HQ.out]; exact HF.out⟩⟩
                rcases List.mem_append.1 hh with hh | hh
                · exact HOK.out h hh
                · rw [List.mem_singleton.1 hh]; exact HOKH.out
              case measure => simp [intOf]; omega
end Go.Proofs.YthniggdimfldhaaGreatDoor
