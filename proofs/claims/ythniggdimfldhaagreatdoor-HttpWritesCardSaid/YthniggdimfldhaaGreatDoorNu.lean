/- The reader: its end; all its steps; Parse. -/
import Derived.Test.YthniggdimfldhaaGreatDoorNr
import Derived.Laws.EntriesVeiled
namespace Go.Proofs.YthniggdimfldhaaGreatDoor
open Go Go.RowKit

theorem ckE_ok (m : Msg) : ckE ((reqB m.meth m.path m.status m.heads || ansB m.meth m.path m.status) && (decide (chkE m.heads = 0) && (decide (m.body.length ≤ 2000) && m.heads.all fun h => keptN h.1))) = if okM m = true then 0 else 2 := by
  rw [okM_is]; rfl
/-- the program's Check, of a message -/
theorem check_msg (m : Msg) (hV : Value) (Ab : Option Addr) (cb : Nat) (w : World) (hv : Hs w hV m.heads) (hsm : Sm m.heads) (hp : m.path.length ≤ 1000000) (hG : Gl w) :
    Calls Tryz.prog 9 #[.agg #[.string ⟨m.meth.toArray⟩, .string ⟨m.path.toArray⟩, .int .i64 m.status, hV, .slice Ab m.body.length cb]] w fun e w' =>
      e = .returned (.int .i64 (if okM m = true then 0 else 2)) ∧ Below w.heap.size w w' := by
  rw [← ckE_ok]
  exact check_all m.meth m.path m.status hV Ab m.body.length cb m.heads w hv hsm hp hG
def endE (x : List UInt8) (m : Msg) : Int := if x = [] then (if okM m = true then 0 else 2) else 4
theorem endE_nil (m : Msg) : endE [] m = if okM m = true then 0 else 2 := if_pos rfl
theorem endE_ne {x : List UInt8} (m : Msg) (h : x ≠ []) : endE x m = 4 := if_neg h
/-- what the end leaves -/
def EndP (_g : Nat) (x : List UInt8) (m : Msg) (w : World) (e : Ending) (w' : World) : Prop :=
  Below w.heap.size w w' ∧ e = .returned (.int .i64 (endE x m))
set_option maxRecDepth 100000 in
theorem end_any {w : World} {g D : Nat} {A : Option Addr} {c : Nat} {x : List UInt8} {m : Msg} {hV : Value} {Ab : Option Addr} {cb : Nat} {ch : Bool} {k : Int} (h : RSt w g D A c x m.meth m.path m.status hV (.slice Ab m.body.length cb) ch k) (hv : Hs w hV m.heads) (hsm : Sm m.heads) (hp : m.path.length ≤ 1000000) :
    Calls Tryz.prog 84 #[.pointer (some ⟨g, 0, none⟩)] w (EndP g x m w) := by
  have C := Lib.hid (check_msg m hV Ab cb w hv hsm hp h.gl)
  have d0 := h.c0
  have d1 := h.c1
  have d2 := h.c2
  have d3 := h.c3
  have d4 := h.c4
  have d5 := h.c5
  clear h hv hsm hp
  unfold strV at d1 d2
  by_cases h0 : x = []
  · subst h0
    have hE := Lib.hid (endE_nil m)
    generalize (if okM m = true then (0 : Int) else 2) = z at *
    go_enter Tryz.func84, Tryz.ntmps84
    go_wp2_with fail
    go_at_call 9
    refine C.out.mono ?_
    rintro e w1 ⟨rfl, hb⟩
    go_wp2_with fail
    go_ret
    exact ⟨hb, by rw [hE.out]; rfl⟩
  · have hE := Lib.hid (endE_ne m h0)
    have hl : (0 : Int) < x.length := by cases x with | nil => exact absurd rfl h0 | cons y t => (rw [List.length_cons]; omega)
    clear C h0
    go_enter Tryz.func84, Tryz.ntmps84
    go_wp2_with fail
    go_ret
    exact ⟨Below.refl _ _, by rw [hE.out]; rfl⟩
def readM (x : List UInt8) : Except Int Msg := match msgR x with
  | .error e => .error e
  | .ok (m, []) => if okM m then .ok m else .error 2
  | .ok (_, _ :: _) => .error 4
theorem parseM_is (x : List UInt8) : parseM x = if 8192 < x.length then .error 5 else readM x := rfl
theorem read_1 {x : List UInt8} {E : Int} (h : lineR x = .error E) : readM x = .error E := by
  unfold readM msgR; rw [rBind_err h]
theorem read_2 {x s r : List UInt8} (h : lineR x = .ok (s, r)) (h2 : firstP s = none) : readM x = .error 4 := by
  unfold readM msgR; rw [rBind_ok h, h2]; rfl
theorem msg_3 {x s r : List UInt8} {v : List UInt8 × List UInt8 × Int} (h : lineR x = .ok (s, r)) (h2 : firstP s = some v) :
    msgR x = rBind (headsR 20) (fun l => rBind (restR l) fun b => rPure ⟨v.1, v.2.1, v.2.2, l.filter (fun h => keptN h.1), b⟩) r := by
  unfold msgR; rw [rBind_ok h, h2]
theorem read_3 {x s r : List UInt8} {v : List UInt8 × List UInt8 × Int} {E : Int} (h : lineR x = .ok (s, r)) (h2 : firstP s = some v) (h3 : headsR 20 r = .error E) : readM x = .error E := by
  unfold readM; rw [msg_3 h h2, rBind_err h3]
theorem msg_4 {x s r r2 : List UInt8} {v : List UInt8 × List UInt8 × Int} {l : List Hd} (h : lineR x = .ok (s, r)) (h2 : firstP s = some v) (h3 : headsR 20 r = .ok (l, r2)) :
    msgR x = rBind (restR l) (fun b => rPure ⟨v.1, v.2.1, v.2.2, l.filter (fun h => keptN h.1), b⟩) r2 := by
  rw [msg_3 h h2, rBind_ok h3]
theorem rest_err {l : List Hd} {x : List UInt8} {E : Int} (h : lenP l = .error E) : restR l x = .error E := by unfold restR; rw [h]; rfl
theorem rest_is {l : List Hd} {x : List UInt8} {ch : Bool} {k : Nat} (h : lenP l = .ok (if ch = true then none else some k)) : restR l x = (if ch = true then chunksR 2001 0 else takeR k) x := by
  unfold restR; rw [h]; cases ch <;> rfl
theorem read_5 {x s r r2 : List UInt8} {v : List UInt8 × List UInt8 × Int} {l : List Hd} {E : Int} (h : lineR x = .ok (s, r)) (h2 : firstP s = some v) (h3 : headsR 20 r = .ok (l, r2)) (h4 : restR l r2 = .error E) : readM x = .error E := by
  unfold readM; rw [msg_4 h h2 h3, rBind_err h4]
theorem msg_6 {x s r r2 r3 : List UInt8} {v : List UInt8 × List UInt8 × Int} {l : List Hd} {b : List UInt8} (h : lineR x = .ok (s, r)) (h2 : firstP s = some v) (h3 : headsR 20 r = .ok (l, r2)) (h4 : restR l r2 = .ok (b, r3)) :
    msgR x = .ok (⟨v.1, v.2.1, v.2.2, l.filter (fun h => keptN h.1), b⟩, r3) := by
  rw [msg_4 h h2 h3, rBind_ok h4]; rfl
theorem read_6 {x r3 : List UInt8} {m : Msg} (h : msgR x = .ok (m, r3)) : readM x = if r3 = [] then (if okM m then .ok m else .error 2) else .error 4 := by
  unfold readM; rw [h]; cases r3 <;> rfl
theorem firstP_le {s : List UInt8} {v : List UInt8 × List UInt8 × Int} (h : firstP s = some v) : v.2.1.length ≤ s.length := by
  unfold firstP at h
  split at h
  · rename_i v' h'
    cases h
    unfold reqP at h'
    split at h'
    · cases h'
      show ((pastB 32 s).take _).length ≤ _
      rw [List.length_take]
      have := past_len 32 s
      omega
    · cases h'
  · unfold ansP at h
    split at h
    · split at h
      · split at h
        · cases h
        · split at h
          · cases h; exact Nat.zero_le _
          · cases h
      · cases h
    · cases h
/-- how far the reader's steps have come -/
def StepsP (g D : Nat) (x : List UInt8) (wr : World) : Nat → Prop
  | 0 => ∃ A c, RSt wr g D A c x [] [] 0 nilV nilV false 0
  | 1 => ∃ (s r : List UInt8) (v : List UInt8 × List UInt8 × Int) (A : Option Addr) (c : Nat), lineR x = .ok (s, r) ∧ firstP s = some v ∧ RSt wr g D A c r v.1 v.2.1 v.2.2 nilV nilV false 0
  | 2 => ∃ (s r r2 : List UInt8) (v : List UInt8 × List UInt8 × Int) (l : List Hd) (A : Option Addr) (c : Nat) (Ah : Option Addr) (chh : Nat), lineR x = .ok (s, r) ∧ firstP s = some v ∧ headsR 20 r = .ok (l, r2) ∧ l.length ≤ 20 ∧ (∀ h ∈ l, okH h = true) ∧ r2.length ≤ 1000000 ∧
      RSt wr g D A c r2 v.1 v.2.1 v.2.2 (.slice Ah l.length chh) nilV false 0 ∧ OwnH wr (g + 1) (.slice Ah l.length chh) l
  | 3 => ∃ (s r r2 : List UInt8) (v : List UInt8 × List UInt8 × Int) (l : List Hd) (A : Option Addr) (c : Nat) (hV : Value) (ch : Bool) (k : Nat), lineR x = .ok (s, r) ∧ firstP s = some v ∧ headsR 20 r = .ok (l, r2) ∧ l.length ≤ 20 ∧ (∀ h ∈ l, okH h = true) ∧ r2.length ≤ 1000000 ∧ k ≤ 2000 ∧
      (∀ y, restR l y = (if ch = true then chunksR 2001 0 else takeR k) y) ∧ RSt wr g D A c r2 v.1 v.2.1 v.2.2 hV nilV ch k ∧ OwnH wr (g + 1) hV (l.filter fun h => keptN h.1)
  | 4 => ∃ (m : Msg) (r : List UInt8) (A : Option Addr) (c : Nat) (hV : Value) (Ab : Option Addr) (cb : Nat) (ch : Bool) (k : Int), msgR x = .ok (m, r) ∧ m.path.length ≤ 1000000 ∧ Sm m.heads ∧ RSt wr g D A c r m.meth m.path m.status hV (.slice Ab m.body.length cb) ch k ∧ OwnH wr (g + 1) hV m.heads ∧ OwnB wr (g + 1) (.slice Ab m.body.length cb) m.body
  | _ => ∃ (m : Msg) (A : Option Addr) (c : Nat) (hV : Value) (Ab : Option Addr) (cb : Nat) (ch : Bool) (k : Int), readM x = .ok m ∧ Sm m.heads ∧ RSt wr g D A c [] m.meth m.path m.status hV (.slice Ab m.body.length cb) ch k ∧ OwnH wr (g + 1) hV m.heads ∧ OwnB wr (g + 1) (.slice Ab m.body.length cb) m.body
/-- what the reader leaves -/
def ReadP (g D : Nat) (x : List UInt8) (w : World) (e : Ending) (w' : World) : Prop :=
  Kp g w.heap.size w w' ∧ match readM x with
    | .error E => e = .returned (.int .i64 E) ∧ E ≠ 0
    | .ok _ => e = .returned (.int .i64 0) ∧ StepsP g D x w' 5
theorem endE_read {x r : List UInt8} {m : Msg} (h : msgR x = .ok (m, r)) : (endE r m = 0 ∧ r = [] ∧ readM x = .ok m) ∨ (endE r m ≠ 0 ∧ readM x = .error (endE r m)) := by
  have h6 := read_6 h
  by_cases hr : r = []
  · subst hr
    rw [if_pos rfl] at h6
    cases hm : okM m with
    | true =>
      left
      rw [hm, if_pos rfl] at h6
      exact ⟨by rw [endE_nil, hm]; rfl, rfl, h6⟩
    | false =>
      right
      rw [hm, if_neg Bool.false_ne_true] at h6
      have e : endE [] m = 2 := by rw [endE_nil, hm]; rfl
      exact ⟨by rw [e]; decide, by rw [e]; exact h6⟩
  · right
    rw [if_neg hr] at h6
    have e := endE_ne m hr
    exact ⟨by rw [e]; decide, by rw [e]; exact h6⟩
theorem OwnB.up {w : World} {base base' : Nat} {v : Value} {l : List UInt8} (h : OwnB w base v l) (hb : base' ≤ base) : OwnB w base' v l := by
  unfold OwnB at *
  rcases h with ⟨h1, h2⟩
  refine ⟨h1, ?_⟩
  rcases h2 with h2 | ⟨g, cap, cur, h2, h3, h4⟩
  · exact .inl h2
  · exact .inr ⟨g, cap, cur, h2, Nat.le_trans hb h3, h4⟩
theorem body_any {w : World} {g D : Nat} {A : Option Addr} {c : Nat} {x a p : List UInt8} {n : Int} {hV : Value} {ch : Bool} {k : Nat} (h : RSt w g D A c x a p n hV nilV ch k) (hs : x.length ≤ 1000000) (hk : k ≤ 2000) :
    Calls Tryz.prog 83 #[.pointer (some ⟨g, 0, none⟩)] w (BodyP g D x a p n hV ch k w) := by
  cases ch with
  | false => exact body_plain h hs hk
  | true => exact body_chunks h hs
abbrev funcs5 (g : Nat) : Array Value := #[.func (.func 80) #[.pointer (some ⟨g, 0, none⟩)] #[], .func (.func 81) #[.pointer (some ⟨g, 0, none⟩)] #[], .func (.func 82) #[.pointer (some ⟨g, 0, none⟩)] #[], .func (.func 83) #[.pointer (some ⟨g, 0, none⟩)] #[], .func (.func 84) #[.pointer (some ⟨g, 0, none⟩)] #[]]
set_option maxRecDepth 100000 in
set_option maxHeartbeats 4000000 in
theorem read_any {w : World} {g D : Nat} {A : Option Addr} {c : Nat} {x : List UInt8} (h : RSt w g D A c x [] [] 0 nilV nilV false 0) (hs : x.length ≤ 1000000) :
    Calls Tryz.prog 69 #[.pointer (some ⟨g, 0, none⟩)] w (ReadP g D x w) := by
  have H := Lib.hid h
  have hgw := h.cs.lt
  clear h
  go_enter Tryz.func69, Tryz.ntmps69
  go_wp2_with fail
  have hb0 := below_new w (.cells (funcs5 g) 81)
  have HS0 : Hid (StepsP g D x (w.alloc (.cells (funcs5 g) 81)) 0) := ⟨A, c, H.out.fresh hb0⟩
  have HK0 : Hid (Kp g w.heap.size w (w.alloc (.cells (funcs5 g) 81))) := kp_fresh (Nat.le_refl _) hb0
  clear hb0
  go_loopg [19] 5 (fun f i wr => ∃ j : Nat, i = .int .i64 j ∧ f + j = 5 ∧ Hid (StepsP g D x wr j ∧ Kp g w.heap.size w wr))
  case atStart => exact ⟨0, rfl, rfl, ⟨HS0.out, HK0.out⟩⟩
  case round =>
    obtain ⟨j, rfl, hfj, HI⟩ := hrel
    obtain ⟨hS, hK⟩ := HI.out
    have HK := Lib.hid hK
    clear HI hK HS0 HK0
    cases gk with
    | zero =>
      obtain rfl : j = 5 := by omega
      obtain ⟨m, _, _, _, _, _, _, _, hm, _⟩ := id hS
      have HS := Lib.hid hS
      have HM := Lib.hid hm
      clear hS hm
      go_wp2_with fail
      go_ret
      unfold ReadP
      rw [HM.out]
      exact ⟨HK.out, rfl, HS.out⟩
    | succ f =>
      have i0 : ∀ w, (Instr.index 81 (.agg (funcs5 g)) (.int .i64 0)).run Tryz.prog w = .ok (.func (.func 80) #[.pointer (some ⟨g, 0, none⟩)] #[]) w := fun _ => by kernel_rfl
      have i1 : ∀ w, (Instr.index 81 (.agg (funcs5 g)) (.int .i64 1)).run Tryz.prog w = .ok (.func (.func 81) #[.pointer (some ⟨g, 0, none⟩)] #[]) w := fun _ => by kernel_rfl
      have i2 : ∀ w, (Instr.index 81 (.agg (funcs5 g)) (.int .i64 2)).run Tryz.prog w = .ok (.func (.func 82) #[.pointer (some ⟨g, 0, none⟩)] #[]) w := fun _ => by kernel_rfl
      have i3 : ∀ w, (Instr.index 81 (.agg (funcs5 g)) (.int .i64 3)).run Tryz.prog w = .ok (.func (.func 83) #[.pointer (some ⟨g, 0, none⟩)] #[]) w := fun _ => by kernel_rfl
      have i4 : ∀ w, (Instr.index 81 (.agg (funcs5 g)) (.int .i64 4)).run Tryz.prog w = .ok (.func (.func 84) #[.pointer (some ⟨g, 0, none⟩)] #[]) w := fun _ => by kernel_rfl
      rcases (show j = 0 ∨ j = 1 ∨ j = 2 ∨ j = 3 ∨ j = 4 by omega) with rfl | rfl | rfl | rfl | rfl
      · obtain ⟨A1, c1, hR⟩ := hS
        have C := Lib.hid (firstLine_any hR hs)
        have hLE := @line_err x
        clear hR
        go_wp2_with fail
        go_at_call 80
        refine C.out.mono ?_
        rintro e w1 ⟨hk, hp⟩
        have HK1 := Lib.hid (HK.out.trans (hk.mono HK.out.size))
        clear hk C
        cases hl : lineR x with
        | error E =>
          rw [hl] at hp
          have hne : E ≠ 0 := by have := hLE hl; omega
          obtain rfl := hp
          clear hLE
          have HE := Lib.hid (read_1 hl)
          have hne1 : ((E : Int) != 0) = true := by rw [bne_iff_ne]; exact hne
          have HNE := Lib.hid hne
          clear hl hne
          go_wp2_with fail
          go_ret
          unfold ReadP
          rw [HE.out]
          exact ⟨HK1.out, rfl, HNE.out⟩
        | ok v =>
          obtain ⟨s, r⟩ := v
          rw [hl] at hp
          cases hf : firstP s with
          | none =>
            dsimp only at hp
            rw [hf] at hp
            obtain rfl := hp
            have HE := Lib.hid (read_2 hl hf)
            clear hl hf hLE
            go_wp2_with fail
            go_ret
            unfold ReadP
            rw [HE.out]
            exact ⟨HK1.out, rfl, by decide⟩
          | some v =>
            obtain ⟨a, p, n⟩ := v
            dsimp only at hp
            rw [hf] at hp
            obtain ⟨rfl, A2, c2, hR2⟩ := hp
            have HS1 : Hid (StepsP g D x w1 1) := ⟨s, r, (a, p, n), A2, c2, hl, hf, hR2⟩
            clear hl hf hLE hR2
            go_wp2_with fail
            go_roundg f
            case measure => omega
            case rel => exact ⟨_, by first | rfl | go_num, by omega, ⟨HS1.out, HK1.out⟩⟩
      · obtain ⟨s, r, v, A1, c1, hl, hf, hR⟩ := hS
        have hrl : r.length ≤ 1000000 := Nat.le_trans (rest_le hl) hs
        have C := Lib.hid (headLines_any hR hrl)
        have hbg : g + 1 ≤ wr.heap.size := hR.cs.lt
        have HL := Lib.hid (And.intro hl hf)
        clear hR hl hf
        go_wp2_with fail
        go_at_call 81
        refine C.out.mono ?_
        rintro e w1 ⟨hk, hp⟩
        have HK1 := Lib.hid (HK.out.trans (hk.mono HK.out.size))
        clear hk C
        cases hh : headsR 20 r with
        | error E =>
          rw [hh] at hp
          obtain ⟨rfl, hne⟩ := hp
          have HE := Lib.hid (read_3 HL.out.1 HL.out.2 hh)
          have hne1 : ((E : Int) != 0) = true := by rw [bne_iff_ne]; exact hne
          have HNE := Lib.hid hne
          clear hh hne
          go_wp2_with fail
          go_ret
          unfold ReadP
          rw [HE.out]
          exact ⟨HK1.out, rfl, HNE.out⟩
        | ok v =>
          obtain ⟨l, r2⟩ := v
          rw [hh] at hp
          obtain ⟨rfl, h20, hok, hr2, A2, c2, hV, hR2, hO2⟩ := hp
          obtain ⟨Ah, chh, rfl⟩ := OwnH.shape hO2
          have HS1 : Hid (StepsP g D x w1 2) := ⟨s, r, r2, _, l, A2, c2, Ah, chh, HL.out.1, HL.out.2, hh, h20, hok, hr2, hR2, hO2.up hbg rfl⟩
          clear hh h20 hok hR2 hO2
          go_wp2_with fail
          go_roundg f
          case measure => omega
          case rel => exact ⟨_, by first | rfl | go_num, by omega, ⟨HS1.out, HK1.out⟩⟩
      · obtain ⟨s, r, r2, v, l, A1, c1, Ah, chh, hl, hf, hh, h20, hok, hr2, hR, hO⟩ := hS
        have C := Lib.hid (emptyLine_any hR hO (Nat.lt_succ_self g) h20 hok)
        have HL := Lib.hid (And.intro hl (And.intro hf (And.intro hh (And.intro h20 hok))))
        clear hR hl hf hh h20 hok hO
        go_wp2_with fail
        go_at_call 82
        refine C.out.mono ?_
        rintro e w1 ⟨hk, hp⟩
        have HK1 := Lib.hid (HK.out.trans (hk.mono HK.out.size))
        clear hk C
        cases hn : lenP l with
        | error E =>
          rw [hn] at hp
          obtain ⟨rfl, hne⟩ := hp
          have HE := Lib.hid (read_5 HL.out.1 HL.out.2.1 HL.out.2.2.1 (rest_err hn))
          have hne1 : ((E : Int) != 0) = true := by rw [bne_iff_ne]; exact hne
          have HNE := Lib.hid hne
          clear hn hne
          go_wp2_with fail
          go_ret
          unfold ReadP
          rw [HE.out]
          exact ⟨HK1.out, rfl, HNE.out⟩
        | ok o =>
          rw [hn] at hp
          obtain ⟨rfl, hV, ch, k, hk2, rfl, hR2, hO2⟩ := hp
          have HS1 : Hid (StepsP g D x w1 3) := ⟨s, r, r2, v, l, A1, c1, hV, ch, k, HL.out.1, HL.out.2.1, HL.out.2.2.1, HL.out.2.2.2.1, HL.out.2.2.2.2, hr2, hk2, fun y => rest_is hn, hR2, hO2⟩
          clear hn hR2 hO2 hk2
          go_wp2_with fail
          go_roundg f
          case measure => omega
          case rel => exact ⟨_, by first | rfl | go_num, by omega, ⟨HS1.out, HK1.out⟩⟩
      · obtain ⟨s, r, r2, v, l, A1, c1, hV, ch, k, hl, hf, hh, h20, hok, hr2, hk2, hrs, hR, hO⟩ := hS
        have C := Lib.hid (body_any hR hr2 hk2)
        have hbg : g + 1 ≤ wr.heap.size := hR.cs.lt
        have HL := Lib.hid (And.intro hl (And.intro hf (And.intro hh (And.intro (sm_ok h20 hok) (hrs r2)))))
        have HO := Lib.hid hO
        have hpl : v.2.1.length ≤ 1000000 := by
          have h1 := firstP_le hf
          have h2 := (lineR_ok hl).2.2
          omega
        clear hR hl hf hh h20 hok hO hrs
        go_wp2_with fail
        go_at_call 83
        refine C.out.mono ?_
        rintro e w1 ⟨hk, hp⟩
        have HO1 := Lib.hid (OwnH.kept HO.out (Nat.lt_succ_self g) hk)
        have HK1 := Lib.hid (HK.out.trans (hk.mono HK.out.size))
        clear hk C
        cases hb : (if ch = true then chunksR 2001 0 else takeR k) r2 with
        | error E =>
          rw [hb] at hp
          obtain ⟨rfl, hne⟩ := hp
          have HE := Lib.hid (read_5 HL.out.1 HL.out.2.1 HL.out.2.2.1 (HL.out.2.2.2.2.trans hb))
          have hne1 : ((E : Int) != 0) = true := by rw [bne_iff_ne]; exact hne
          have HNE := Lib.hid hne
          clear hb hne
          go_wp2_with fail
          go_ret
          unfold ReadP
          rw [HE.out]
          exact ⟨HK1.out, rfl, HNE.out⟩
        | ok vb =>
          obtain ⟨b, r3⟩ := vb
          rw [hb] at hp
          obtain ⟨rfl, hb2, A2, c2, bV, hR2, hB2⟩ := hp
          obtain ⟨Ab, cb, rfl, _⟩ := OwnB.rb hB2
          have HS1 : Hid (StepsP g D x w1 4) := ⟨⟨v.1, v.2.1, v.2.2, l.filter (fun h => keptN h.1), b⟩, r3, A2, c2, hV, Ab, cb, ch, k, msg_6 HL.out.1 HL.out.2.1 HL.out.2.2.1 (HL.out.2.2.2.2.trans hb), hpl, HL.out.2.2.2.1.filter _, hR2, HO1.out, OwnB.up hB2 hbg⟩
          clear hb hb2 hR2 hB2
          go_wp2_with fail
          go_roundg f
          case measure => omega
          case rel => exact ⟨_, by first | rfl | go_num, by omega, ⟨HS1.out, HK1.out⟩⟩
      · obtain ⟨m, r, A1, c1, hV, Ab, cb, ch, k, hm, hpl, hsm, hR, hO, hB⟩ := hS
        have C := Lib.hid (end_any hR hO.hs hsm hpl)
        have HL := Lib.hid (endE_read hm)
        have HR := Lib.hid hR
        have HO := Lib.hid hO
        have HB := Lib.hid hB
        have HSM := Lib.hid hsm
        clear hR hm hsm hO hB hpl
        go_wp2_with fail
        go_at_call 84
        refine C.out.mono ?_
        rintro e w1 ⟨hb1, rfl⟩
        have HK1 := Lib.hid (HK.out.trans (kp_fresh (g := g) HK.out.size hb1))
        rcases HL.out with ⟨h0, hr, hm⟩ | ⟨hne, hm⟩
        · subst hr
          have HS1 : Hid (StepsP g D x w1 5) := ⟨m, A1, c1, hV, Ab, cb, ch, k, hm, HSM.out, HR.out.fresh hb1, HO.out.below hb1, HB.out.below hb1⟩
          rw [h0]
          clear HL h0 hm hb1 C
          go_wp2_with fail
          go_roundg f
          case measure => omega
          case rel => exact ⟨_, by first | rfl | go_num, by omega, ⟨HS1.out, HK1.out⟩⟩
        · have HE := Lib.hid hm
          have hne1 : ((endE r m : Int) != 0) = true := by rw [bne_iff_ne]; exact hne
          have HNE := Lib.hid hne
          clear HL hm hne hb1 C
          generalize endE r m = E at *
          go_wp2_with fail
          go_ret
          unfold ReadP
          rw [HE.out]
          exact ⟨HK1.out, rfl, HNE.out⟩
end Go.Proofs.YthniggdimfldhaaGreatDoor
