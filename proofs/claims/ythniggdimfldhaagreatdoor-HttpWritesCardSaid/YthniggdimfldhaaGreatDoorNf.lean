/- The program: a line of what is left to read; so many bytes of it. -/
import Derived.Test.YthniggdimfldhaaGreatDoorNk
import Derived.Test.YthniggdimfldhaaGreatDoorNs
import Derived.Lib.SlBytesConst
namespace Go.Proofs.YthniggdimfldhaaGreatDoor
open Go Go.RowKit

/-- the world with the row 0D 0A -/
def crlfW (w : World) : World := w.alloc (.cells #[.int .u8 13, .int .u8 10] 5 (2, 3))
theorem crlf_in (w : World) : Lib.BytesIn (crlfW w) (some ⟨w.heap.size, 0, none⟩) 2 [13, 10] := fun _ => ⟨w.heap.size, 0, rfl, fun i hi => by
  unfold crlfW
  rw [World.cell?_alloc_mark]
  rcases (show i = 0 ∨ i = 1 by omega) with rfl | rfl <;> rfl⟩
theorem crlf_below (w : World) : Below w.heap.size w (crlfW w) := below_new w _
theorem crlf_range : ∀ y ∈ ([13, 10] : List Int), 0 ≤ y ∧ y < 256 := by decide
theorem cut_crlf {D : Nat} {A : Option Addr} {c : Nat} {x : List UInt8} {w : World} (h : Rb D w A c x) (hD : D ≤ w.heap.size) (hG : Gl w) (hs : x.length ≤ 1000000) :
    Calls Tryz.prog 106 #[.slice A x.length c, .slice (some ⟨w.heap.size, 0, none⟩) 2 2] (crlfW w) fun e w' => e = .returned (Lib.cutV A x.length c 2 (eolI x)) ∧ ∃ q, w' = (crlfW w).drewN q := by
  obtain ⟨m, hm⟩ := (hG.fresh (crlf_below w)).ml
  have h1 : Rb D (crlfW w) A c x := h.keep fun k hk => (crlf_below w).block k (by omega)
  have := Tryz.bytes_Cut_all A (some ⟨w.heap.size, 0, none⟩) x.length c 2 2 (ints x) [13, 10] m (crlfW w) (ints_len x) rfl (ints_range x) crlf_range h1.bytesIn (crlf_in w) h.nil h.cap (by omega) (by omega) hm
  rw [ints_of] at this
  exact this
theorem cutV_no {A : Option Addr} {n c : Nat} {i : Int} (h : i < 0) : Lib.cutV A n c 2 i = .tuple #[.slice A n c, .slice none 0 0, .bool false] := by unfold Lib.cutV; rw [if_neg (by omega)]
theorem cutV_yes {A : Option Addr} {n c : Nat} {i : Int} (h : 0 ≤ i) : Lib.cutV A n c 2 i = .tuple #[.slice A i.toNat c, Lib.fromV A n c (i.toNat + 2), .bool true] := by unfold Lib.cutV; rw [if_pos h]
/-- what line leaves -/
def LineP (g D : Nat) (A : Option Addr) (c : Nat) (x a p : List UInt8) (n : Int) (hV bV : Value) (ch : Bool) (k : Int) (w : World) (e : Ending) (w' : World) : Prop :=
  Kp g w.heap.size w w' ∧ match lineR x with
    | .error E => e = .returned (.tuple #[.string ⟨#[]⟩, .int .i64 E]) ∧ RSt w' g D A c x a p n hV bV ch k
    | .ok (s, r) => e = .returned (.tuple #[.string ⟨s.toArray⟩, .int .i64 0]) ∧ ∃ A' c', RSt w' g D A' c' r a p n hV bV ch k
theorem line_no {x : List UInt8} (h : eolI x < 0) : lineR x = .error 3 := by unfold lineR; rw [if_pos h]
theorem line_bad {x : List UInt8} (h : ¬ eolI x < 0) (h2 : 300 < (x.take (eolI x).toNat).length ∨ (x.take (eolI x).toNat).any crB = true) : lineR x = .error 4 := by unfold lineR; rw [if_neg h, if_pos h2]
theorem line_good {x : List UInt8} (h : ¬ eolI x < 0) (h2 : ¬ (300 < (x.take (eolI x).toNat).length ∨ (x.take (eolI x).toNat).any crB = true)) :
    lineR x = .ok (x.take (eolI x).toNat, x.drop ((eolI x).toNat + 2)) := by unfold lineR; rw [if_neg h, if_neg h2]
set_option maxRecDepth 100000 in
set_option maxHeartbeats 1000000 in
theorem rline_any {w : World} {g D : Nat} {A : Option Addr} {c : Nat} {x a p : List UInt8} {n : Int} {hV bV : Value} {ch : Bool} {k : Int} (h : RSt w g D A c x a p n hV bV ch k) (hs : x.length ≤ 1000000) :
    Calls Tryz.prog 92 #[.pointer (some ⟨g, 0, none⟩)] w (LineP g D A c x a p n hV bV ch k w) := by
  have kc := fun (w : World) (C : Array Value) (n c : Nat) => Lib.run_convert_bytes_const (P := Tryz.prog) w 23 5 C n c Tryz.underlying23 Tryz.underlying5
  have hDw : D ≤ w.heap.size := Nat.le_trans h.dg (Nat.le_of_lt h.cs.lt)
  have hcut := Lib.hid (cut_crlf h.rb hDw h.gl hs)
  have hc0 := h.c0
  have h1 : RSt (crlfW w) g D A c x a p n hV bV ch k := h.fresh (crlf_below w)
  have HB1 := Lib.hid (crlf_below w)
  have H1 := Lib.hid h1
  clear h h1
  by_cases hi : eolI x < 0
  · rw [cutV_no hi] at hcut
    have hE := Lib.hid (line_no hi)
    clear hi
    go_enter Tryz.func92, Tryz.ntmps92
    go_wp2_with fail
    go_at_call 106
    refine hcut.out.mono ?_
    rintro e w2 ⟨rfl, q, rfl⟩
    clear hcut kc
    go_wp2_with fail
    go_ret2
    unfold LineP
    rw [hE.out]
    exact ⟨kp_drewN (kp_fresh (Nat.le_refl _) HB1.out) q, rfl, H1.out.drewN q⟩
  · rw [cutV_yes (by omega)] at hcut
    have heol := eol_room (x := x) (by omega)
    have hbad := Lib.hid (line_bad hi)
    have hgood := Lib.hid (line_good hi)
    clear hi
    have htl : (x.take (eolI x).toNat).length = (eolI x).toNat := by rw [List.length_take]; omega
    have hrb := H1.out.rb.take (eolI x).toNat
    obtain ⟨A2, c2, hfv, hrd⟩ : ∃ A2 c2, Lib.fromV A x.length c ((eolI x).toNat + 2) = .slice A2 (x.drop ((eolI x).toNat + 2)).length c2 ∧ Rb D (crlfW w) A2 c2 (x.drop ((eolI x).toNat + 2)) :=
      ⟨_, _, by unfold Lib.fromV; rw [List.length_drop], H1.out.rb.drop ((eolI x).toNat + 2) heol⟩
    rw [hfv] at hcut
    clear hfv
    have hrd := Lib.hid hrd
    have hW : D ≤ (crlfW w).heap.size := Nat.le_trans hDw HB1.out.size
    have HC := Lib.hid fun q => containsAny_any (w := (crlfW w).drewN q) (hrb.keep fun _ _ => rfl) hW (H1.out.gl.drewN q) (by omega)
    have HV := Lib.hid fun (w3 : World) (hk : ∀ j, j < D → w3.heap[j]? = (crlfW w).heap[j]?) => Rb.conv (hrb.keep hk)
    rw [htl] at hbad hgood HC HV
    clear hrb
    generalize (eolI x).toNat = i at *
    generalize htt : x.take i = t at *
    generalize x.drop (i + 2) = r at *
    by_cases h3 : 300 < i
    · have hE := Lib.hid (hbad.out (.inl h3))
      have h3z : (300 : Int) < (i : Int) := by omega
      clear hbad hgood HC HV hrd htl htt
      go_enter Tryz.func92, Tryz.ntmps92
      go_wp2_with fail
      go_at_call 106
      refine hcut.out.mono ?_
      rintro e w2 ⟨rfl, q, rfl⟩
      clear hcut kc
      go_wp2_with fail
      go_ret2
      unfold LineP
      rw [hE.out]
      exact ⟨kp_drewN (kp_fresh (Nat.le_refl _) HB1.out) q, rfl, H1.out.drewN q⟩
    · have h3z : ¬ (300 : Int) < (i : Int) := by omega
      cases hany : t.any crB with
      | true =>
        have hE := Lib.hid (hbad.out (.inr hany))
        rw [hany] at HC
        clear hbad hgood HV hrd htl htt hany
        go_enter Tryz.func92, Tryz.ntmps92
        go_wp2_with fail
        go_at_call 106
        refine hcut.out.mono ?_
        rintro e w2 ⟨rfl, q, rfl⟩
        clear hcut kc
        go_wp2_with fail
        go_at_call 107
        refine (HC.out q).mono ?_
        rintro e w3 ⟨rfl, hb3⟩
        go_wp2_with fail
        go_ret2
        unfold LineP
        rw [hE.out]
        exact ⟨(kp_drewN (kp_fresh (Nat.le_refl _) HB1.out) q).trans (kp_fresh HB1.out.size hb3), rfl, (H1.out.drewN q).fresh hb3⟩
      | false =>
        have hE := Lib.hid (hgood.out (by rw [hany]; simp; omega))
        rw [hany] at HC
        clear hbad hgood htl htt hany
        go_enter Tryz.func92, Tryz.ntmps92
        go_wp2_with fail
        go_at_call 106
        refine hcut.out.mono ?_
        rintro e w2 ⟨rfl, q, rfl⟩
        clear hcut kc
        go_wp2_with fail
        go_at_call 107
        refine (HC.out q).mono ?_
        rintro e w3 ⟨rfl, hb3⟩
        have H3 := Lib.hid ((H1.out.drewN q).fresh hb3)
        have K3 := Lib.hid ((kp_drewN (kp_fresh (Nat.le_refl _) HB1.out) q).trans (kp_fresh (g := g) HB1.out.size hb3))
        have hDg := H1.out.dg
        have hgl := H1.out.cs.lt
        have hk3 : ∀ j, j < D → w3.heap[j]? = (crlfW w).heap[j]? := fun j hj => (hb3.block j (by show j < (crlfW w).heap.size; omega)).trans rfl
        have hcv := HV.out (w3.setCell ⟨g, 0, none⟩ (.slice A2 r.length c2)) (fun j hj => (Below.heap_setCell _ _ _ _ (by show j ≠ g; omega)).trans (hk3 j hj))
        have H4 := Lib.hid (H3.out.set0 (hrd.out.keep hk3))
        have K4 := Lib.hid (K3.out.trans (kp_set w3 0 (.slice A2 r.length c2)))
        have d0 := H3.out.c0
        have d1 := H3.out.f 0 (by decide)
        clear HC HV hb3 hk3 hDg hgl
        go_wp2_with fail
        go_ret2
        unfold LineP
        rw [hE.out]
        exact ⟨K4.out, rfl, _, _, H4.out⟩
end Go.Proofs.YthniggdimfldhaaGreatDoor
