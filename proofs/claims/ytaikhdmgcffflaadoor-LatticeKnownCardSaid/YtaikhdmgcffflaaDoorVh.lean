/- Walks of laid: names, codes, the low and the high label are laid. -/
import Derived.Test.YtaikhdmgcffflaaDoorVg
import Derived.Test.YtaikhdmgcffflaaDoorWn
namespace Go.Proofs.YtaikhdmgcffflaaDoor
open Go Go.RowKit

/-- The bits of a row of numbers. -/
def bitsOf (l : List Nat) : Nat := l.foldl (fun s b => s ||| 2 ^ b) 0
theorem bitsOf_take (l : List Nat) (k : Nat) (hk : k < l.length) : bitsOf (l.take (k + 1)) = bitsOf (l.take k) ||| 2 ^ l[k] := by
  unfold bitsOf
  rw [List.take_succ_eq_append_getElem hk, List.foldl_append]
  rfl
theorem tb_bitsL (i : Nat) : ∀ (l : List Nat) (s : Nat), (l.foldl (fun s b => s ||| 2 ^ b) s).testBit i = true ↔ s.testBit i = true ∨ i ∈ l
  | [], s => by simp
  | b :: l, s => by
    rw [List.foldl_cons, tb_bitsL i l, Nat.testBit_or, Nat.testBit_two_pow, Bool.or_eq_true, decide_eq_true_eq, List.mem_cons, or_assoc]
    constructor
    · rintro (h | h | h)
      · exact .inl h
      · exact .inr (.inl h.symm)
      · exact .inr (.inr h)
    · rintro (h | h | h)
      · exact .inl h
      · exact .inr (.inl h.symm)
      · exact .inr (.inr h)
theorem tb_bitsOf (l : List Nat) (i : Nat) : (bitsOf l).testBit i = true ↔ i ∈ l := by
  unfold bitsOf; rw [tb_bitsL]; simp
theorem bitsOf_down {n : Nat} {A : Nat → Nat} (g : Good n A) {a : Nat} (ha : a < n) : bitsOf (dnL n A a) = clo A a := by
  apply Nat.eq_of_testBit_eq
  intro i
  rw [Bool.eq_iff_iff, tb_bitsOf, tb_le]
  unfold dnL
  rw [List.mem_filter, List.mem_range]
  exact ⟨fun h => h.2, fun h => ⟨g.le_lt ha h, h⟩⟩
theorem bitsOf_lt {l : List Nat} (h : ∀ b ∈ l, b < 10) : bitsOf l < 1024 := by
  apply Nat.lt_pow_two_of_testBit (n := 10)
  intro j hj
  cases hb : (bitsOf l).testBit j with
  | false => rfl
  | true => have := h j ((tb_bitsOf l j).1 hb); omega
theorem mem_dn {n : Nat} {A : Nat → Nat} {a b : Nat} (h : b ∈ dnL n A a) : b < n := by
  unfold dnL at h
  rw [List.mem_filter, List.mem_range] at h
  exact h.1

theorem latF_N {n : Nat} {nm : Nat → Value} {C : Nat → Nat} {lo hi : Nat} {d s : Int} {J M : Nat → Nat} {p : Nat} {v : Value} (hp : p < 10) (i : Nat) :
    latF n (fun k => if k = p then v else nm k) C lo hi d s J M i = if i = 1 + p then v else latF n nm C lo hi d s J M i := by
  by_cases e : i = 1 + p
  · rw [if_pos e]
    unfold latF
    rw [if_neg (by omega), if_pos (by omega)]
    dsimp only
    rw [if_pos (by omega)]
  · rw [if_neg e]
    unfold latF
    by_cases h0 : i = 0
    · simp only [if_pos h0]
    simp only [if_neg h0]
    by_cases h1 : i < 11
    · simp only [if_pos h1]
      rw [if_neg (by omega)]
    simp only [if_neg h1]
theorem latF_C {n : Nat} {nm : Nat → Value} {C : Nat → Nat} {lo hi : Nat} {d s : Int} {J M : Nat → Nat} {p v : Nat} (hp : p < 10) (i : Nat) :
    latF n nm (fun k => if k = p then v else C k) lo hi d s J M i = if i = 11 + p then .int .i64 (v : Nat) else latF n nm C lo hi d s J M i := by
  by_cases e : i = 11 + p
  · rw [if_pos e]
    unfold latF
    rw [if_neg (by omega), if_neg (by omega), if_pos (by omega)]
    dsimp only
    rw [if_pos (by omega)]
  · rw [if_neg e]
    unfold latF
    by_cases h0 : i = 0
    · simp only [if_pos h0]
    simp only [if_neg h0]
    by_cases h1 : i < 11
    · simp only [if_pos h1]
    simp only [if_neg h1]
    by_cases h2 : i < 21
    · simp only [if_pos h2]
      rw [if_neg (by omega)]
    simp only [if_neg h2]
theorem latF_lo {n : Nat} {nm : Nat → Value} {C : Nat → Nat} {lo lo' hi : Nat} {d s : Int} {J M : Nat → Nat} (i : Nat) : latF n nm C lo' hi d s J M i = if i = 21 then .int .i64 (lo' : Nat) else latF n nm C lo hi d s J M i := by
  by_cases e : i = 21
  · subst e; rfl
  · rw [if_neg e]
    unfold latF
    simp only [if_neg e]
theorem latF_hi {n : Nat} {nm : Nat → Value} {C : Nat → Nat} {lo hi hi' : Nat} {d s : Int} {J M : Nat → Nat} (i : Nat) : latF n nm C lo hi' d s J M i = if i = 22 then .int .i64 (hi' : Nat) else latF n nm C lo hi d s J M i := by
  by_cases e : i = 22
  · subst e; rfl
  · rw [if_neg e]
    unfold latF
    simp only [if_neg e]

/-- A lattice that is being laid: k names, the codes of k labels, s the bits that the next one's code has so far. -/
def cdP (A : Nat → Nat) (k s i : Nat) : Nat := if i < k then clo A i else if i = k then s else 0
def LatP (w : World) (b n : Nat) (N : List (List UInt8)) (A : Nat → Nat) (kn k s : Nat) : Prop := Blk w b 76 226 (latF n (nmF (N.take kn)) (cdP A k s) 0 0 0 0 (fun _ => 0) (fun _ => 0))
section
variable {w : World} {b n : Nat} {N : List (List UInt8)} {A : Nat → Nat} {kn k s : Nat}
theorem LatP.setN (h : LatP w b n N A kn k s) (hk : kn < N.length) (hk2 : kn < 10) : LatP (w.setCell ⟨b, 1 + kn, none⟩ (.string ⟨N[kn].toArray⟩)) b n N A (kn + 1) k s := by
  refine Blk.congr (Blk.set h _ _) fun i _ => ?_
  have e : nmF (N.take (kn + 1)) = fun i => if i = kn then (.string ⟨N[kn].toArray⟩) else nmF (N.take kn) i := by
    funext i
    unfold nmF
    by_cases hi : i = kn
    · rw [if_pos hi, hi, List.getD_eq_getElem?_getD, List.getElem?_take_of_lt (by omega), List.getElem?_eq_getElem hk]; rfl
    · rw [if_neg hi]
      congr 1
      rw [List.getD_eq_getElem?_getD, List.getD_eq_getElem?_getD]
      rcases Nat.lt_or_ge i kn with h1 | h1
      · rw [List.getElem?_take_of_lt (by omega), List.getElem?_take_of_lt h1]
      · rw [List.getElem?_eq_none (by rw [List.length_take]; omega), List.getElem?_eq_none (by rw [List.length_take]; omega)]
  rw [e, latF_N hk2]
theorem LatP.codeAt (h : LatP w b n N A kn k s) (hk : k < 10) : w.cell? ⟨b, 11 + k, none⟩ = some (.int .i64 (s : Nat)) := by
  refine (Blk.cell h (by omega)).trans ?_
  unfold latF
  rw [if_neg (by omega), if_neg (by omega), if_pos (by omega), show 11 + k - 11 = k by omega, cdP, if_neg (by omega), if_pos rfl]
theorem LatP.setC (h : LatP w b n N A kn k s) (hk : k < 10) (s' : Nat) : LatP (w.setCell ⟨b, 11 + k, none⟩ (.int .i64 (s' : Nat))) b n N A kn k s' := by
  refine Blk.congr (Blk.set h _ _) fun i _ => ?_
  have e : cdP A k s' = fun i => if i = k then s' else cdP A k s i := by
    funext i
    unfold cdP
    by_cases hi : i = k
    · rw [if_neg (by omega), if_pos hi, if_pos hi]
    · rw [if_neg hi, if_neg hi, if_neg hi]
  rw [e, latF_C hk]
theorem LatP.next (h : LatP w b n N A kn k (clo A k)) : LatP w b n N A kn (k + 1) 0 := by
  have e : cdP A k (clo A k) = cdP A (k + 1) 0 := by
    funext i
    unfold cdP
    by_cases h1 : i < k
    · rw [if_pos h1, if_pos (by omega)]
    · rw [if_neg h1]
      by_cases h2 : i = k
      · rw [if_pos h2, if_pos (by omega), h2]
      · rw [if_neg h2, if_neg (by omega)]
        split <;> rfl
  unfold LatP at *
  rwa [← e]
theorem LatP.done (h : LatP w b n N A n n 0) (hN : N.length = n) : LatM w b n N A 0 0 0 0 0 0 := by
  refine Blk.congr h fun i _ => ?_
  have e1 : N.take n = N := List.take_of_length_le (by omega)
  have e2 : cdP A n 0 = cdF n A := by
    funext i
    unfold cdP cdF
    by_cases h1 : i < n
    · rw [if_pos h1, if_pos h1]
    · rw [if_neg h1, if_neg h1]
      split <;> rfl
  have e3 : jT n A 0 = fun _ => 0 := by funext i; unfold jT; rw [if_neg (by omega)]
  have e4 : mT n A 0 = fun _ => 0 := by funext i; unfold mT; rw [if_neg (by omega)]
  rw [e1, e2, e3, e4]
end
section
variable {w : World} {b n : Nat} {N : List (List UInt8)} {A : Nat → Nat} {lo hi : Nat} {d s : Int} {j m : Nat}
theorem LatM.setLo (h : LatM w b n N A lo hi d s j m) (lo' : Nat) : LatM (w.setCell ⟨b, 21, none⟩ (.int .i64 (lo' : Nat))) b n N A lo' hi d s j m :=
  Blk.congr (Blk.set h _ _) fun i _ => (latF_lo i).symm
theorem LatM.setHi (h : LatM w b n N A lo hi d s j m) (hi' : Nat) : LatM (w.setCell ⟨b, 22, none⟩ (.int .i64 (hi' : Nat))) b n N A lo hi' d s j m :=
  Blk.congr (Blk.set h _ _) fun i _ => (latF_hi i).symm
end

/-- What lies while a lattice is laid: the order, the lattice, all that was there as it was. -/
structure LdSt (w : World) (bo b n : Nat) (N : List (List UInt8)) (A : Nat → Nat) (kn k s : Nat) (W : World) : Prop where
  tab : Tab W
  ord : IsOrd W bo n A
  lat : LatP W b n N A kn k s
  bel : Below w.heap.size w W
  ge : w.heap.size ≤ b
  pos : 0 < b
  ne : bo ≠ b
section
variable {w W W' : World} {bo b n : Nat} {N : List (List UInt8)} {A : Nat → Nat} {kn k s : Nat}
theorem LdSt.below (h : LdSt w bo b n N A kn k s W) (hb : Below W.heap.size W W') : LdSt w bo b n N A kn k s W' :=
  ⟨h.tab.below hb h.tab.lt, h.ord.below hb h.ord.lt, Blk.below h.lat hb (Blk.lt h.lat), h.bel.trans (hb.mono h.bel.size), h.ge, h.pos, h.ne⟩
theorem tab_set {b o : Nat} {v : Value} (h : Tab W) (hb : 0 < b) : Tab (W.setCell ⟨b, o, none⟩ v) :=
  tab_grown h (grownBy_set (grownBy_rfl W _) v o) hb
theorem ord_set {b o : Nat} {v : Value} (h : IsOrd W bo n A) (hne : bo ≠ b) : IsOrd (W.setCell ⟨b, o, none⟩ v) bo n A := h.kept (grownBy_set (grownBy_rfl W _) v o) (by simp; omega)
theorem LdSt.setN (h : LdSt w bo b n N A kn k s W) (hk : kn < N.length) (hk2 : kn < 10) : LdSt w bo b n N A (kn + 1) k s (W.setCell ⟨b, 1 + kn, none⟩ (.string ⟨N[kn].toArray⟩)) :=
  ⟨tab_set h.tab h.pos, ord_set h.ord h.ne, h.lat.setN hk hk2, h.bel.setCell h.ge _, h.ge, h.pos, h.ne⟩
theorem LdSt.setC (h : LdSt w bo b n N A kn k s W) (hk : k < 10) (s' : Nat) : LdSt w bo b n N A kn k s' (W.setCell ⟨b, 11 + k, none⟩ (.int .i64 (s' : Nat))) :=
  ⟨tab_set h.tab h.pos, ord_set h.ord h.ne, h.lat.setC hk s', h.bel.setCell h.ge _, h.ge, h.pos, h.ne⟩
theorem LdSt.drewN (h : LdSt w bo b n N A kn k s W) (q : Nat) : LdSt w bo b n N A kn k s (W.drewN q) :=
  h.below (below_drewN (Below.refl _ _) q)
theorem LdSt.drew (h : LdSt w bo b n N A kn k s W) : LdSt w bo b n N A kn k s W.drew := h.drewN 1
end
theorem shl_any (b : Nat) (hb : b < 11) : IntKind.i64.wrap ((2 : Int) ^ b) = ((2 ^ b : Nat) : Int) := by
  have h : ((2 ^ b : Nat) : Int) = (2 : Int) ^ b := by simp
  rw [← h]
  refine wrap_i64_small _ ?_
  have := Nat.pow_lt_pow_right (a := 2) (by omega) hb
  omega

theorem zeroL : Tryd.zeroCells76 = ((List.range 226).map (latF 0 (fun _ => .string ⟨#[]⟩) (fun _ => 0) 0 0 0 0 (fun _ => 0) (fun _ => 0))).toArray := by kernel_rfl
theorem Blk.newSet (w : World) {m : Nat} {t : TypeId} {f : Nat → Value} {cs : Array Value} (v : Value) (hc : cs = ((List.range m).map f).toArray) : Blk (w.alloc (.cells (cs.setIfInBounds 0 v) t)) w.heap.size t m (fun j => if j = 0 then v else f j) := by
  refine Blk.new w ?_
  subst hc
  apply Array.ext
  · simp
  · intro j h1 h2
    simp only [List.setIfInBounds_toArray, List.getElem_toArray, List.getElem_set, List.getElem_map, List.getElem_range]
    by_cases e : 0 = j
    · subst e; simp
    · rw [if_neg e, if_neg (fun e' => e e'.symm)]
theorem latP_new (w : World) (N : List (List UInt8)) (A : Nat → Nat) : LatP (w.alloc (.cells (Tryd.zeroCells76.setIfInBounds 0 (.int .i64 (N.length : Nat))) 76)) w.heap.size N.length N A 0 0 0 := by
  refine Blk.congr (Blk.newSet w _ zeroL) fun i _ => ?_
  unfold latF
  by_cases h0 : i = 0
  · rw [if_pos h0, if_pos h0]
  · rw [if_neg h0, if_neg h0, if_neg h0]
    have e1 : nmF (N.take 0) (i - 1) = .string ⟨#[]⟩ := rfl
    have e2 : cdP A 0 0 (i - 11) = 0 := by unfold cdP; rw [if_neg (by omega)]; split <;> rfl
    rw [e1, e2]
theorem Blk.some {w : World} {b m : Nat} {t : TypeId} {f : Nat → Value} (h : Blk w b t m f) {i : Nat} (hi : i < m) : ∃ v, w.cell? ⟨b, i, none⟩ = some v := ⟨_, h.cell hi⟩
theorem own_set {W : World} {base b o n : Nat} {v u : Value} {xs : List Value} (h : W.ownsRow base 3 1 v n xs) (hb : b < base) : (W.setCell ⟨b, o, none⟩ u).ownsRow base 3 1 v n xs := ownsRow_setCell_below h (a := ⟨b, o, none⟩) hb u

theorem headD_at (l : List Nat) (h : 0 < l.length) : l.headD 0 = l[0] := by
  cases l with
  | nil => simp at h
  | cons y r => rfl
theorem nv_at (l : List Nat) (i : Nat) (h : i < l.length) : (nv l)[i]? = some (.int .i64 (l[i] : Nat)) := by
  rw [nv, List.getElem?_map, List.getElem?_eq_getElem h]
  rfl
/-- What laid leaves. -/
def LaidPost (n : Nat) (N : List (List UInt8)) (A : Nat → Nat) (w : World) (e : Ending) (w' : World) : Prop := ∃ b, e = .returned (.pointer (some ⟨b, 0, none⟩)) ∧ LatM w' b n N A (loL n A) (hiL n A) 0 0 0 0 ∧ Tab w' ∧ w.heap.size ≤ b ∧ Below w.heap.size w w'
set_option maxHeartbeats 4000000 in
set_option maxRecDepth 100000 in
theorem laid_any (As : Option Addr) (c : Nat) (N : List (List UInt8)) (bo n : Nat) (A : Nat → Nat) (hN : N.length = n) (g : Good n A) (t : Anti A) (hn : n ≤ 10) (w : World) (hT : Tab w) (ho : IsOrd w bo n A) (hR : Rd w As (sv N)) (hL : ∀ y ∈ N, y.length ≤ 1000000) :
    Calls Tryd.prog 30 #[.slice As n c, .pointer (some ⟨bo, 0, none⟩)] w (LaidPost n N A w) := by
  have HT := Lib.hid hT
  have HR := Lib.hid hR
  have HL := Lib.hid hL
  have HO := Lib.hid ho
  clear hT hR hL ho
  subst hN
  go_enter Tryd.func30, Tryd.ntmps30
  go_wp2
  have P0 := latP_new w N A
  have S0 : LdSt w bo w.heap.size N.length N A 0 0 0 (w.alloc (.cells (Tryd.zeroCells76.setIfInBounds 0 (.int .i64 (N.length : Nat))) 76)) :=
    ⟨HT.out.below (below_new w _) HT.out.lt, HO.out.below (below_new w _) HO.out.lt, P0, below_new w _, Nat.le_refl _, HT.out.lt, by have := HO.out.lt; omega⟩
  clear P0
  obtain ⟨b, hb⟩ : ∃ b, b = w.heap.size := ⟨_, rfl⟩
  rw [← hb] at S0 ⊢
  generalize w.alloc (.cells (Tryd.zeroCells76.setIfInBounds 0 (.int .i64 (N.length : Nat))) 76) = w0 at *
  generalize Value.agg (Tryd.zeroCells76.setIfInBounds 0 (.int .i64 (N.length : Nat))) = u13 at *
  have HB := Lib.hid hb
  clear hb
  go_loopw [17] (fun i wr => ∃ k : Nat, k ≤ N.length ∧ i = .int .i64 k ∧ LdSt w bo b N.length N A k k 0 wr) (fun i _ => N.length - (intOf i).toNat)
  case atStart => exact ⟨0, Nat.zero_le _, rfl, S0⟩
  case round =>
    obtain ⟨k, hk, rfl, S⟩ := hrel
    clear S0
    obtain ⟨wo, rfl⟩ : ∃ wo : World, wo = wr := ⟨_, rfl⟩
    by_cases hlt : k < N.length
    · obtain ⟨bb, off, rfl, hbl, e10⟩ := HR.out.str k hlt
      have e1 := (S.bel.cell (p := ⟨bb, off + k, none⟩) hbl).trans e10
      have hyl := HL.out _ (List.getElem_mem hlt)
      have con := Lib.hid (clone_any N[k] wo.drew hyl)
      have HSet := Lib.hid (fun (W : World) (h : LdSt w bo b N.length N A k k 0 W) => h.setN hlt (by omega))
      generalize N[k] = z at *
      have k1 : (0 : Int) ≤ k := by omega
      have k2 : (k : Int) < N.length := by omega
      have k3 : (k : Int) < 10 := by omega
      have HS := Lib.hid S.drew
      clear S e10
      go_wp2_with fail
      go_region_held3 (fun _ => True) (first | trivial | go_keep)
        ((go_at_call 54; refine Calls.mono con.out ?_; rintro e w5 ⟨rfl, hb5⟩; have S5 := HS.out.below hb5; obtain ⟨ov, d3⟩ := Blk.some S5.lat (i := 1 + k) (by omega); have d4 : w5.frozen? ⟨b, 1 + k, none⟩ = false := Blk.free S5.lat _; have HS5 := Lib.hid S5; clear S5))
      have S6 := HSet.out _ HS5.out
      clear HS HS5 con d3 d4 e1 HSet
      generalize w5.setCell ⟨b, 1 + k, none⟩ (.string ⟨z.toArray⟩) = w6 at *
      go_wp2_with fail
      refine (down_own bo N.length A g k hlt w6 S6.tab S6.ord).mono ?_
      rintro e w7 ⟨v, rfl, base, hbase, hr, hb7⟩
      obtain ⟨Av, cv, rfl, _⟩ := Rd.own hr
      have S7 := S6.below hb7
      have hbb : b < base := Nat.lt_of_lt_of_le (Blk.lt S6.lat) hbase
      have hdl := filter_len_le (p := fun b => le A b k) N.length
      clear S6 hb7
      have hl2 : (dnL N.length A k).length ≤ 10 := Nat.le_trans hdl hn
      clear hdl
      go_wp2_with fail
      go_loopw [33] (fun i wr => ∃ j : Nat, j ≤ (dnL N.length A k).length ∧ i = .int .i64 j ∧ LdSt w bo b N.length N A (k + 1) k (bitsOf ((dnL N.length A k).take j)) wr ∧ wr.ownsRow base 3 1 (.slice Av (dnL N.length A k).length cv) (dnL N.length A k).length (nv (dnL N.length A k))) (fun i _ => (dnL N.length A k).length - (intOf i).toNat)
      case atStart => exact ⟨0, Nat.zero_le _, rfl, S7, hr⟩
      case round =>
        obtain ⟨j, hj, rfl, S8, hr8⟩ := hrel
        clear S7 hr
        obtain ⟨wp, rfl⟩ : ∃ wp : World, wp = wr := ⟨_, rfl⟩
        by_cases hlj : j < (dnL N.length A k).length
        · obtain ⟨A2, c2, heq, hrd⟩ := Rd.own hr8
          cases heq
          obtain ⟨g2, off2, rfl, hg2, hc2⟩ := hrd.nat j hlj
          have hx : (dnL N.length A k)[j] < N.length := mem_dn (List.getElem_mem hlj)
          have hst := Lib.hid (bitsOf_take (dnL N.length A k) j hlj)
          have hlt1 : bitsOf ((dnL N.length A k).take j) < 1024 := bitsOf_lt fun b hb => by have := mem_dn (List.mem_of_mem_take hb); omega
          have hcode := S8.lat.codeAt (by omega)
          have hfr : wp.frozen? ⟨b, 11 + k, none⟩ = false := Blk.free S8.lat _
          generalize (dnL N.length A k)[j] = x at *
          generalize bitsOf ((dnL N.length A k).take j) = s at *
          have hshl := shl_any x (by omega)
          have hor : Hid (bits .or .i64 (s : Int) ((2 : Int) ^ x) = ((s ||| 2 ^ x : Nat) : Int)) := by
            have h := i64_or_nat s (2 ^ x) (by omega) (by have := Nat.pow_lt_pow_right (a := 2) (by omega) (show x < 10 by omega); omega)
            rw [show ((2 ^ x : Nat) : Int) = (2 : Int) ^ x by simp] at h
            exact h
          have HS8 := Lib.hid S8
          have HR8 := Lib.hid hr8
          have j1 : (0 : Int) ≤ j := by omega
          have j2 : (j : Int) < (dnL N.length A k).length := by omega
          have x1 : (0 : Int) ≤ x := by omega
          clear S8 hr8 hrd
          go_wp2_with fail
          go_region
          rw [hor.out]
          have S9 := (HS8.out.setC (by omega) (s ||| 2 ^ x)).drew
          have R9 : (wp.setCell ⟨b, 11 + k, none⟩ (.int .i64 ((s ||| 2 ^ x : Nat) : Int))).drew.ownsRow base 3 1 _ _ _ := (own_set HR8.out hbb)
          clear HS8 HR8 hcode hfr hc2
          generalize (wp.setCell ⟨b, 11 + k, none⟩ (.int .i64 ((s ||| 2 ^ x : Nat) : Int))).drew = w9 at *
          go_wp2_with fail
          go_roundw
          case rel => exact ⟨j + 1, by omega, by go_num, by rw [hst.out]; exact S9, R9⟩
          case measure => simp [intOf]; omega
        · have e : (dnL N.length A k).take j = dnL N.length A k := List.take_of_length_le (by omega)
          rw [e, bitsOf_down g hlt] at S8
          have S9 : LdSt w bo b N.length N A (k + 1) (k + 1) 0 wp := ⟨S8.tab, S8.ord, S8.lat.next, S8.bel, S8.ge, S8.pos, S8.ne⟩
          clear S8 hr8 e
          go_wp2_with fail
          go_roundw
          case rel => exact ⟨k + 1, by omega, by go_num, S9⟩
          case measure => simp [intOf]; omega
    · obtain rfl : k = N.length := by omega
      have hgp := g.pos
      have hll := (lineL_lined g t).2
      have hne := line_ne g t
      have hh : loL N.length A = (lineL N.length A)[0]'(by omega) := by
        exact headD_at _ _
      have hh2 : hiL N.length A = (lineL N.length A)[N.length - 1]'(by omega) := by
        unfold hiL
        rw [List.getLastD_eq_getLast?, List.getLast?_eq_some_getLast hne, Option.getD_some, List.getLast_eq_getElem]
        congr 1
        omega
      go_wp2_with fail
      refine (line_own bo N.length A g t wo S.tab S.ord).mono ?_
      rintro e w7 ⟨v, rfl, base, hbase, hr, hb7⟩
      obtain ⟨g2, c2, rfl, _, hg2⟩ := hr.form (by omega)
      have hlt2 := (World.ownsRow.lt hr g2 rfl).1
      have S7 := S.below hb7
      have hgb : g2 ≠ b := by have := Blk.lt S.lat; omega
      have L7 := S7.lat.done rfl
      have e1 : w7.cell? ⟨g2, 0, none⟩ = some (.int .i64 (loL N.length A : Nat)) := by
        have := hr.cells (g := g2) rfl 0 (.int .i64 ((lineL N.length A)[0]'(by omega) : Nat)) (nv_at _ _ _)
        rw [add_pl] at this
        rw [hh]; exact this
      have e2 : w7.cell? ⟨g2, N.length - 1, none⟩ = some (.int .i64 (hiL N.length A : Nat)) := by
        have := hr.cells (g := g2) rfl (N.length - 1) (.int .i64 ((lineL N.length A)[N.length - 1]'(by omega) : Nat)) (nv_at _ _ _)
        rw [add_pl, Nat.zero_add] at this
        rw [hh2]; exact this
      obtain ⟨m, hm⟩ : ∃ m, m + 1 = N.length := ⟨N.length - 1, by omega⟩
      have hm1 : N.length - 1 = m := by omega
      rw [hm1] at e2
      rw [hll, ← hm]
      have T7 := S7.tab
      have B7 := S7.bel
      have hpos := S7.pos
      have hge := S7.ge
      have f1 : w7.frozen? ⟨b, 21, none⟩ = false := Blk.free L7 _
      have f2 : w7.frozen? ⟨b, 22, none⟩ = false := Blk.free L7 _
      have d1 := L7.low
      have d2 := L7.high
      clear S hr S7 hb7 hlt2 hg2 hh hh2
      have HL7 := Lib.hid L7
      clear L7
      obtain ⟨lo, hlo⟩ : ∃ x, x = loL N.length A := ⟨_, rfl⟩
      obtain ⟨hi, hhi⟩ : ∃ x, x = hiL N.length A := ⟨_, rfl⟩
      rw [← hlo] at e1
      rw [← hhi] at e2
      have HLO := Lib.hid hlo
      have HHI := Lib.hid hhi
      clear hlo hhi
      go_wp2_with fail
      go_region
      have L8 := (HL7.out.setLo lo).setHi hi
      have T8 : Tab ((w7.setCell ⟨b, 21, none⟩ (.int .i64 (lo : Nat))).setCell ⟨b, 22, none⟩ (.int .i64 (hi : Nat))) := tab_set (tab_set T7 hpos) hpos
      have B8 : Below w.heap.size w ((w7.setCell ⟨b, 21, none⟩ (.int .i64 (lo : Nat))).setCell ⟨b, 22, none⟩ (.int .i64 (hi : Nat))) := (B7.setCell hge _).setCell hge _
      have B9 := B8.drew
      have HGE := Lib.hid hge
      clear HL7 T7 B7 d1 d2 f1 f2 e1 e2 B8
      generalize (w7.setCell ⟨b, 21, none⟩ (.int .i64 (lo : Nat))).setCell ⟨b, 22, none⟩ (.int .i64 (hi : Nat)) = w9 at *
      go_wp2_with fail
      go_ret
      exact ⟨b, rfl, by rw [← HLO.out, ← HHI.out]; exact L8, T8, HGE.out, B9⟩
end Go.Proofs.YtaikhdmgcffflaaDoor
