/- The law OrderCovers. -/
import Derived.Test.YtkiaolegpjkbdaaDoorWu
namespace Go.Proofs.YtkiaolegpjkbdaaDoor
open Go Go.RowKit Go.Shelf

theorem cov_up {n : Nat} {A : Nat → Nat} (g : Good n A) {M : List (Nat × Nat)} (hM : ∀ p ∈ M, p ∈ covL n A) {x y : Nat} (r : Reach (ofL M) x y) : Reach A x y := by
  induction r with
  | refl => exact .refl _
  | step _ hz ih =>
    obtain ⟨_, h5, h6⟩ := mem_covL.1 (hM _ ((tb_ofL _ _ _).1 hz))
    exact ih.trans ((le_true g h5).1 (cov_iff.1 h6).2.1)
theorem cov_not {n : Nat} {A : Nat → Nat} (g : Good n A) (t : Anti A) {M : List (Nat × Nat)} (hM : ∀ p ∈ M, p ∈ covL n A) (gM : Good n (ofL M)) {p q : Nat} (h : (p, q) ∈ covL n A) (hn : (p, q) ∉ M) : le (ofL M) p q = false := by
  rw [le_false gM (mem_covL.1 h).2.1]
  exact fun r => hn (cov_path g t hM h r)
theorem cov_add {n : Nat} {A : Nat → Nat} (g : Good n A) (t : Anti A) {M : List (Nat × Nat)} (hM : ∀ p ∈ M, p ∈ covL n A) (gM : Good n (ofL M)) {p q : Nat} (h : (p, q) ∈ covL n A) : le (ofL M) q p = false := by
  obtain ⟨hp, hq, hc⟩ := mem_covL.1 h
  obtain ⟨h1, h2, _⟩ := cov_iff.1 hc
  rw [le_false gM hp]
  exact fun r => h1 (t p q (cov_up g hM r) ((le_true g hq).1 h2))
theorem cov_same {n : Nat} {A : Nat → Nat} (g : Good n A) (t : Anti A) (gC : Good n (ofL (covL n A))) {x y : Nat} (hx : x < n) (hy : y < n) : le A x y = le (ofL (covL n A)) x y := by
  rw [Bool.eq_iff_iff]
  constructor
  · intro h
    exact (le_true gC hy).2 (cov_all g t (fun _ h => h) _ x y (Nat.le_refl _) hx hy h)
  · intro h
    exact (le_true g hy).2 (cov_up g (fun _ h => h) ((le_true gC hy).1 h))
theorem take_snoc_mem {α : Type} {C : List α} {k : Nat} (hk : k < C.length) : C.take (k + 1) = C.take k ++ [C[k]] := List.take_succ_eq_append_getElem hk
theorem not_mem_take {C : List (Nat × Nat)} (h : C.Nodup) {k : Nat} (hk : k < C.length) : C[k] ∉ C.take k := by
  intro hm
  rw [List.mem_iff_getElem] at hm
  obtain ⟨j, hj, e⟩ := hm
  rw [List.length_take] at hj
  rw [List.getElem_take] at e
  exact List.pairwise_iff_getElem.1 (List.nodup_iff_pairwise_ne.1 h) j k (by omega) hk (by omega) e
theorem nodup_ne {C : List (Nat × Nat)} (h : C.Nodup) {j k : Nat} (hj : j < C.length) (hk : k < C.length) (e : j ≠ k) : C[j] ≠ C[k] := by
  intro he
  rcases Nat.lt_or_ge j k with h1 | h1
  · exact List.pairwise_iff_getElem.1 (List.nodup_iff_pairwise_ne.1 h) j k hj hk h1 he
  · exact List.pairwise_iff_getElem.1 (List.nodup_iff_pairwise_ne.1 h) k j hk hj (by omega) he.symm

set_option maxHeartbeats 4000000 in
set_option maxRecDepth 100000 in
theorem orderCovers_any (many : Int) (A1 : Option Addr) (c1 : Nat) (l : List (Int × Int)) (w : World) (hT : Tab w) (hl : Rd w A1 (pvI l)) :
    Calls Tryd.prog 6 #[.int .i64 many, .slice A1 l.length c1] w fun e w' => e = .returned (.bool true) ∧ Below w.heap.size w w' := by
  have h1 := manyOf_pos many
  have h2 := manyOf_le many
  go_enter Tryd.func6, Tryd.ntmps6
  go_wp2_with fail
  refine (made_any many A1 c1 l w hT hl).mono ?_
  rintro e w2 ⟨b, v, T, rfl, S, hTook, hT40, _, _⟩
  clear hT hl
  go_wp2_with fail
  refine (made_none many w2 S.tab).mono ?_
  rintro e w3 ⟨b', v', rfl, S'⟩
  have HMN : Hid (∀ W : World, Tab W → Calls Tryd.prog 17 #[.int .i64 many, .slice none 0 0] W fun e w' => ∃ b v, e = .returned (.tuple #[.pointer (some ⟨b, 0, none⟩), v]) ∧ OSt W b (manyOf many) (ofL []) w') := fun W h => made_none many W h
  generalize manyOf many = n at *
  have g := hTook.good h1 h2
  have t := hTook.anti h1 h2
  generalize ofL T = A at *
  have hT2 := S.tab
  have hbw := S.bel.size
  have hbb : b < b' := Nat.lt_of_lt_of_le S.ord.lt S'.ge
  have So := S.below S'.bel
  clear hTook hT40 S
  go_wp2_with fail
  refine (many_any b n A w3 So.ord).mono ?_
  rintro e w' ⟨rfl, rfl⟩
  go_wp2_with fail
  refine (covers_any b n A g w3 So.tab So.ord).mono ?_
  rintro e w4 ⟨v4, rfl, hown, hb4⟩
  obtain ⟨A4, c4, rfl, _⟩ := Rd.own hown
  have So4 := So.below hb4
  have Sp4 := S'.below hb4
  have hb0 : 0 < b' := by omega
  have hge : w.heap.size ≤ b' := Nat.le_trans hbw S'.ge
  clear So S' hb4
  have HND := Lib.hid (covL_nodup n A)
  have hCl : (covL n A).length ≤ 256 := Nat.le_trans (covTo_len n A n) (Nat.le_trans (Nat.mul_le_mul h2 h2) (by decide))
  have HSM : Hid (∀ x y, x < n → y < n → Good n (ofL (covL n A)) → le A x y = le (ofL (covL n A)) x y) := fun x y hx hy gC => cov_same g t gC hx hy
  have HCN : Hid (∀ M : List (Nat × Nat), (∀ p ∈ M, p ∈ covL n A) → Good n (ofL M) → ∀ p q, (p, q) ∈ covL n A → (p, q) ∉ M → le (ofL M) p q = false) := fun M hM gM p q h hn => cov_not g t hM gM h hn
  have HCA : Hid (∀ M : List (Nat × Nat), (∀ p ∈ M, p ∈ covL n A) → Good n (ofL M) → ∀ p q, (p, q) ∈ covL n A → le (ofL M) q p = false) := fun M hM gM p q h => cov_add g t hM gM h
  have HMC : Hid (∀ p q, (p, q) ∈ covL n A → p < n ∧ q < n ∧ p ≠ q) := fun p q h => by
    obtain ⟨x1, x2, x3⟩ := mem_covL.1 h
    exact ⟨x1, x2, (cov_iff.1 x3).1⟩
  generalize covL n A = C at *
  go_wp2_with fail
  go_loopw [11] (fun i wr => ∃ k : Nat, k ≤ C.length ∧ i = .int .i64 k ∧ Hid (Took n (C.take k)) ∧ OSt w b n A wr ∧ OSt w2 b' n (ofL (C.take k)) wr ∧ wr.ownsRow w3.heap.size 31 2 (.slice A4 C.length c4) C.length (pv C)) (fun i _ => C.length - (intOf i).toNat)
  case atStart => exact ⟨0, Nat.zero_le _, rfl, Took.nil, So4, Sp4, hown⟩
  case round =>
    obtain ⟨k, hk, rfl, hTk, So, Sp, hown⟩ := hrel
    clear So4 Sp4
    obtain ⟨wo, rfl⟩ : ∃ wo : World, wo = wr := ⟨_, rfl⟩
    by_cases hkl : k < C.length
    · obtain ⟨A5, c5, e5, hrd⟩ := Rd.own hown
      injection e5 with e51 _ e52
      subst e51 e52
      obtain ⟨p, q, bb, off, hpq, rfl, hbl, e1, e2⟩ := hrd.pairN k hkl
      have hmem : (p, q) ∈ C := by rw [← hpq]; exact List.getElem_mem hkl
      obtain ⟨hp, hq, hne⟩ := HMC.out p q hmem
      have hsub : ∀ r ∈ C.take k, r ∈ C := fun r hr => List.mem_of_mem_take hr
      have gk := hTk.out.good h1 h2
      have HL1 := Lib.hid (HCN.out _ hsub gk p q hmem (by rw [← hpq]; exact not_mem_take HND.out hkl))
      have HL2 := Lib.hid (HCA.out _ hsub gk p q hmem)
      have HTN := Lib.hid (hTk.out.snoc_of hp hq HL2.out)
      have HNX : Hid (C.take (k + 1) = C.take k ++ [(p, q)]) := by show _ = _; rw [take_snoc_mem hkl, hpq]
      have hpqi : ((p : Int) == q) = false := by rw [beq_eq_false_iff_ne]; omega
      have HO := Lib.hid hown
      have hblo := hbl
      clear hpq hmem hsub hTk hrd hown hne
      have i5 : (0 : Int) ≤ k := by omega
      have i6 : (k : Int) < C.length := by omega
      generalize C.take k = M at *
      go_wp2_with fail
      go_region_held3 (fun w' => w'.cell? ⟨bb, off + k * 2, none⟩ = some (.int .i64 p) ∧ w'.cell? ⟨bb, off + k * 2 + 1, none⟩ = some (.int .i64 q)) (go_keep)
        (first
          | (go_at_call 19; refine (atMost_yes b' n (ofL M) gk p q _ (by exact Sp.tab) (by exact Sp.ord) hp hq).mono ?_; rw [HL1.out]; rintro e w5 ⟨rfl, hb5⟩; have d1 := (hb5.cell (p := ⟨bb, off + k * 2, none⟩) hblo).trans e1; have d2 := (hb5.cell (p := ⟨bb, off + k * 2 + 1, none⟩) hblo).trans e2; have hb5' : Below wo.heap.size wo w5 := ⟨hb5.os, hb5.tape, hb5.output, hb5.size, hb5.block⟩; have Sp5 := Sp.below hb5'; have So5 := So.below hb5'; have HO5 := Lib.hid (HO.out.kept (grownBy_below hb5' none) (Classical.em _)))
          | (go_at_call 12; refine (add_ok b' n (ofL M) gk p q _ (by exact Sp5.tab) (by exact Sp5.ord) hp hq HL2.out).mono ?_; rintro e w6 hpost; have Sp6 := Sp5.add hT2 hpost; have HO6 := Lib.hid (HO5.out.kept hpost.2.1 (.inr (row_ne HO5.out Sp5.ord (by decide)))); have So6 := So5.other hpost.2.1 (by omega) hb0 hge; obtain ⟨rfl, hg6, _⟩ := hpost; have hbn : some bb ≠ some b' := (fun e => row_ne HO5.out Sp5.ord (by decide) (by rw [← e]; rfl)); have f1 : w6.cell? ⟨bb, off + k * 2, none⟩ = some (.int .i64 p) := (World.cell?_of_block (hg6.block bb (Nat.lt_of_lt_of_le hblo hb5'.size) hbn)).trans d1; have f2 : w6.cell? ⟨bb, off + k * 2 + 1, none⟩ = some (.int .i64 q) := (World.cell?_of_block (hg6.block bb (Nat.lt_of_lt_of_le hblo hb5'.size) hbn)).trans d2))
      have HSP6 := Lib.hid Sp6
      have HSO6 := Lib.hid So6
      clear Sp Sp5 Sp6 So So5 So6 d1 d2 f1 f2 e1 e2 hg6 hb5 hb5' HO HO5
      go_wp2_with fail
      go_roundw
      case rel =>
        refine ⟨k + 1, by omega, by go_num, ?_, HSO6.out, ?_, HO6.out⟩
        · rw [HNX.out]; exact HTN.out
        · rw [HNX.out, ofL_snoc]; exact HSP6.out
      case measure => simp [intOf]; omega
    · obtain rfl : k = C.length := by omega
      rw [List.take_length] at hTk Sp
      obtain ⟨A5, c5, e5, hrd⟩ := Rd.own hown
      injection e5 with e51 _ e52
      subst e51 e52
      have gC := hTk.out.good h1 h2
      have HSo := Lib.hid So
      have HSp := Lib.hid Sp
      have HRD := Lib.hid hrd
      clear hTk hown So Sp hrd
      go_wp2_with fail
      go_loopw [12] (fun i wr => ∃ x : Nat, x ≤ n ∧ i = .int .i64 x ∧ Below wo.heap.size wo wr) (fun i _ => n - (intOf i).toNat)
      case atStart => exact ⟨0, Nat.zero_le _, rfl, Below.refl _ _⟩
      case round =>
        obtain ⟨x, hx, rfl, hBx⟩ := hrel
        obtain ⟨wp, rfl⟩ : ∃ wp : World, wp = wr := ⟨_, rfl⟩
        by_cases hxn : x < n
        · go_wp2_with fail
          go_loopw [13] (fun i wr => ∃ y : Nat, y ≤ n ∧ i = .int .i64 y ∧ Below wo.heap.size wo wr) (fun i _ => n - (intOf i).toNat)
          case atStart => exact ⟨0, Nat.zero_le _, rfl, hBx⟩
          case round =>
            obtain ⟨y, hy, rfl, hBy⟩ := hrel
            clear hBx
            obtain ⟨wq, rfl⟩ : ∃ wq : World, wq = wr := ⟨_, rfl⟩
            by_cases hyn : y < n
            · have So := HSo.out.below hBy
              have Sp := HSp.out.below hBy
              go_wp2_with fail
              refine (atMost_yes b n A g x y wq So.tab So.ord hxn hyn).mono ?_
              rintro e w7 ⟨rfl, hb7⟩
              have Sp2 := Sp.below hb7
              have hB7 := hBy.trans (hb7.mono hBy.size)
              clear Sp So hb7 hBy
              go_wp2_with fail
              refine (atMost_yes b' n (ofL C) gC x y w7 Sp2.tab Sp2.ord hxn hyn).mono ?_
              rw [← HSM.out x y hxn hyn gC]
              rintro e w8 ⟨rfl, hb8⟩
              have hB8 := hB7.trans (hb8.mono hB7.size)
              clear Sp2 hb8 hB7
              have hbx : (le A x y != le A x y) = false := by simp
              go_wp2_with fail
              go_roundw
              case rel => exact ⟨y + 1, by omega, by go_num, hB8⟩
              case measure => simp [intOf]; omega
            · go_wp2_with fail
              go_roundw
              case rel => exact ⟨x + 1, by omega, by go_num, hBy⟩
              case measure => simp [intOf]; omega
        · go_wp2_with fail
          go_loopw [14] (fun i wr => ∃ m : Nat, m ≤ C.length ∧ i = .int .i64 m ∧ Below wo.heap.size wo wr) (fun i _ => C.length - (intOf i).toNat)
          case atStart => exact ⟨0, Nat.zero_le _, rfl, hBx⟩
          case round =>
            obtain ⟨m, hm, rfl, hBm⟩ := hrel
            clear hBx
            obtain ⟨wq, rfl⟩ : ∃ wq : World, wq = wr := ⟨_, rfl⟩
            by_cases hml : m < C.length
            · have Tm := HSo.out.tab.below hBm HSo.out.tab.lt
              have RDm := Lib.hid (HRD.out.below hBm)
              go_wp2_with fail
              refine (HMN.out wq Tm).mono ?_
              rintro e w5 ⟨b3, v3, rfl, S3⟩
              obtain ⟨pi, qi, bb, off, hpqi, rfl, hbl, e1, e2⟩ := RDm.out.pairN m hml
              have hmemi : (pi, qi) ∈ C := by rw [← hpqi]; exact List.getElem_mem hml
              obtain ⟨hpi, hqi, _⟩ := HMC.out pi qi hmemi
              have HPI := Lib.hid hpqi
              have HE1 := Lib.hid e1
              have HE2 := Lib.hid e2
              clear hpqi e1 e2
              have m5 : (0 : Int) ≤ m := by omega
              have m6 : (m : Int) < C.length := by omega
              go_wp2_with fail
              go_loopw [17] (fun i wr => ∃ (k : Nat) (M : List (Nat × Nat)), k ≤ C.length ∧ i = .int .i64 k ∧ Hid (Took n M) ∧ Hid (∀ r ∈ M, r ∈ C ∧ r ≠ (pi, qi)) ∧ OSt wq b3 n (ofL M) wr) (fun i _ => C.length - (intOf i).toNat)
              case atStart => exact ⟨0, [], Nat.zero_le _, rfl, Took.nil, by intro r hr; simp at hr, S3⟩
              case round =>
                obtain ⟨k, M, hk, rfl, hTk, hMk, Sk⟩ := hrel
                clear S3
                obtain ⟨ws, rfl⟩ : ∃ ws : World, ws = wr := ⟨_, rfl⟩
                have gk := hTk.out.good h1 h2
                have hsub : ∀ r ∈ M, r ∈ C := fun r hr => (hMk.out r hr).1
                by_cases hkl : k < C.length
                · by_cases hkm : k = m
                  · have hne : ((k : Int) != m) = false := by simp [hkm]
                    have HKM := Lib.hid hkm
                    clear hkm hsub
                    go_wp2_with fail
                    go_roundw
                    case rel => exact ⟨k + 1, M, by omega, by go_num, hTk, hMk, Sk⟩
                    case measure => simp [intOf]; omega
                  · have hne : ((k : Int) != m) = true := by simp; omega
                    obtain ⟨p, q, bb2, off2, hpq, eA, hbl2, f1, f2⟩ := RDm.out.pairN k hkl
                    injection eA with eA
                    injection eA with eA1 eA2
                    subst eA1 eA2
                    have hmem : (p, q) ∈ C := by rw [← hpq]; exact List.getElem_mem hkl
                    obtain ⟨hp, hq, _⟩ := HMC.out p q hmem
                    have HL2 := Lib.hid (HCA.out M hsub gk p q hmem)
                    have HTN := Lib.hid (hTk.out.snoc_of hp hq HL2.out)
                    have HMN2 : Hid (∀ r ∈ M ++ [(p, q)], r ∈ C ∧ r ≠ (pi, qi)) := fun r hr => by
                      rcases List.mem_append.1 hr with hr | hr
                      · exact hMk.out r hr
                      · rw [List.mem_singleton.1 hr]
                        exact ⟨hmem, by rw [← hpq, ← HPI.out]; exact nodup_ne HND.out hkl hml hkm⟩
                    have f1' := (Sk.bel.cell (p := ⟨bb, off + k * 2, none⟩) hbl).trans f1
                    have f2' := (Sk.bel.cell (p := ⟨bb, off + k * 2 + 1, none⟩) hbl).trans f2
                    have F1 := Lib.hid f1
                    have F2 := Lib.hid f2
                    clear hkm hsub hpq hmem f1 f2 hTk hMk
                    have i5 : (0 : Int) ≤ k := by omega
                    have i6 : (k : Int) < C.length := by omega
                    go_wp2_with fail
                    go_region_held3 (fun w' => w'.cell? ⟨bb, off + k * 2, none⟩ = some (.int .i64 p) ∧ w'.cell? ⟨bb, off + k * 2 + 1, none⟩ = some (.int .i64 q)) (go_keep)
                      (((go_at_call 12; refine (add_ok b3 n (ofL M) gk p q _ (by exact Sk.tab) (by exact Sk.ord) hp hq HL2.out).mono ?_; rintro e w6 hpost; have Sk6 : OSt wq b3 n (ofL (M ++ [(p, q)])) w6 := (by rw [ofL_snoc]; exact OSt.add (W := ws) Sk Tm ⟨hpost.1, ⟨hpost.2.1.os, hpost.2.1.tape, hpost.2.1.output, hpost.2.1.size, hpost.2.1.block⟩, hpost.2.2⟩); obtain ⟨rfl, hg6, _⟩ := hpost; have g1 := (Sk6.bel.cell (p := ⟨bb, off + k * 2, none⟩) hbl).trans F1.out; have g2 := (Sk6.bel.cell (p := ⟨bb, off + k * 2 + 1, none⟩) hbl).trans F2.out)))
                    have HSK6 := Lib.hid Sk6
                    clear Sk Sk6 f1' f2' g1 g2 hg6
                    go_wp2_with fail
                    go_roundw
                    case rel => exact ⟨k + 1, M ++ [(p, q)], by omega, by go_num, HTN.out, HMN2.out, HSK6.out⟩
                    case measure => simp [intOf]; omega
                · have HL1 := Lib.hid (HCN.out M hsub gk pi qi hmemi (fun hm => (hMk.out _ hm).2 rfl))
                  have f1' := (Sk.bel.cell (p := ⟨bb, off + m * 2, none⟩) hbl).trans HE1.out
                  have f2' := (Sk.bel.cell (p := ⟨bb, off + m * 2 + 1, none⟩) hbl).trans HE2.out
                  have hbls : bb < ws.heap.size := Nat.lt_of_lt_of_le hbl Sk.bel.size
                  clear hsub hTk hMk
                  go_wp2_with fail
                  go_region_held3 (fun w' => w'.cell? ⟨bb, off + m * 2, none⟩ = some (.int .i64 pi) ∧ w'.cell? ⟨bb, off + m * 2 + 1, none⟩ = some (.int .i64 qi)) (go_keep)
                    (((go_at_call 19; refine (atMost_yes b3 n (ofL M) gk pi qi _ (by exact Sk.tab) (by exact Sk.ord) hpi hqi).mono ?_; rw [HL1.out]; rintro e w6 ⟨rfl, hb6⟩; have hb6' : Below ws.heap.size ws w6 := ⟨hb6.os, hb6.tape, hb6.output, hb6.size, hb6.block⟩; have Sk6 := Sk.below hb6'; have g1 := (hb6'.cell (p := ⟨bb, off + m * 2, none⟩) hbls).trans f1'; have g2 := (hb6'.cell (p := ⟨bb, off + m * 2 + 1, none⟩) hbls).trans f2')))
                  have hBk := hBm.trans (Sk6.bel.mono hBm.size)
                  clear Sk Sk6 f1' f2' g1 g2 hb6 hb6'
                  go_wp2_with fail
                  go_roundw
                  case rel => exact ⟨m + 1, by omega, by go_num, hBk⟩
                  case measure => simp [intOf]; omega
            · have So := HSo.out.below hBm
              go_wp2_with fail
              refine (works_any wq So.tab).mono ?_
              rintro e w6 ⟨rfl, hb6⟩
              have S6 := So.below hb6
              go_wp2_with fail
              go_ret
              exact ⟨rfl, S6.bel⟩
end Go.Proofs.YtkiaolegpjkbdaaDoor
