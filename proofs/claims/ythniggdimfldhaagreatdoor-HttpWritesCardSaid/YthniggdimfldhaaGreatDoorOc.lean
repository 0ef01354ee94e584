/- A message that came in, with the room that the row's weights give. -/
import Derived.Test.YthniggdimfldhaaGreatDoorOb
import Derived.Test.YthniggdimfldhaaGreatDoorNzw
import Derived.SizedLaws
namespace Go.Proofs.YthniggdimfldhaaGreatDoor
open Go Go.ChangeShapes Go.WideShapes Go.ChangeAt Go.RowKit

/-- a slice that came in: its shape, and how much room it may take -/
theorem slice_room {H : Type} {enc : TypeId × Value → H} {W : World} {base fuel : Nat} {spare : Nat → Bool} {held : Bool} {t e : TypeId} {a0 : Option Addr} {len cap : Nat} {x : DataW H × List MemPlace} (hu : Tryz.prog.underlying t = some (.slice e))
    (h : DataW.trod enc Tryz.prog W base spare held fuel t [.slice a0 len cap] = some x) (hw : ∀ n ∈ x.1.weights Tryz.prog t, n ≤ reachBytes) : len ≤ cap ∧ (a0 = none → cap = 0) ∧ len * Tryz.prog.bytesOf e ≤ reachBytes := by
  rcases DataW.trod_slice hu h with ⟨hc, _⟩ | ⟨a, len', cap', elems, rest, n, _, hc, hx, _, hl, _, he, _⟩
  · simp at hc
    obtain ⟨rfl, rfl, rfl⟩ := hc
    exact ⟨Nat.le_refl _, fun _ => rfl, by simp⟩
  · simp at hc
    obtain ⟨rfl, rfl, rfl⟩ := hc
    refine ⟨hl, (fun e => by cases e), ?_⟩
    have := hw ((elems.length + rest.length) * Tryz.prog.bytesOf e) (by rw [hx]; simp [DataW.weights, hu])
    rw [he] at this
    exact Nat.le_trans (Nat.mul_le_mul_right _ (Nat.le_add_right _ _)) this
set_option maxRecDepth 100000 in
/-- a field of one cell of a struct that came in, and its weights among the struct's -/
theorem field_in {H : Type} {enc : TypeId × Value → H} {W : World} {base fuel : Nat} {spare : Nat → Bool} {held : Bool} {t u : TypeId} {cs : Array Value} {fs : Array Field} {l : List (TypeId × Nat)} {x : DataW H × List MemPlace} (ht : Tryz.prog.underlying t = some (.struct fs)) (hl : fs.toList.map (fun f => (f.type, f.offset)) = l)
    (h : DataW.trod enc Tryz.prog W base spare held fuel t (Value.agg cs).cells.toList = some x) (i : Nat) (hi : l[i]? = some (u, i)) (hu : Tryz.prog.cellsOf u = 1) (hsz : i < cs.size) :
    ∃ (m : Nat) (y : DataW H × List MemPlace), DataW.trod enc Tryz.prog W base spare held m u [cs[i]] = some y ∧ ∀ n ∈ y.1.weights Tryz.prog u, n ∈ x.1.weights Tryz.prog t := by
  obtain ⟨xs, n, _, hx, _, hlen, hf⟩ := DataW.trod_struct ht h
  rw [← hl, List.getElem?_map] at hi
  obtain ⟨f, hfi, he⟩ := Option.map_eq_some_iff.1 hi
  simp only [Prod.mk.injEq] at he
  obtain ⟨rfl, ho⟩ := he
  have h1 := hf i f (by simpa using hfi)
  rw [ho, hu] at h1
  have hlt : i < fs.size := by
    have := (List.getElem?_eq_some_iff.1 hfi).1
    simpa using this
  rw [List.getElem?_eq_getElem (by omega)] at h1
  have hd : ((Value.agg cs).cells.toList.drop i).take 1 = [cs[i]] := by
    have : (Value.agg cs).cells.toList = cs.toList := rfl
    rw [this, List.drop_eq_getElem_cons (by simpa using hsz), List.take_succ_cons, List.take_zero]
    simp
  rw [hd] at h1
  refine ⟨n, _, h1, fun k hk => ?_⟩
  rw [hx]
  simp only [DataW.weights, ht]
  exact DataW.weights_mem_each (j := i) (t := f.type) (d := xs[i].1) (by rw [List.getElem?_map, hfi]; rfl) (by rw [List.getElem?_map, List.getElem?_eq_getElem (by omega)]; rfl) k hk

set_option maxRecDepth 100000 in
/-- A message that came in. -/
theorem msg_of {H : Type} {enc : TypeId × Value → H} {W : World} {base : Nat} {r : Reach} {b0 : Nat} {spare : Nat → Bool} {held : Bool} {v : Value} {d : DataW H} {p : List MemPlace} (hv : Value.okWide Tryz.prog W r b0 25 v) (h : DataW.Trod enc Tryz.prog W base spare held 25 v d p)
    (hw : ∀ n ∈ d.weights Tryz.prog 25, n ≤ reachBytes) :
    ∃ (m : Msg) (Ah : Option Addr) (ch : Nat) (Ab : Option Addr) (cb : Nat), v = .agg #[.string ⟨m.meth.toArray⟩, .string ⟨m.path.toArray⟩, .int .i64 m.status, .slice Ah m.heads.length ch, .slice Ab m.body.length cb] ∧ RawM W m Ah ch Ab cb := by
  obtain ⟨cs, rfl, hsz⟩ := okWide_struct underM hv
  rw [show Tryz.prog.cellsOf 25 = 5 by kernel_rfl] at hsz
  obtain ⟨fuel, hf⟩ := h
  obtain ⟨m0, y0, h0, _⟩ := field_in underM fieldsM hf 0 rfl (by kernel_rfl) (by omega)
  obtain ⟨m1, y1, h1, _⟩ := field_in underM fieldsM hf 1 rfl (by kernel_rfl) (by omega)
  obtain ⟨m2, y2, h2, _⟩ := field_in underM fieldsM hf 2 rfl (by kernel_rfl) (by omega)
  obtain ⟨m3, y3, h3, g3⟩ := field_in underM fieldsM hf 3 rfl (by kernel_rfl) (by omega)
  obtain ⟨m4, y4, h4, g4⟩ := field_in underM fieldsM hf 4 rfl (by kernel_rfl) (by omega)
  obtain ⟨l⟩ := cs
  match l, hsz with
  | [c0, c1, c2, c3, c4], _ =>
    obtain ⟨s0, e0, _, hz0⟩ := DataW.trod_string Tryz.underlying9 h0
    obtain ⟨s1, e1, _, hz1⟩ := DataW.trod_string Tryz.underlying9 h1
    obtain ⟨z2, e2, _, w2⟩ := DataW.trod_int Tryz.underlying3 h2
    obtain ⟨a3, n3, k3, e3⟩ := Joins.slice_form Tryz.underlying22 h3
    obtain ⟨a4, n4, k4, e4⟩ := Joins.slice_form Tryz.underlying23 h4
    simp at e0 e1 e2 e3 e4
    subst e0 e1 e2 e3 e4
    obtain ⟨hs, rfl, hm, hr, hx⟩ := heads_of h3
    obtain ⟨bs, rfl, hbn, hbr⟩ := bytes_of h4
    obtain ⟨q1, q2, q3⟩ := slice_room Tryz.underlying22 h3 fun n hn => hw n (g3 n hn)
    obtain ⟨_, _, q4⟩ := slice_room Tryz.underlying23 h4 fun n hn => hw n (g4 n hn)
    rw [show Tryz.prog.bytesOf 41 = 32 by kernel_rfl] at q3
    rw [show Tryz.prog.bytesOf 5 = 1 by kernel_rfl] at q4
    have hR : reachBytes ≤ 140737488355328 := Nat.le_of_lt (Nat.lt_of_lt_of_le reachBytes_lt (by decide))
    refine ⟨⟨s0.data.toList, s1.data.toList, z2, hs, bs⟩, a3, k3, a4, k4, by simp, ⟨⟨a3, k3, rfl, q1, q2, hr⟩, hx, by show hs.length * 32 ≤ _; omega, hbr, by show bs.length ≤ _; omega, by show s0.data.toList.length ≤ _; rw [← Lib.size_eq]; exact hz0, by show s1.data.toList.length ≤ _; rw [← Lib.size_eq]; exact hz1⟩⟩
end Go.Proofs.YthniggdimfldhaaGreatDoor
