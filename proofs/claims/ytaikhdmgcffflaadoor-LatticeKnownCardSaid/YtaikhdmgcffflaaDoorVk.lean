/- The law LatticeBroken. -/
import Derived.Test.YtaikhdmgcffflaaDoorVj
namespace Go.Proofs.YtaikhdmgcffflaaDoor
open Go Go.RowKit

/-- Two rows in blocks of their own. -/
def Apart (u v : Value) : Prop := ∀ g, u.ownBlock = some g → v.ownBlock ≠ some g
theorem Apart.nil (v : Value) : Apart (.slice none 0 0) v := fun g h => by simp [Value.ownBlock] at h
theorem Apart.symm {u v : Value} (h : Apart u v) : Apart v u := fun g h1 h2 => h g h2 h1
section
variable {w W : World} {base base' : Nat} {u v u' : Value} {L M : List (Int × Int)} {o : Obj}
/-- The other row stays, when one grows. -/
theorem row_stays (hv : w.ownsRow base 41 2 v M.length (pvI M)) (ha : Apart u v) (hg : (w.alloc o).grownBy W u.ownBlock) : W.ownsRow base 41 2 v M.length (pvI M) := by
  refine (World.ownsRow.alloc hv o).kept hg ?_
  cases he : v.ownBlock with
  | none => exact .inl rfl
  | some g => exact .inr fun e => ha g e.symm he
theorem apart_next (hv : w.ownsRow base 41 2 v M.length (pvI M)) (ha : Apart u v) (hat : u'.ownBlock = u.ownBlock ∨ u'.ownBlock = some (w.heap.size + 1)) : Apart u' v := by
  intro g h1 h2
  rcases hat with e | e
  · exact ha g (e ▸ h1) h2
  · rw [e] at h1
    cases h1
    have := (World.ownsRow.lt hv _ h2).2
    omega
end

def roofL (n : Nat) : List (Int × Int) := (List.range n).map fun (i : Nat) => ((0 : Int), ((i + 1 : Nat) : Int))
def floorL (n : Nat) : List (Int × Int) := (List.range n).map fun (i : Nat) => (((i + 1 : Nat) : Int), (0 : Int))
def roundL (n k : Nat) : List (Int × Int) := (List.range k).map fun (i : Nat) => ((i : Int), (((i + 1) % n : Nat) : Int))
def chainL (n : Nat) : List (Int × Int) := (List.range n).map fun (i : Nat) => ((i : Int), ((i + 1 : Nat) : Int))
def twoL : List (Int × Int) := [(0, 1), (0, 2), (1, 3), (1, 4), (2, 3), (2, 4), (3, 5), (4, 5)]
theorem roofL_succ (n : Nat) : roofL (n + 1) = roofL n ++ [((0 : Int), ((n + 1 : Nat) : Int))] := by simp [roofL, List.range_succ]
theorem floorL_succ (n : Nat) : floorL (n + 1) = floorL n ++ [(((n + 1 : Nat) : Int), (0 : Int))] := by simp [floorL, List.range_succ]
theorem roundL_succ (n k : Nat) : roundL n (k + 1) = roundL n k ++ [((k : Int), (((k + 1) % n : Nat) : Int))] := by simp [roundL, List.range_succ]
theorem chainL_succ (n : Nat) : chainL (n + 1) = chainL n ++ [((n : Int), ((n + 1 : Nat) : Int))] := by simp [chainL, List.range_succ]
theorem roofL_len (n : Nat) : (roofL n).length = n := by simp [roofL]
theorem floorL_len (n : Nat) : (floorL n).length = n := by simp [floorL]
theorem roundL_len (n k : Nat) : (roundL n k).length = k := by simp [roundL]
theorem chainL_len (n : Nat) : (chainL n).length = n := by simp [chainL]

theorem broken_all : ∀ i : Fin 7, mkE (nmL (i.1 + 2 + 1)) (roofL (i.1 + 2)) = 30 ∧ mkE (nmL (i.1 + 2 + 1)) (floorL (i.1 + 2)) = 30 ∧ mkE (nmL (i.1 + 2)) (roundL (i.1 + 2) (i.1 + 2)) = 20 ∧ mkE (nmL (i.1 + 2)) (roundL (i.1 + 2) (i.1 + 1) ++ [(1, 1)]) = 20 ∧
    mkE (nmL ((i.1 + 2) % 8 + 2)) (chainL ((i.1 + 2) % 8 + 1)) = 0 := by decide +kernel
theorem two_mk : mkE (nmL 6) twoL = 30 := by decide +kernel

theorem chainL_at (n k : Nat) (h : k < n) : (chainL n)[k]'(by rw [chainL_len]; exact h) = ((k : Int), ((k + 1 : Nat) : Int)) := by simp [chainL]

set_option maxHeartbeats 2000000 in
set_option maxRecDepth 100000 in
theorem pairs_chain (x : Int) (m : Nat) (hm : bring x 8 = m) (w : World) :
    Calls Tryd.prog 45 #[.agg #[.int .i64 0, .int .i64 x, .int .i64 0]] w fun e w' => ∃ v, e = .returned (.tuple #[.int .i64 ((m + 2 : Nat) : Int), v]) ∧ w'.ownsRow w.heap.size 41 2 v (chainL (m + 1)).length (pvI (chainL (m + 1))) ∧ Below w.heap.size w w' := by
  have hb8 := bring_lt x (n := 8) (by decide)
  have hB0 := below_new w (.cells #[.int .i64 0, .int .i64 x, .int .i64 0] 45)
  go_enter Tryd.func45, Tryd.ntmps45
  go_wp2_with fail
  refine (bring_any x 8 (by decide) (by decide) _).mono ?_
  rintro e w' ⟨rfl, rfl⟩
  rw [hm] at hb8 ⊢
  clear hm
  go_wp2_with fail
  refine (bring_any 0 5 (by decide) (by decide) _).mono ?_
  rw [show bring 0 5 = 0 by decide]
  rintro e w' ⟨rfl, rfl⟩
  generalize w.alloc (.cells #[.int .i64 0, .int .i64 x, .int .i64 0] 45) = w0 at *
  go_wp2_with fail
  go_loopw [5, 6] (fun v i wr => ∃ k : Nat, k ≤ m + 1 ∧ i = .int .i64 k ∧ wr.ownsRow w.heap.size 41 2 v (chainL k).length (pvI (chainL k)) ∧ Below w.heap.size w wr) (fun _ i _ => m + 1 - (intOf i).toNat)
  case atStart => exact ⟨0, Nat.zero_le _, rfl, World.ownsRow_nil _ _ _ _, hB0⟩
  case round =>
    obtain ⟨k, hk, rfl, hown, hb⟩ := hrel
    clear hB0
    have hcl := chainL_len k
    by_cases hlt : k ≤ m
    · have hsu := Lib.hid (chainL_succ k)
      go_wp2_with (at_builtin; refine wpList_pushP rfl (.tmp 24) (.tmp 29) rfl wr w.heap.size _ (chainL k) k ((k + 1 : Nat) : Int) rfl hown rfl hb.size (by omega) ?_; intro v3 w3 hown3 hb3 _ _)
      rw [← hsu.out] at hown3
      go_roundw
      case rel => exact ⟨k + 1, by omega, by go_num, hown3, hb.trans hb3⟩
      case measure => simp [intOf]; omega
    · obtain rfl : k = m + 1 := by omega
      go_wp2_with fail
      go_ret2
      exact ⟨_, rfl, hown, hb⟩
end Go.Proofs.YtaikhdmgcffflaaDoor
