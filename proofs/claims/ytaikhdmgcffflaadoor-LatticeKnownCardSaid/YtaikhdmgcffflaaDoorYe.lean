/- Plain facts: the chapter's table, and what it answers by it, are the program's. -/
import Derived.Test.YtaikhdmgcffflaaDoorYb
import Derived.Test.YtaikhdmgcffflaaDoorYc
namespace Go.Proofs.YtaikhdmgcffflaaDoor
open Go Go.RowKit

/-- The table that tables lays: which is at most which. -/
def leT (n : Nat) (A : Nat → Nat) (k : Nat) : Bool := decide (k / 10 < n) && (decide (k % 10 < n) && le A (k / 10) (k % 10))
theorem leT_at {n : Nat} {A : Nat → Nat} (hn : n ≤ 10) {a c : Nat} (ha : a < n) (hc : c < n) : leT n A (a * 10 + c) = le A a c := by
  unfold leT
  rw [show (a * 10 + c) / 10 = a by omega, show (a * 10 + c) % 10 = c by omega, decide_eq_true ha, decide_eq_true hc]
  rfl
theorem all_same {n : Nat} {p q : Nat → Bool} (h : ∀ d, d < n → p d = q d) : (List.range n).all p = (List.range n).all q := by
  rw [Bool.eq_iff_iff, List.all_eq_true, List.all_eq_true]
  exact ⟨fun g d hd => (h d (List.mem_range.1 hd)) ▸ g d hd, fun g d hd => (h d (List.mem_range.1 hd)) ▸ g d hd⟩
theorem isJT_at {n : Nat} {A : Nat → Nat} (hn : n ≤ 10) {a x c : Nat} (ha : a < n) (hx : x < n) (hc : c < n) : isJT n (leT n A) a x c = isJoin n A a x c := by
  unfold isJT isJoin
  rw [leT_at hn ha hc, leT_at hn hx hc, all_same fun d hd => by rw [leT_at hn ha hd, leT_at hn hx hd, leT_at hn hc hd]]
theorem isMT_at {n : Nat} {A : Nat → Nat} (hn : n ≤ 10) {a x c : Nat} (ha : a < n) (hx : x < n) (hc : c < n) : isMT n (leT n A) a x c = isMeet n A a x c := by
  unfold isMT isMeet
  rw [leT_at hn hc ha, leT_at hn hc hx, all_same fun d hd => by rw [leT_at hn hd ha, leT_at hn hd hx, leT_at hn hd hc]]
theorem joinZ_at {n : Nat} {A : Nat → Nat} (hn : n ≤ 10) {a x : Nat} (ha : a < n) (hx : x < n) : joinZ n (leT n A) a x = optI (joinO n A a x) := by
  unfold joinZ joinO
  rw [find_same fun c hc => isJT_at hn ha hx (List.mem_range.1 hc)]
theorem meetZ_at {n : Nat} {A : Nat → Nat} (hn : n ≤ 10) {a x : Nat} (ha : a < n) (hx : x < n) : meetZ n (leT n A) a x = optI (meetO n A a x) := by
  unfold meetZ meetO
  rw [find_same fun c hc => isMT_at hn ha hx (List.mem_range.1 hc)]
theorem lowT_at {n : Nat} {A : Nat → Nat} (hn : n ≤ 10) : lowT n (leT n A) = (lowR n A).getD 0 := by
  unfold lowT lowR
  rw [find_same fun a ha => all_same fun c hc => leT_at hn (List.mem_range.1 ha) hc]
theorem highT_at {n : Nat} {A : Nat → Nat} (hn : n ≤ 10) : highT n (leT n A) = (highR n A).getD 0 := by
  unfold highT highR
  rw [find_same fun a ha => all_same fun c hc => leT_at hn hc (List.mem_range.1 ha)]
theorem optI_neg (o : Option Nat) : decide (optI o < 0) = !o.isSome := by
  cases o with
  | none => rfl
  | some c => simp only [optI, Option.isSome_some, Bool.not_true]; exact decide_eq_false (by omega)
theorem leqT_at {n : Nat} {A : Nat → Nat} (hn : n ≤ 10) (a c : Int) : leqT n (leT n A) a c = leqI n A a c := by
  unfold leqT leqI isLb
  by_cases ha : 0 ≤ a ∧ a < n
  · by_cases hc : 0 ≤ c ∧ c < n
    · rw [leT_at hn (by omega) (by omega), decide_eq_true ha, decide_eq_true hc]
      rfl
    · rw [decide_eq_false hc]; simp
  · rw [decide_eq_false ha]; simp

section
variable {n : Nat} {A : Nat → Nat} {J M : Nat → Int}
theorem twoT_join (g : Good n A) (t : Anti A) (hp : isP n A = true) (hn : n ≤ 10) (hJ : ∀ a c, a < n → c < n → J (a * 10 + c) = joinZ n (leT n A) a c) (a c : Int) : twoT n J (highT n (leT n A)) a c = (joinI n A a c : Nat) := by
  have ht : highT n (leT n A) = hiL n A := by rw [highT_at hn, highR_eq g t hp]; rfl
  unfold twoT joinI
  by_cases ha : 0 ≤ a ∧ a < n
  · rw [if_pos ha]
    by_cases hc : 0 ≤ c ∧ c < n
    · rw [if_pos hc, hJ _ _ (by omega) (by omega), joinZ_at hn (by omega) (by omega), (joinP_eq g t hp (by omega) (by omega)).1]
      simp [isLb, ha, hc, optI]
    · rw [if_neg hc, ht, isLb_no (fun h => hc h.2)]
      rfl
  · rw [if_neg ha, ht, isLb_no (fun h => ha h.1)]
    rfl
theorem twoT_meet (g : Good n A) (t : Anti A) (hp : isP n A = true) (hn : n ≤ 10) (hM : ∀ a c, a < n → c < n → M (a * 10 + c) = meetZ n (leT n A) a c) (a c : Int) : twoT n M (lowT n (leT n A)) a c = (meetI n A a c : Nat) := by
  have ht : lowT n (leT n A) = loL n A := by rw [lowT_at hn, lowR_eq g t hp]; rfl
  unfold twoT meetI
  by_cases ha : 0 ≤ a ∧ a < n
  · rw [if_pos ha]
    by_cases hc : 0 ≤ c ∧ c < n
    · rw [if_pos hc, hM _ _ (by omega) (by omega), meetZ_at hn (by omega) (by omega), (meetP_eq g t hp (by omega) (by omega)).1]
      simp [isLb, ha, hc, optI]
    · rw [if_neg hc, ht, isLb_no (fun h => hc h.2)]
      rfl
  · rw [if_neg ha, ht, isLb_no (fun h => ha h.1)]
    rfl
theorem allT_jAll (g : Good n A) (t : Anti A) (hp : isP n A = true) (hn : n ≤ 10) (hJ : ∀ a c, a < n → c < n → J (a * 10 + c) = joinZ n (leT n A) a c) (l : List Int) : allT n (leT n A) J l = (jAll n A l : Nat) := by
  have ht : lowT n (leT n A) = loL n A := by rw [lowT_at hn, lowR_eq g t hp]; rfl
  unfold allT jAll
  rw [ht]
  generalize loL n A = x
  induction l generalizing x with
  | nil => rfl
  | cons a l ih => rw [List.foldl_cons, List.foldl_cons, twoT_join g t hp hn hJ, ih]
end
end Go.Proofs.YtaikhdmgcffflaaDoor
