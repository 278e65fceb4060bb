/-
  The kinds of elements as the document lists them, plain: words with blanks between. No Go in sight.
-/
import Derived.Test.YtfjhljhgmbhklaaGreatDoorBPlain
namespace Go.Proofs.YtfjhljhgmbhklaaGreatDoor
def wdHd (l : List UInt8) : List UInt8 := l.takeWhile fun c => c != 32
def wdTl (l : List UInt8) : List UInt8 := (l.dropWhile fun c => c != 32).drop 1
def wordsN : Nat → List UInt8 → List (List UInt8)
  | 0, _ => []
  | n + 1, l => if l = [] then [] else wdHd l :: wordsN n (wdTl l)
theorem wdHd_le (l : List UInt8) : (wdHd l).length ≤ l.length := by
  unfold wdHd
  exact (List.takeWhile_prefix _).length_le
theorem wdTl_eq (l : List UInt8) : wdTl l = l.drop ((wdHd l).length + 1) := by
  unfold wdTl wdHd
  have h : l.dropWhile (fun c => c != 32) = l.drop (l.takeWhile fun c => c != 32).length := by
    have e := List.takeWhile_append_dropWhile (p := fun c => c != 32) (l := l)
    have e2 := congrArg (List.drop (l.takeWhile fun c => c != 32).length) e
    rw [List.drop_left] at e2
    exact e2
  rw [h, List.drop_drop]
theorem wdHd_eq (l : List UInt8) : wdHd l = l.take (wdHd l).length := by
  unfold wdHd
  exact (List.prefix_iff_eq_take.1 (List.takeWhile_prefix _))
theorem wdHd_in (l : List UInt8) (j : Nat) (h : j < (wdHd l).length) : atL l j ≠ 32 := by
  have h1 : (wdHd l)[j]? = l[j]? := by
    conv => lhs; rw [wdHd_eq]
    rw [List.getElem?_take, if_pos h]
  have hm : (wdHd l)[j] ∈ wdHd l := List.getElem_mem h
  have hp : ((wdHd l)[j] != 32) = true := List.all_eq_true.1 (List.all_takeWhile (p := fun c => c != 32) (l := l)) _ hm
  unfold atL
  rw [← h1, List.getElem?_eq_getElem h]
  simp only [Option.getD_some]
  intro he
  have : (wdHd l)[j] = 32 := UInt8.toNat_inj.1 he
  rw [this] at hp
  exact absurd hp (by decide)
theorem wdHd_end : ∀ (l : List UInt8), (wdHd l).length < l.length → atL l (wdHd l).length = 32
  | [], h => by simp at h
  | c :: t, h => by
    unfold wdHd at h ⊢
    rw [List.takeWhile_cons] at h ⊢
    by_cases hc : (c != 32) = true
    · rw [if_pos hc] at h ⊢
      simp only [List.length_cons] at h ⊢
      have := wdHd_end t (by unfold wdHd; omega)
      unfold wdHd at this
      unfold atL at this ⊢
      rw [List.getElem?_cons_succ]
      exact this
    · rw [if_neg hc] at h ⊢
      have : c = 32 := by simpa using hc
      subst this
      rfl
theorem wordsN_fuel : ∀ (n : Nat) (l : List UInt8), l.length ≤ n → wordsN n l = wordsN l.length l
  | 0, l, h => by
    have : l = [] := List.eq_nil_of_length_eq_zero (by omega)
    subst this
    rfl
  | n + 1, [], _ => by simp [wordsN]
  | n + 1, c :: t, h => by
    rw [show (c :: t).length = t.length + 1 from rfl]
    unfold wordsN
    rw [if_neg (by simp), if_neg (by simp)]
    have hl : (wdTl (c :: t)).length ≤ t.length := by rw [wdTl_eq, List.length_drop]; simp
    rw [wordsN_fuel n _ (by simp at h; omega), wordsN_fuel t.length _ hl]
def wordsL (l : List UInt8) : List (List UInt8) := wordsN l.length l
theorem wordsL_nil : wordsL [] = [] := rfl
theorem wordsL_step (l : List UInt8) (h : l ≠ []) : wordsL l = wdHd l :: wordsL (l.drop ((wdHd l).length + 1)) := by
  unfold wordsL
  cases l with
  | nil => exact absurd rfl h
  | cons c t =>
    rw [show (c :: t).length = t.length + 1 from rfl]
    rw [show wordsN (t.length + 1) (c :: t) = wdHd (c :: t) :: wordsN t.length (wdTl (c :: t)) by rw [wordsN, if_neg (by simp)]]
    rw [wordsN_fuel t.length _ (by rw [wdTl_eq, List.length_drop]; simp), wdTl_eq]
def divsL : List UInt8 := [100, 105, 118, 32, 117, 108, 32, 111, 108, 32, 115, 101, 99, 116, 105, 111, 110, 32, 97, 114, 116, 105, 99, 108, 101, 32, 104, 101, 97, 100, 101, 114, 32, 102, 111, 111, 116, 101, 114, 32, 109, 97, 105, 110, 32, 110, 97, 118, 32, 97, 115, 105, 100, 101, 32, 98, 108, 111, 99, 107, 113, 117, 111, 116, 101, 32, 102, 105, 103, 117, 114, 101]
def headsL : List UInt8 := [104, 49, 32, 104, 50, 32, 104, 51, 32, 104, 52, 32, 104, 53, 32, 104, 54]
def inlsL : List UInt8 := [115, 112, 97, 110, 32, 98, 32, 105, 32, 101, 109, 32, 115, 116, 114, 111, 110, 103, 32, 117, 32, 115, 32, 115, 109, 97, 108, 108, 32, 99, 111, 100, 101, 32, 98, 100, 105, 32, 98, 100, 111, 32, 97, 98, 98, 114, 32, 99, 105, 116, 101, 32, 113, 32, 115, 117, 98, 32, 115, 117, 112, 32, 109, 97, 114, 107]
def kindR (w : List UInt8) : Nat :=
  if w = [] then 0 else if (wordsL divsL).contains w then 1 else if w = [112] then 2 else if w = [108, 105] then 3
  else if (wordsL headsL).contains w then 4 else if (wordsL inlsL).contains w then 5 else if w = [97] then 6
  else if w = [98, 114] ∨ w = [119, 98, 114] then 7 else if w = [104, 114] then 8 else 0
set_option maxRecDepth 100000 in
theorem kindR_tab : ∀ p ∈ kindTab, kindR p.1 = p.2 := by decide +kernel
set_option maxRecDepth 100000 in
theorem keysD : ∀ x ∈ wordsL divsL ++ wordsL headsL ++ wordsL inlsL ++ [[112], [108, 105], [97], [98, 114], [119, 98, 114], [104, 114]], x ∈ kindTab.map (·.1) := by decide +kernel
theorem kindR_eq (w : List UInt8) : kindR w = kindL w := by
  by_cases h : w ∈ kindTab.map (·.1)
  · obtain ⟨p, hp, rfl⟩ := List.mem_map.1 h
    rw [kindR_tab p hp, kindL_tab p hp]
  · have hn : kindL w = 0 := by
      unfold kindL
      rw [List.find?_eq_none.2 (fun p hp he => h (List.mem_map.2 ⟨p, hp, by simpa using he⟩))]
      rfl
    have key : ∀ x ∈ wordsL divsL ++ wordsL headsL ++ wordsL inlsL ++ [[112], [108, 105], [97], [98, 114], [119, 98, 114], [104, 114]], x ≠ w := fun x hx e => h (e ▸ keysD x hx)
    simp only [List.mem_append, List.mem_cons, List.not_mem_nil, or_false] at key
    have c1 : (wordsL divsL).contains w = false := by rw [Bool.eq_false_iff]; intro e; exact key w (by simp [List.contains_iff_mem.1 e]) rfl
    have c2 : (wordsL headsL).contains w = false := by rw [Bool.eq_false_iff]; intro e; exact key w (by simp [List.contains_iff_mem.1 e]) rfl
    have c3 : (wordsL inlsL).contains w = false := by rw [Bool.eq_false_iff]; intro e; exact key w (by simp [List.contains_iff_mem.1 e]) rfl
    have d1 : w ≠ [112] := fun e => key [112] (by simp) e.symm
    have d2 : w ≠ [108, 105] := fun e => key [108, 105] (by simp) e.symm
    have d3 : w ≠ [97] := fun e => key [97] (by simp) e.symm
    have d4 : w ≠ [98, 114] := fun e => key [98, 114] (by simp) e.symm
    have d5 : w ≠ [119, 98, 114] := fun e => key [119, 98, 114] (by simp) e.symm
    have d6 : w ≠ [104, 114] := fun e => key [104, 114] (by simp) e.symm
    rw [hn]
    unfold kindR
    rw [c1, c2, c3, if_neg d1, if_neg d2, if_neg d3, if_neg (show ¬(w = [98, 114] ∨ w = [119, 98, 114]) from fun e => e.elim d4 d5), if_neg d6]
    simp
end Go.Proofs.YtfjhljhgmbhklaaGreatDoor
