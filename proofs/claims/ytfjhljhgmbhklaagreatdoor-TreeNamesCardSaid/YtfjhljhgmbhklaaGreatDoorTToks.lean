/-
  next of package token: what reads the next token; and how that reads it. Conditions: the text's length is bounded; the world holds what Tab says.
-/
import Derived.Test.YtfjhljhgmbhklaaGreatDoorTNext
namespace Go.Proofs.YtfjhljhgmbhklaaGreatDoor
open Go.RowKit
/-- The number of the function that reads the next token. -/
def nextF (l : List UInt8) : Nat :=
  if !leavesL l then 93
  else if isLet (l.getD 1 0) then 95
  else if atL l 1 == 47 then 96
  else if Lib.hasPrefix l [60, 33, 45, 45] then 98
  else if docO l then 100
  else 101
theorem nextF_enters (l : List UInt8) : ∀ args w, (callFunc (nextF l) args).run Tryz.prog w = .ok (.enter (nextF l) args) w := by
  unfold nextF
  split
  · exact enters_of Tryz.func93 (by kernel_rfl) rfl
  · split
    · exact enters_of Tryz.func95 (by kernel_rfl) rfl
    · split
      · exact enters_of Tryz.func96 (by kernel_rfl) rfl
      · split
        · exact enters_of Tryz.func98 (by kernel_rfl) rfl
        · split
          · exact enters_of Tryz.func100 (by kernel_rfl) rfl
          · exact enters_of Tryz.func101 (by kernel_rfl) rfl
theorem leaves_facts {l : List UInt8} (h : leavesL l = true) : 2 ≤ l.length ∧ atL l 0 = 60 := by
  unfold leavesL at h
  simp at h
  exact ⟨h.1.1, h.1.2⟩
theorem pre_of_two {l : List UInt8} {a b : UInt8} (h2 : 2 ≤ l.length) (h0 : atL l 0 = a.toNat) (h1 : atL l 1 = b.toNat) : Lib.hasPrefix l [a, b] = true := by
  match l, h2 with
  | c :: d :: t, _ =>
    have e0 : c = a := UInt8.toNat_inj.1 h0
    have e1 : d = b := UInt8.toNat_inj.1 h1
    subst e0 e1
    simp [Lib.hasPrefix, List.isPrefixOf]
theorem pre_of_one {l : List UInt8} {a : UInt8} (h2 : 1 ≤ l.length) (h0 : atL l 0 = a.toNat) : Lib.hasPrefix l [a] = true := by
  match l, h2 with
  | c :: t, _ =>
    have e0 : c = a := UInt8.toNat_inj.1 h0
    subst e0
    simp [Lib.hasPrefix, List.isPrefixOf]
set_option maxHeartbeats 4000000 in
set_option maxRecDepth 100000 in
theorem next_any (b : Nat) (x : ByteArray) (w : World) (hR : Rd b x w) :
    Calls Tryz.prog 68 #[.pointer (some ⟨b, 0, none⟩)] w fun e w' => e = .returned (.func (.func (nextF (sl x))) #[.pointer (some ⟨b, 0, none⟩)] #[]) ∧ Below w.heap.size w w' := by
  have hc := hR.cell
  have hlv := hid_mk (leaves_any x w)
  clear hR
  cases hL : leavesL (sl x) with
  | false =>
    rw [hL] at hlv
    have HF := hid_mk (show nextF (sl x) = 93 by unfold nextF; rw [hL]; rfl)
    clear hL
    go_enter Tryz.func68, Tryz.ntmps68
    go_wp2_with fail
    refine hlv.out.mono ?_
    rintro e w2 ⟨rfl, rfl⟩
    go_wp2_with fail
    go_ret
    rw [HF.out]
    exact ⟨rfl, Below.refl _ _⟩
  | true =>
    rw [hL] at hlv
    have h2 := (leaves_facts hL).1
    rw [len_sl] at h2
    have h1 : 1 < x.size := by omega
    have h1i : (1 : Int) < (x.size : Int) := by omega
    have hlet := hid_mk (fun w => letter_any (x[1]'h1) w)
    rw [← getD_sl x 1 h1] at hlet
    cases hl1 : isLet ((sl x).getD 1 0) with
    | true =>
      rw [hl1, getD_sl x 1 h1] at hlet
      have HF := hid_mk (show nextF (sl x) = 95 by unfold nextF; rw [hL, hl1]; rfl)
      clear hL hl1
      go_enter Tryz.func68, Tryz.ntmps68
      go_wp2_with fail
      refine hlv.out.mono ?_
      rintro e w2 ⟨rfl, rfl⟩
      go_wp2_with fail
      refine (hlet.out _).mono ?_
      rintro e w2 ⟨rfl, rfl⟩
      go_wp2_with fail
      go_ret
      rw [HF.out]
      exact ⟨rfl, Below.refl _ _⟩
    | false =>
      rw [hl1, getD_sl x 1 h1] at hlet
      have hb1 : (x[1]'h1).toNat = atL (sl x) 1 := byte_atL x 1 h1
      by_cases h47 : atL (sl x) 1 = 47
      · have hq : (((x[1]'h1).toNat : Int) == 47) = true := by rw [hb1, h47]; rfl
        have HF := hid_mk (show nextF (sl x) = 96 by unfold nextF; rw [hL, hl1, h47]; rfl)
        clear hL hl1 hb1 h47
        go_enter Tryz.func68, Tryz.ntmps68
        go_wp2_with fail
        refine hlv.out.mono ?_
        rintro e w2 ⟨rfl, rfl⟩
        go_wp2_with fail
        refine (hlet.out _).mono ?_
        rintro e w2 ⟨rfl, rfl⟩
        go_wp2_with fail
        go_ret
        rw [HF.out]
        exact ⟨rfl, Below.refl _ _⟩
      · have hq : (((x[1]'h1).toNat : Int) == 47) = false := beq_false_of_ne (by omega)
        have h47' : (atL (sl x) 1 == 47) = false := beq_false_of_ne h47
        have hpr := hid_mk (hasPre_any x [60, 33, 45, 45] w)
        have hlit := hid_mk (show (⟨#[60, 33, 45, 45]⟩ : ByteArray) = strOf [60, 33, 45, 45] from rfl)
        cases hp : Lib.hasPrefix (sl x) [60, 33, 45, 45] with
        | true =>
          rw [hp] at hpr
          have HF := hid_mk (show nextF (sl x) = 98 by unfold nextF; rw [hL, hl1, h47', hp]; rfl)
          clear hL hl1 hb1 h47 h47' hp
          go_enter Tryz.func68, Tryz.ntmps68
          go_wp2_with fail
          refine hlv.out.mono ?_
          rintro e w2 ⟨rfl, rfl⟩
          go_wp2_with fail
          refine (hlet.out _).mono ?_
          rintro e w2 ⟨rfl, rfl⟩
          go_wp2_with fail
          refine hpr.out.mono ?_
          rintro e w2 ⟨rfl, rfl⟩
          go_wp2_with fail
          go_ret
          rw [HF.out]
          exact ⟨rfl, Below.refl _ _⟩
        | false =>
          rw [hp] at hpr
          have hop := hid_mk (opens_any x w)
          cases hd : docO (sl x) with
          | true =>
            rw [hd] at hop
            have HF := hid_mk (show nextF (sl x) = 100 by unfold nextF; rw [hL, hl1, h47', hp, hd]; rfl)
            clear hL hl1 hb1 h47 h47' hp hd
            go_enter Tryz.func68, Tryz.ntmps68
            go_wp2_with fail
            refine hlv.out.mono ?_
            rintro e w2 ⟨rfl, rfl⟩
            go_wp2_with fail
            refine (hlet.out _).mono ?_
            rintro e w2 ⟨rfl, rfl⟩
            go_wp2_with fail
            refine hpr.out.mono ?_
            rintro e w2 ⟨rfl, rfl⟩
            go_wp2_with fail
            refine hop.out.mono ?_
            rintro e w3 ⟨rfl, hb3⟩
            have HB := hid_mk hb3
            clear hb3
            go_wp2_with fail
            go_ret
            rw [HF.out]
            exact ⟨rfl, HB.out⟩
          | false =>
            rw [hd] at hop
            have HF := hid_mk (show nextF (sl x) = 101 by unfold nextF; rw [hL, hl1, h47', hp, hd]; rfl)
            clear hL hl1 hb1 h47 h47' hp hd
            go_enter Tryz.func68, Tryz.ntmps68
            go_wp2_with fail
            refine hlv.out.mono ?_
            rintro e w2 ⟨rfl, rfl⟩
            go_wp2_with fail
            refine (hlet.out _).mono ?_
            rintro e w2 ⟨rfl, rfl⟩
            go_wp2_with fail
            refine hpr.out.mono ?_
            rintro e w2 ⟨rfl, rfl⟩
            go_wp2_with fail
            refine hop.out.mono ?_
            rintro e w3 ⟨rfl, hb3⟩
            have HB := hid_mk hb3
            clear hb3
            go_wp2_with fail
            go_ret
            rw [HF.out]
            exact ⟨rfl, HB.out⟩
/-- What reads the next token reads it. -/
theorem read_any (b : Nat) (x : ByteArray) (w : World) (hT : Tab w) (hR : Rd b x w) (hx : x.size ≤ 1000000000) (h1 : 1 ≤ x.size) :
    Calls Tryz.prog (nextF (sl x)) #[.pointer (some ⟨b, 0, none⟩)] w (TokPost b (oneL (sl x)) w) := by
  unfold nextF oneL
  cases hL : leavesL (sl x) with
  | false => exact text_any b x w hT hR hx h1
  | true =>
    obtain ⟨h2, h60⟩ := leaves_facts hL
    simp only [Bool.not_true, Bool.false_eq_true, if_false]
    cases hl1 : isLet ((sl x).getD 1 0) with
    | true => exact startTag_any b x w hT hR hx (pre_of_one (by omega) h60)
    | false =>
      simp only [Bool.false_eq_true, if_false]
      cases h47 : (atL (sl x) 1 == 47) with
      | true => exact endTag_any b x w hT hR hx (pre_of_two h2 h60 (by simpa using h47))
      | false =>
        simp only [Bool.false_eq_true, if_false]
        cases hp : Lib.hasPrefix (sl x) [60, 33, 45, 45] with
        | true => exact comment_any b x w hT hR hx (by have := pre_le hp; rw [len_sl] at this; exact this)
        | false =>
          simp only [Bool.false_eq_true, if_false]
          cases hd : docO (sl x) with
          | true => exact doctype_any b x w hT hR hx (by have := docO_len hd; rw [len_sl] at this; exact this)
          | false => exact noMark_any b x w hT hR
end Go.Proofs.YtfjhljhgmbhklaaGreatDoor
