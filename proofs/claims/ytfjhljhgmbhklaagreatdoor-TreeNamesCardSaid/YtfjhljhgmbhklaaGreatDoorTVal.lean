/-
  value of package token: a value as it is written. Conditions: the text's length is bounded; the world holds what Tab says.
-/
import Derived.Test.YtfjhljhgmbhklaaGreatDoorTBytes
namespace Go.Proofs.YtfjhljhgmbhklaaGreatDoor
open Go.RowKit
theorem trimP_yes {l p : List UInt8} (h : Lib.hasPrefix l p = true) : Lib.trimPrefix l p = l.drop p.length := by unfold Lib.trimPrefix; rw [h]; rfl
theorem trimP_no {l p : List UInt8} (h : Lib.hasPrefix l p = false) : Lib.trimPrefix l p = l := by unfold Lib.trimPrefix; rw [h]; rfl
/-- skip where it stands there. -/
theorem skip_yes (b : Nat) (x : ByteArray) (p : List UInt8) (w : World) (hT : Tab w) (hR : Rd b x w) (h : Lib.hasPrefix (sl x) p = true) :
    Calls Tryz.prog 124 #[.pointer (some ⟨b, 0, none⟩), .string (strOf p)] w fun e w' => e = .returned (.bool true) ∧ Rd b (strOf ((sl x).drop p.length)) w' ∧ Upd b w w' := by
  have h1 := skip_any b x (strOf p) w hT hR
  rw [sl_strOf, h, trimP_yes h] at h1
  exact h1
theorem skip_no (b : Nat) (x : ByteArray) (p : List UInt8) (w : World) (hT : Tab w) (hR : Rd b x w) (h : Lib.hasPrefix (sl x) p = false) :
    Calls Tryz.prog 124 #[.pointer (some ⟨b, 0, none⟩), .string (strOf p)] w fun e w' => e = .returned (.bool false) ∧ Rd b x w' ∧ Upd b w w' := by
  have h1 := skip_any b x (strOf p) w hT hR
  rw [sl_strOf, h, trimP_no h, strOf_sl] at h1
  exact h1
/-- What a value's reader leaves. -/
def ValPost (b : Nat) (l : List UInt8) (w : World) (e : Ending) (w' : World) : Prop :=
  ∃ (v : ByteArray) (ok : Bool) (y : ByteArray), e = .returned (.tuple #[.string v, .bool ok]) ∧ Rd b y w' ∧ Upd b w w' ∧
    match valueL l with
    | some p => v = strOf p.1 ∧ ok = true ∧ y = strOf p.2
    | none => ok = false
theorem quote_post {b : Nat} {l : List UInt8} {q : UInt8} {w w1 w2 w3 : World} {ok : Bool} {y3 : ByteArray} (hu1 : Upd b w w1) (hu2 : Upd b w1 w2) (hu3 : Upd b w2 w3) (hr : Rd b y3 w3)
    (hok : ok = Lib.hasPrefix (downL (l.drop 1) [q]) [q]) (hy : ok = true → y3 = strOf ((downL (l.drop 1) [q]).drop 1))
    (hv : valueL l = if Lib.hasPrefix (downL (l.drop 1) [q]) [q] then some (upL (l.drop 1) [q], (downL (l.drop 1) [q]).drop 1) else none) :
    ValPost b l w (.returned (.tuple #[.string (strOf (upL (l.drop 1) [q])), .bool ok])) w3 := by
  refine ⟨_, ok, y3, rfl, hr, (hu1.trans hu2).trans hu3, ?_⟩
  rw [hv, ← hok]
  cases ok with
  | true => exact ⟨rfl, rfl, hy rfl⟩
  | false => rfl
def quoteAt (k : Nat) : UInt8 := if k = 0 then 34 else 39
set_option maxHeartbeats 4000000 in
set_option maxRecDepth 100000 in
theorem value_any (b : Nat) (x : ByteArray) (w : World) (hT : Tab w) (hR : Rd b x w) (hx : x.size ≤ 1000000000) :
    Calls Tryz.prog 169 #[.pointer (some ⟨b, 0, none⟩)] w (ValPost b (sl x) w) := by
  have HR := hid_mk (And.intro hR hT)
  have hls := len_sl x
  have HS := hid_mk (show (sl x).length ≤ 1000000000 by omega)
  clear hR hT hls
  have i0 : ∀ w, (Instr.index 194 (.agg #[.string (strOf [34]), .string (strOf [39])]) (.int .i64 0)).run Tryz.prog w = .ok (.string (strOf [34])) w := fun _ => by kernel_rfl
  have i1 : ∀ w, (Instr.index 194 (.agg #[.string (strOf [34]), .string (strOf [39])]) (.int .i64 1)).run Tryz.prog w = .ok (.string (strOf [39])) w := fun _ => by kernel_rfl
  have hq := hid_mk (show (⟨#[34]⟩ : ByteArray) = strOf [34] from rfl)
  have hq2 := hid_mk (show (⟨#[39]⟩ : ByteArray) = strOf [39] from rfl)
  have HI := hid_mk (And.intro i0 i1)
  clear i0 i1
  go_enter Tryz.func169, Tryz.ntmps169
  go_wp2_with fail
  rw [hq.out, hq2.out]
  clear hq hq2
  go_loopw [5, 6, 9] (fun _ _ i wr => ∃ k : Nat, k ≤ 2 ∧ i = .int .i64 k ∧ Hid (Rd b x wr ∧ Upd b w wr) ∧ Hid ((1 ≤ k → Lib.hasPrefix (sl x) [34] = false) ∧ (2 ≤ k → Lib.hasPrefix (sl x) [39] = false))) (fun _ _ i _ => 2 - (intOf i).toNat)
  case atStart => exact ⟨0, by omega, rfl, hid_mk ⟨HR.out.1, Upd.refl HR.out.2⟩, hid_mk ⟨fun h => by omega, fun h => by omega⟩⟩
  case round =>
    obtain ⟨k, hk, rfl, hW, hP⟩ := hrel
    by_cases hlt : k < 2
    · obtain ⟨q, hq⟩ : ∃ q, q = quoteAt k := ⟨_, rfl⟩
      have hix : ∀ w, (Instr.index 194 (.agg #[.string (strOf [34]), .string (strOf [39])]) (.int .i64 (k : Int))).run Tryz.prog w = .ok (.string (strOf [q])) w := by
        rw [hq]
        match k, hlt with
        | 0, _ => exact HI.out.1
        | 1, _ => exact HI.out.2
      have hq128 : q.toNat < 128 := by rw [hq]; unfold quoteAt; split <;> decide
      cases hpre : Lib.hasPrefix (sl x) [q] with
      | true =>
        have hsk := hid_mk (skip_yes b x [q] wr hW.out.2.2 hW.out.1 hpre)
        have HV := hid_mk (show valueL (sl x) = if Lib.hasPrefix (downL ((sl x).drop 1) [q]) [q] then some (upL ((sl x).drop 1) [q], (downL ((sl x).drop 1) [q]).drop 1) else none by
          match k, hlt with
          | 0, _ =>
            have : q = 34 := hq
            subst this
            unfold valueL
            rw [if_pos hpre]
          | 1, _ =>
            have : q = 39 := hq
            subst this
            unfold valueL
            rw [if_neg (by rw [hP.out.1 (by omega)]; exact Bool.false_ne_true), if_pos hpre])
        have HP := hid_mk hpre
        clear hpre hq hP
        go_wp2_with fail
        refine hsk.out.mono ?_
        rintro e w1 ⟨rfl, hr1, hu1⟩
        rw [show [q].length = 1 from rfl] at hr1
        obtain ⟨l1, hl1⟩ : ∃ l1, l1 = (sl x).drop 1 := ⟨_, rfl⟩
        have HL1 := hid_mk hl1
        rw [← hl1] at hr1 HV
        have hsz1 : l1.length ≤ 1000000000 := by rw [hl1, List.length_drop]; have := HS.out; omega
        clear hl1
        have hup := hid_mk (upTo_any b _ [q] w1 hu1.2 hr1 (by rw [size_strOf]; exact hsz1) (fun c hc => by rw [List.mem_singleton] at hc; rw [hc]; exact hq128) (by simp))
        rw [sl_strOf] at hup
        have HU1 := hid_mk hu1
        clear hr1 hu1 hsk
        go_wp2_with fail
        refine hup.out.mono ?_
        rintro e w2 ⟨rfl, hr2, hu2⟩
        have hs2 := hid_mk (skip_any b _ (strOf [q]) w2 hu2.2 hr2)
        rw [sl_strOf, sl_strOf] at hs2
        have HU2 := hid_mk hu2
        clear hr2 hu2 hup
        go_wp2_with fail
        refine hs2.out.mono ?_
        rintro e w3 ⟨rfl, hr3, hu3⟩
        rw [HL1.out] at HV
        have HF := hid_mk (quote_post (b := b) (l := sl x) (q := q) (hW.out.2.trans HU1.out) HU2.out hu3 hr3 rfl (fun h => by rw [HL1.out] at *; rw [trimP_yes h]; rfl) HV.out)
        rw [← HL1.out] at HF
        clear hr3 hu3 hs2
        go_wp2_with fail
        go_ret2
        exact HF.out
      | false =>
        have hsk := hid_mk (skip_no b x [q] wr hW.out.2.2 hW.out.1 hpre)
        have hP2 := hid_mk (show (1 ≤ k + 1 → Lib.hasPrefix (sl x) [34] = false) ∧ (2 ≤ k + 1 → Lib.hasPrefix (sl x) [39] = false) by
          match k, hlt with
          | 0, _ =>
            have : q = 34 := hq
            subst this
            exact ⟨fun _ => hpre, fun h => by omega⟩
          | 1, _ =>
            have : q = 39 := hq
            subst this
            exact ⟨fun _ => hP.out.1 (by omega), fun _ => hpre⟩)
        clear hpre hq hP
        go_wp2_with fail
        refine hsk.out.mono ?_
        rintro e w1 ⟨rfl, hr1, hu1⟩
        have HN := hid_mk (And.intro hr1 (hW.out.2.trans hu1))
        clear hr1 hu1 hsk
        go_wp2_with fail
        go_roundw
        case rel => exact ⟨k + 1, by omega, by go_num, HN, hP2⟩
        case measure => simp [intOf]; omega
    · obtain rfl : k = 2 := by omega
      have hup := hid_mk (upTo_any b x [9, 10, 12, 32, 62] wr hW.out.2.2 hW.out.1 hx (by decide) (by decide))
      obtain ⟨T, hT⟩ : ∃ T, T = upL (sl x) [9, 10, 12, 32, 62] := ⟨_, rfl⟩
      obtain ⟨D, hD⟩ : ∃ D, D = downL (sl x) [9, 10, 12, 32, 62] := ⟨_, rfl⟩
      have HV := hid_mk (show valueL (sl x) = if T.isEmpty || Lib.containsAny T [34, 39, 60, 61, 96] then none else some (T, D) by
        unfold valueL
        rw [if_neg (by rw [hP.out.1 (by omega)]; exact Bool.false_ne_true), if_neg (by rw [hP.out.2 (by omega)]; exact Bool.false_ne_true), hT, hD])
      have hTl : T.length ≤ 1000000000 := by rw [hT]; have := up_le (sl x) [9, 10, 12, 32, 62]; have := HS.out; omega
      rw [← hT, ← hD] at hup
      clear hT hD
      go_wp2_with fail
      refine hup.out.mono ?_
      rintro e w1 ⟨rfl, hr1, hu1⟩
      have HN := hid_mk (And.intro hr1 (hW.out.2.trans hu1))
      clear hr1 hu1 hup hP HI HR
      cases hE : T.isEmpty with
      | true =>
        have hTn : T = [] := by simpa using hE
        subst hTn
        have HF := hid_mk (show ValPost b (sl x) w (.returned (.tuple #[.string (strOf []), .bool false])) w1 from ⟨_, _, _, rfl, HN.out.1, HN.out.2, by rw [HV.out, if_pos (by rfl)]⟩)
        have he : (strOf []).toList = [] := by rw [Lib.toList_data]; rfl
        have he2 : (strOf []).toList.isEmpty = true := by rw [he]; rfl
        clear hE
        go_wp2_with fail
        go_ret2
        exact HF.out
      | false =>
        have hne : (strOf T).toList.isEmpty = false := by
          rw [Lib.toList_data, show (strOf T).data.toList = T from sl_strOf T]
          exact hE
        have hca := hid_mk (containsAny_any (strOf T) ⟨#[34, 39, 60, 61, 96]⟩ w1 (by rw [size_strOf]; exact hTl) (by decide) (ascii_of (l := [34, 39, 60, 61, 96]) (by decide)))
        rw [show (strOf T).data.toList = T from sl_strOf T, show (⟨#[34, 39, 60, 61, 96]⟩ : ByteArray).data.toList = [34, 39, 60, 61, 96] from rfl] at hca
        have HE := hid_mk hE
        clear hE
        go_wp2_with fail
        refine hca.out.mono ?_
        rintro e w2 ⟨rfl, hb2⟩
        have hr2 := HN.out.1.next hb2
        have hu2 := HN.out.2.trans (Upd.of HN.out.2.2 hb2)
        have HF := hid_mk (show ValPost b (sl x) w (.returned (.tuple #[.string (strOf T), .bool (!Lib.containsAny T [34, 39, 60, 61, 96])])) w2 from ⟨_, _, _, rfl, hr2, hu2, by
          rw [HV.out, HE.out, Bool.false_or]
          cases Lib.containsAny T [34, 39, 60, 61, 96] with
          | true => rfl
          | false => exact ⟨rfl, rfl, rfl⟩⟩)
        clear hr2 hu2 hb2 hca
        generalize Lib.containsAny T [34, 39, 60, 61, 96] = ca at *
        go_wp2_with fail
        go_ret2
        exact HF.out
end Go.Proofs.YtfjhljhgmbhklaaGreatDoor
