/- The specification's readers of a decimal number. -/
import Derived.Test.YtlpjigpnpafkiabDoorNb
import Derived.Test.YtlpjigpnpafkiabDoorDg
import Derived.WalkSmall
namespace Go.Proofs.YtlpjigpnpafkiabDoor
open Go.RowKit
set_option maxRecDepth 100000

def gotInt : Option Int → Value
  | none => .tuple #[.int .i64 0, .bool false]
  | some v => .tuple #[.int .i64 v, .bool true]

theorem decFrom_bad (l : List UInt8) (k : Nat) (b : UInt8) (hb : l[k]? = some b) (hd : b.toNat < 48 ∨ 57 < b.toNat) : Lib.decFrom 0 l = none := by
  cases h : Lib.decFrom 0 l with
  | none => rfl
  | some n =>
    obtain ⟨d, hdv⟩ := Lib.digit_of_decFrom l 0 n h k b hb
    obtain ⟨h1, h2, _⟩ := digitVal_inv hdv
    omega
theorem digitVal_ok (b : UInt8) (h1 : 48 ≤ b.toNat) (h2 : b.toNat ≤ 57) : Lib.digitVal b = some (b.toNat - 48) := by rw [Lib.digitVal, if_pos ⟨h1, h2⟩]

theorem numSpec_bad {l : List UInt8} (h : Lib.decFrom 0 l = none) : numSpec l = none := by unfold numSpec; rw [h]; simp
theorem numSpec_no {l : List UInt8} {v : Nat} (h : Lib.decFrom 0 l = some v) (hi : ¬ Lib.itoa v = l) : numSpec l = none := by unfold numSpec; rw [h]; simp [hi]
theorem numSpec_yes {l : List UInt8} {v : Nat} (h1 : 1 ≤ l.length) (h6 : l.length ≤ 6) (h : Lib.decFrom 0 l = some v) (hi : Lib.itoa v = l) : numSpec l = some (v : Int) := by unfold numSpec; rw [if_pos ⟨h1, h6⟩, h]; simp [hi]
theorem numSpec_len {l : List UInt8} (h : ¬ (1 ≤ l.length ∧ l.length ≤ 6)) : numSpec l = none := if_neg h

set_option maxHeartbeats 800000 in
theorem specNumber_in (s : ByteArray) (l : List UInt8) (w : World) (h1 : 1 ≤ s.size) (h6 : s.size ≤ 6) (hl : s.data.toList = l) :
    Calls Tryd.prog 63 #[.string s] w fun e w' => e = .returned (gotInt (numSpec l)) ∧ Below w.heap.size w w' := by
  have hlen : l.length = s.size := by rw [← hl]; simp
  have HL : Hid (s.data.toList = l) := hl
  have HLen : Hid (l.length = s.size) := hlen
  clear hlen hl
  go_enter Tryd.func63, Tryd.ntmps63
  go_wp2
  go_loop [4, 5] (fun n i => ∃ (k m : Nat), k ≤ s.size ∧ i = .int .i64 k ∧ n = .int .i64 m ∧ m ≤ 999999 ∧ Lib.decFrom 0 (l.take k) = some m) (fun _ i => s.size - (intOf i).toNat)
  case atStart => exact ⟨0, 0, by omega, rfl, rfl, by omega, rfl⟩
  case round =>
    obtain ⟨k, m, hk, rfl, rfl, hm, hE⟩ := hrel
    have HE : Hid (Lib.decFrom 0 (l.take k) = some m) := hE
    clear hE
    by_cases hlt : k < s.size
    · have hbk : l[k]? = some s[k] := by rw [← HL.out]; simp [hlt]; rfl
      have HB : Hid (l[k]? = some s[k]) := hbk
      clear hbk
      by_cases hlo : s[k].toNat < 48
      · have HF : Hid (numSpec l = none) := numSpec_bad (decFrom_bad l k _ HB.out (.inl hlo))
        go_wp2
        go_ret2
        exact ⟨by rw [HF.out]; rfl, Below.refl _ _⟩
      · by_cases hhi : 57 < s[k].toNat
        · have HF : Hid (numSpec l = none) := numSpec_bad (decFrom_bad l k _ HB.out (.inr hhi))
          go_wp2
          go_ret2
          exact ⟨by rw [HF.out]; rfl, Below.refl _ _⟩
        · have hE2 := Lib.decFrom_take l k 0 m _ _ HE.out HB.out (digitVal_ok _ (by omega) (by omega))
          have hb := decFrom_lt _ _ _ hE2
          have HE2 : Hid (Lib.decFrom 0 (l.take (k + 1)) = some (m * 10 + (s[k].toNat - 48))) := hE2
          have hle : m * 10 + (s[k].toNat - 48) ≤ 999999 := by
            have h3 : 10 ^ (l.take (k + 1)).length ≤ 10 ^ 6 := Nat.pow_le_pow_right (by decide) (by rw [List.length_take, HLen.out]; omega)
            omega
          clear hE2 hb
          go_wp2
          go_round
          case rel => exact ⟨k + 1, m * 10 + (s[k].toNat - 48), by omega, by go_num, by go_num, hle, HE2.out⟩
          case measure => simp [intOf]; omega
    · have hall : Lib.decFrom 0 l = some m := by
        have := HE.out
        rwa [List.take_of_length_le (by rw [HLen.out]; omega)] at this
      have HA : Hid (Lib.decFrom 0 l = some m) := hall
      clear hall
      go_wp2_with fail
      refine (digits_any (m : Int) _ (by omega) (by omega)).mono ?_
      rintro e w1 ⟨rfl, hb⟩
      by_cases hi : Lib.itoa (m : Int) = l
      · have HF : Hid (numSpec l = some (m : Int)) := numSpec_yes (by rw [HLen.out]; exact h1) (by rw [HLen.out]; exact h6) HA.out hi
        have he : (⟨(Lib.itoa (m : Int)).toArray⟩ : ByteArray) = s := by
          apply ByteArray.ext
          rw [hi, ← HL.out]
        rw [he]
        clear he hi
        go_wp2
        go_ret2
        exact ⟨by rw [HF.out]; rfl, hb⟩
      · have HF : Hid (numSpec l = none) := numSpec_no HA.out hi
        have hne : (Lib.itoa (m : Int) == s.toList) = false := by rw [ByteArray.toList_eq, HL.out]; simpa using hi
        clear hi
        go_wp2
        go_ret2
        exact ⟨by rw [HF.out]; rfl, hb⟩

theorem specNumber_any (s : ByteArray) (w : World) (hs : s.size ≤ 9223372036854775807) :
    Calls Tryd.prog 63 #[.string s] w fun e w' => e = .returned (gotInt (numSpec s.data.toList)) ∧ Below w.heap.size w w' := by
  by_cases h1 : 1 ≤ s.size
  · by_cases h6 : s.size ≤ 6
    · exact specNumber_in s _ w h1 h6 rfl
    · have HF : Hid (numSpec s.data.toList = none) := numSpec_len (by simp; intro _; exact Nat.lt_of_not_le h6)
      go_enter Tryd.func63, Tryd.ntmps63
      go_wp2
      go_ret2
      exact ⟨by rw [HF.out]; rfl, Below.refl _ _⟩
  · have HF : Hid (numSpec s.data.toList = none) := numSpec_len (by simp; intro h; exact absurd h h1)
    go_enter Tryd.func63, Tryd.ntmps63
    go_wp2
    go_ret2
    exact ⟨by rw [HF.out]; rfl, Below.refl _ _⟩

theorem sig_len {l : List UInt8} (h : ¬ (1 ≤ l.length ∧ l.length ≤ 5)) : sigSpec l = none := if_neg h
theorem sig_plain {l : List UInt8} (h : 1 ≤ l.length ∧ l.length ≤ 5) (hh : ¬ l.head? = some 45) (o : Option Int) (ho : numSpec l = o) : sigSpec l = o.bind fun v => if v ≤ 9999 then some v else none := by
  unfold sigSpec; rw [if_pos h, if_neg hh, ho]; cases o <;> rfl
theorem sig_minus {l : List UInt8} (h : 1 ≤ l.length ∧ l.length ≤ 5) (hh : l.head? = some 45) (o : Option Int) (ho : numSpec l.tail = o) : sigSpec l = o.bind fun v => if 1 ≤ v ∧ v ≤ 9999 then some (0 - v) else none := by
  unfold sigSpec; rw [if_pos h, if_pos hh, ho]; cases o <;> rfl

set_option maxHeartbeats 800000 in
theorem specSigned_any (s : ByteArray) (w : World) (hs : s.size ≤ 9223372036854775807) :
    Calls Tryd.prog 39 #[.string s] w fun e w' => e = .returned (gotInt (sigSpec s.data.toList)) ∧ Below w.heap.size w w' := by
  by_cases h1 : 1 ≤ s.size
  · by_cases h5 : s.size ≤ 5
    · have hlen : 1 ≤ s.data.toList.length ∧ s.data.toList.length ≤ 5 := by simp; exact ⟨h1, h5⟩
      have h0 : s.data.toList.head? = some s[0] := by
        have hp : 0 < s.size := h1
        have : s.data.toList[0]? = some s[0] := by simp [hp]; rfl
        rw [List.head?_eq_getElem?]; exact this
      by_cases hm : s[0].toNat = 45
      · have hh : s.data.toList.head? = some 45 := by
          rw [h0]; congr 1; exact UInt8.toNat_inj.1 hm
        have htl : (s.extract 1 s.size).data.toList = s.data.toList.tail := by
          rw [ByteArray.data_extract, Array.toList_extract, List.extract_eq_take_drop]
          rw [List.take_of_length_le (by simp), List.drop_one]
        have SM := sig_minus hlen hh
        have M := specNumber_any (s.extract 1 s.size) w (by simp; omega)
        rw [htl] at M
        cases ho : numSpec s.data.toList.tail with
        | none =>
          have HF : Hid (sigSpec s.data.toList = none) := SM _ ho
          rw [ho] at M
          clear SM ho htl hh h0 hlen
          go_enter Tryd.func39, Tryd.ntmps39
          go_wp2_with fail
          refine M.mono ?_
          clear M
          rintro e w1 ⟨rfl, hb⟩
          simp only [gotInt]
          go_wp2
          go_ret2
          exact ⟨by rw [HF.out]; rfl, hb⟩
        | some v =>
          obtain ⟨b0, b1, _⟩ := (numSpec_iff _ _).1 ho
          rw [ho] at M
          by_cases hv : 1 ≤ v ∧ v ≤ 9999
          · have HF : Hid (sigSpec s.data.toList = some (0 - v)) := (SM _ ho).trans (if_pos hv)
            obtain ⟨c0, c1⟩ := hv
            clear SM ho htl hh h0 hlen
            go_enter Tryd.func39, Tryd.ntmps39
            go_wp2_with fail
            refine M.mono ?_
            clear M
            rintro e w1 ⟨rfl, hb⟩
            simp only [gotInt]
            go_wp2
            go_ret2
            exact ⟨by rw [HF.out]; simp [gotInt], hb⟩
          · have HF : Hid (sigSpec s.data.toList = none) := (SM _ ho).trans (if_neg hv)
            clear SM ho htl hh h0 hlen
            by_cases c0 : 1 ≤ v
            · have c1 : ¬ v ≤ 9999 := fun h => hv ⟨c0, h⟩
              clear hv
              go_enter Tryd.func39, Tryd.ntmps39
              go_wp2_with fail
              refine M.mono ?_
              clear M
              rintro e w1 ⟨rfl, hb⟩
              simp only [gotInt]
              go_wp2
              go_ret2
              exact ⟨by rw [HF.out]; rfl, hb⟩
            · clear hv
              go_enter Tryd.func39, Tryd.ntmps39
              go_wp2_with fail
              refine M.mono ?_
              clear M
              rintro e w1 ⟨rfl, hb⟩
              simp only [gotInt]
              go_wp2
              go_ret2
              exact ⟨by rw [HF.out]; rfl, hb⟩
      · have hh : ¬ s.data.toList.head? = some 45 := by
          rw [h0]
          intro e
          simp only [Option.some.injEq] at e
          exact hm (by rw [e]; rfl)
        have hmb : ((s[0].toNat : Int) != 45) = true := by simp; omega
        have SM := sig_plain hlen hh
        have M := specNumber_any s w hs
        cases ho : numSpec s.data.toList with
        | none =>
          have HF : Hid (sigSpec s.data.toList = none) := SM _ ho
          rw [ho] at M
          clear SM ho hh h0 hlen hm
          go_enter Tryd.func39, Tryd.ntmps39
          go_wp2_with fail
          refine M.mono ?_
          clear M
          rintro e w1 ⟨rfl, hb⟩
          simp only [gotInt]
          go_wp2
          go_ret2
          exact ⟨by rw [HF.out]; rfl, hb⟩
        | some v =>
          obtain ⟨b0, b1, _⟩ := (numSpec_iff _ _).1 ho
          rw [ho] at M
          by_cases hv : v ≤ 9999
          · have HF : Hid (sigSpec s.data.toList = some v) := (SM _ ho).trans (if_pos hv)
            clear SM ho hh h0 hlen hm
            go_enter Tryd.func39, Tryd.ntmps39
            go_wp2_with fail
            refine M.mono ?_
            clear M
            rintro e w1 ⟨rfl, hb⟩
            simp only [gotInt]
            go_wp2
            go_ret2
            exact ⟨by rw [HF.out]; rfl, hb⟩
          · have HF : Hid (sigSpec s.data.toList = none) := (SM _ ho).trans (if_neg hv)
            clear SM ho hh h0 hlen hm
            go_enter Tryd.func39, Tryd.ntmps39
            go_wp2_with fail
            refine M.mono ?_
            clear M
            rintro e w1 ⟨rfl, hb⟩
            simp only [gotInt]
            go_wp2
            go_ret2
            exact ⟨by rw [HF.out]; rfl, hb⟩
    · have HF : Hid (sigSpec s.data.toList = none) := sig_len (by simp; intro _; exact Nat.lt_of_not_le h5)
      go_enter Tryd.func39, Tryd.ntmps39
      go_wp2
      go_ret2
      exact ⟨by rw [HF.out]; rfl, Below.refl _ _⟩
  · have HF : Hid (sigSpec s.data.toList = none) := sig_len (by simp; intro h; exact absurd h h1)
    go_enter Tryd.func39, Tryd.ntmps39
    go_wp2
    go_ret2
    exact ⟨by rw [HF.out]; rfl, Below.refl _ _⟩
end Go.Proofs.YtlpjigpnpafkiabDoor
