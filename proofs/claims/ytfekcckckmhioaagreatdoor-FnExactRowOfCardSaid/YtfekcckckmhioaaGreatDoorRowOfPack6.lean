/- Texts of this claim, put together: part 6. -/
import Derived.Test.YtfekcckckmhioaaGreatDoorRowOfPack4
import Derived.Test.YtfekcckckmhioaaGreatDoorRowOfPack5
import Derived.WalkSmall
import Derived.Test.YtfekcckckmhioaaGreatDoorRowOfPack2
import Derived.Test.YtfekcckckmhioaaGreatDoorRowOfPack3
/- The specification's readers of a decimal number. -/
namespace Go.Proofs.YtfekcckckmhioaaGreatDoor
open Go.RowKit
set_option maxRecDepth 100000

def gotInt : Option Int → Value
  | none => .tuple #[.int .i64 0, .bool false]
  | some v => .tuple #[.int .i64 v, .bool true]

theorem decFrom_bad (l : List UInt8) (k : Nat) (b : UInt8) (hb : l[k]? = some b) (hd : b.toNat < 48 ∨ 57 < b.toNat) : Lib.decFrom 0 l = none := by
  cases h : Lib.decFrom 0 l with
  | none => rfl
  | some n =>
    obtain ⟨d, hdv⟩ := Lib.digit_of_decFrom l 0 n h k b hb
    obtain ⟨h1, h2, _⟩ := digitVal_inv hdv
    omega
theorem digitVal_ok (b : UInt8) (h1 : 48 ≤ b.toNat) (h2 : b.toNat ≤ 57) : Lib.digitVal b = some (b.toNat - 48) := by rw [Lib.digitVal, if_pos ⟨h1, h2⟩]

theorem numSpec_bad {l : List UInt8} (h : Lib.decFrom 0 l = none) : numSpec l = none := by unfold numSpec; rw [h]; simp
theorem numSpec_no {l : List UInt8} {v : Nat} (h : Lib.decFrom 0 l = some v) (hi : ¬ Lib.itoa v = l) : numSpec l = none := by unfold numSpec; rw [h]; simp [hi]
theorem numSpec_yes {l : List UInt8} {v : Nat} (h1 : 1 ≤ l.length) (h6 : l.length ≤ 6) (h : Lib.decFrom 0 l = some v) (hi : Lib.itoa v = l) : numSpec l = some (v : Int) := by unfold numSpec; rw [if_pos ⟨h1, h6⟩, h]; simp [hi]
theorem numSpec_len {l : List UInt8} (h : ¬ (1 ≤ l.length ∧ l.length ≤ 6)) : numSpec l = none := if_neg h

set_option maxHeartbeats 800000 in
theorem specNumber_in (s : ByteArray) (l : List UInt8) (w : World) (h1 : 1 ≤ s.size) (h6 : s.size ≤ 6) (hl : s.data.toList = l) :
    Calls Tryz.prog 76 #[.string s] w fun e w' => e = .returned (gotInt (numSpec l)) ∧ Below w.heap.size w w' := by
  have hlen : l.length = s.size := by rw [← hl]; simp
  have HL : Hid (s.data.toList = l) := hl
  have HLen : Hid (l.length = s.size) := hlen
  clear hlen hl
  go_enter Tryz.func76, Tryz.ntmps76
  go_wp2
  go_loop [4, 5] (fun n i => ∃ (k m : Nat), k ≤ s.size ∧ i = .int .i64 k ∧ n = .int .i64 m ∧ m ≤ 999999 ∧ Lib.decFrom 0 (l.take k) = some m) (fun _ i => s.size - (intOf i).toNat)
  case atStart => exact ⟨0, 0, by omega, rfl, rfl, by omega, rfl⟩
  case round =>
    obtain ⟨k, m, hk, rfl, rfl, hm, hE⟩ := hrel
    have HE : Hid (Lib.decFrom 0 (l.take k) = some m) := hE
    clear hE
    by_cases hlt : k < s.size
    · have hbk : l[k]? = some s[k] := by rw [← HL.out]; simp [hlt]; rfl
      have HB : Hid (l[k]? = some s[k]) := hbk
      clear hbk
      by_cases hlo : s[k].toNat < 48
      · have HF : Hid (numSpec l = none) := numSpec_bad (decFrom_bad l k _ HB.out (.inl hlo))
        go_wp2
        go_ret2
        exact ⟨by rw [HF.out]; rfl, Below.refl _ _⟩
      · by_cases hhi : 57 < s[k].toNat
        · have HF : Hid (numSpec l = none) := numSpec_bad (decFrom_bad l k _ HB.out (.inr hhi))
          go_wp2
          go_ret2
          exact ⟨by rw [HF.out]; rfl, Below.refl _ _⟩
        · have hE2 := Lib.decFrom_take l k 0 m _ _ HE.out HB.out (digitVal_ok _ (by omega) (by omega))
          have hb := decFrom_lt _ _ _ hE2
          have HE2 : Hid (Lib.decFrom 0 (l.take (k + 1)) = some (m * 10 + (s[k].toNat - 48))) := hE2
          have hle : m * 10 + (s[k].toNat - 48) ≤ 999999 := by
            have h3 : 10 ^ (l.take (k + 1)).length ≤ 10 ^ 6 := Nat.pow_le_pow_right (by decide) (by rw [List.length_take, HLen.out]; omega)
            omega
          clear hE2 hb
          go_wp2
          go_round
          case rel => exact ⟨k + 1, m * 10 + (s[k].toNat - 48), by omega, by go_num, by go_num, hle, HE2.out⟩
          case measure => simp [intOf]; omega
    · have hall : Lib.decFrom 0 l = some m := by
        have := HE.out
        rwa [List.take_of_length_le (by rw [HLen.out]; omega)] at this
      have HA : Hid (Lib.decFrom 0 l = some m) := hall
      clear hall
      go_wp2_with fail
      refine (digits_any (m : Int) _ (by omega) (by omega)).mono ?_
      rintro e w1 ⟨rfl, hb⟩
      by_cases hi : Lib.itoa (m : Int) = l
      · have HF : Hid (numSpec l = some (m : Int)) := numSpec_yes (by rw [HLen.out]; exact h1) (by rw [HLen.out]; exact h6) HA.out hi
        have he : (⟨(Lib.itoa (m : Int)).toArray⟩ : ByteArray) = s := by
          apply ByteArray.ext
          rw [hi, ← HL.out]
        rw [he]
        clear he hi
        go_wp2
        go_ret2
        exact ⟨by rw [HF.out]; rfl, hb⟩
      · have HF : Hid (numSpec l = none) := numSpec_no HA.out hi
        have hne : (Lib.itoa (m : Int) == s.toList) = false := by rw [ByteArray.toList_eq, HL.out]; simpa using hi
        clear hi
        go_wp2
        go_ret2
        exact ⟨by rw [HF.out]; rfl, hb⟩

theorem specNumber_any (s : ByteArray) (w : World) (hs : s.size ≤ 9223372036854775807) :
    Calls Tryz.prog 76 #[.string s] w fun e w' => e = .returned (gotInt (numSpec s.data.toList)) ∧ Below w.heap.size w w' := by
  by_cases h1 : 1 ≤ s.size
  · by_cases h6 : s.size ≤ 6
    · exact specNumber_in s _ w h1 h6 rfl
    · have HF : Hid (numSpec s.data.toList = none) := numSpec_len (by simp; intro _; exact Nat.lt_of_not_le h6)
      go_enter Tryz.func76, Tryz.ntmps76
      go_wp2
      go_ret2
      exact ⟨by rw [HF.out]; rfl, Below.refl _ _⟩
  · have HF : Hid (numSpec s.data.toList = none) := numSpec_len (by simp; intro h; exact absurd h h1)
    go_enter Tryz.func76, Tryz.ntmps76
    go_wp2
    go_ret2
    exact ⟨by rw [HF.out]; rfl, Below.refl _ _⟩

theorem sig_len {l : List UInt8} (h : ¬ (1 ≤ l.length ∧ l.length ≤ 5)) : sigSpec l = none := if_neg h
theorem sig_plain {l : List UInt8} (h : 1 ≤ l.length ∧ l.length ≤ 5) (hh : ¬ l.head? = some 45) (o : Option Int) (ho : numSpec l = o) : sigSpec l = o.bind fun v => if v ≤ 9999 then some v else none := by
  unfold sigSpec; rw [if_pos h, if_neg hh, ho]; cases o <;> rfl
theorem sig_minus {l : List UInt8} (h : 1 ≤ l.length ∧ l.length ≤ 5) (hh : l.head? = some 45) (o : Option Int) (ho : numSpec l.tail = o) : sigSpec l = o.bind fun v => if 1 ≤ v ∧ v ≤ 9999 then some (0 - v) else none := by
  unfold sigSpec; rw [if_pos h, if_pos hh, ho]; cases o <;> rfl

set_option maxHeartbeats 800000 in
theorem specSigned_any (s : ByteArray) (w : World) (hs : s.size ≤ 9223372036854775807) :
    Calls Tryz.prog 52 #[.string s] w fun e w' => e = .returned (gotInt (sigSpec s.data.toList)) ∧ Below w.heap.size w w' := by
  by_cases h1 : 1 ≤ s.size
  · by_cases h5 : s.size ≤ 5
    · have hlen : 1 ≤ s.data.toList.length ∧ s.data.toList.length ≤ 5 := by simp; exact ⟨h1, h5⟩
      have h0 : s.data.toList.head? = some s[0] := by
        have hp : 0 < s.size := h1
        have : s.data.toList[0]? = some s[0] := by simp [hp]; rfl
        rw [List.head?_eq_getElem?]; exact this
      by_cases hm : s[0].toNat = 45
      · have hh : s.data.toList.head? = some 45 := by
          rw [h0]; congr 1; exact UInt8.toNat_inj.1 hm
        have htl : (s.extract 1 s.size).data.toList = s.data.toList.tail := by
          rw [ByteArray.data_extract, Array.toList_extract, List.extract_eq_take_drop]
          rw [List.take_of_length_le (by simp), List.drop_one]
        have SM := sig_minus hlen hh
        have M := specNumber_any (s.extract 1 s.size) w (by simp; omega)
        rw [htl] at M
        cases ho : numSpec s.data.toList.tail with
        | none =>
          have HF : Hid (sigSpec s.data.toList = none) := SM _ ho
          rw [ho] at M
          clear SM ho htl hh h0 hlen
          go_enter Tryz.func52, Tryz.ntmps52
          go_wp2_with fail
          refine M.mono ?_
          clear M
          rintro e w1 ⟨rfl, hb⟩
          simp only [gotInt]
          go_wp2
          go_ret2
          exact ⟨by rw [HF.out]; rfl, hb⟩
        | some v =>
          obtain ⟨b0, b1, _⟩ := (numSpec_iff _ _).1 ho
          rw [ho] at M
          by_cases hv : 1 ≤ v ∧ v ≤ 9999
          · have HF : Hid (sigSpec s.data.toList = some (0 - v)) := (SM _ ho).trans (if_pos hv)
            obtain ⟨c0, c1⟩ := hv
            clear SM ho htl hh h0 hlen
            go_enter Tryz.func52, Tryz.ntmps52
            go_wp2_with fail
            refine M.mono ?_
            clear M
            rintro e w1 ⟨rfl, hb⟩
            simp only [gotInt]
            go_wp2
            go_ret2
            exact ⟨by rw [HF.out]; simp [gotInt], hb⟩
          · have HF : Hid (sigSpec s.data.toList = none) := (SM _ ho).trans (if_neg hv)
            clear SM ho htl hh h0 hlen
            by_cases c0 : 1 ≤ v
            · have c1 : ¬ v ≤ 9999 := fun h => hv ⟨c0, h⟩
              clear hv
              go_enter Tryz.func52, Tryz.ntmps52
              go_wp2_with fail
              refine M.mono ?_
              clear M
              rintro e w1 ⟨rfl, hb⟩
              simp only [gotInt]
              go_wp2
              go_ret2
              exact ⟨by rw [HF.out]; rfl, hb⟩
            · clear hv
              go_enter Tryz.func52, Tryz.ntmps52
              go_wp2_with fail
              refine M.mono ?_
              clear M
              rintro e w1 ⟨rfl, hb⟩
              simp only [gotInt]
              go_wp2
              go_ret2
              exact ⟨by rw [HF.out]; rfl, hb⟩
      · have hh : ¬ s.data.toList.head? = some 45 := by
          rw [h0]
          intro e
          simp only [Option.some.injEq] at e
          exact hm (by rw [e]; rfl)
        have hmb : ((s[0].toNat : Int) != 45) = true := by simp; omega
        have SM := sig_plain hlen hh
        have M := specNumber_any s w hs
        cases ho : numSpec s.data.toList with
        | none =>
          have HF : Hid (sigSpec s.data.toList = none) := SM _ ho
          rw [ho] at M
          clear SM ho hh h0 hlen hm
          go_enter Tryz.func52, Tryz.ntmps52
          go_wp2_with fail
          refine M.mono ?_
          clear M
          rintro e w1 ⟨rfl, hb⟩
          simp only [gotInt]
          go_wp2
          go_ret2
          exact ⟨by rw [HF.out]; rfl, hb⟩
        | some v =>
          obtain ⟨b0, b1, _⟩ := (numSpec_iff _ _).1 ho
          rw [ho] at M
          by_cases hv : v ≤ 9999
          · have HF : Hid (sigSpec s.data.toList = some v) := (SM _ ho).trans (if_pos hv)
            clear SM ho hh h0 hlen hm
            go_enter Tryz.func52, Tryz.ntmps52
            go_wp2_with fail
            refine M.mono ?_
            clear M
            rintro e w1 ⟨rfl, hb⟩
            simp only [gotInt]
            go_wp2
            go_ret2
            exact ⟨by rw [HF.out]; rfl, hb⟩
          · have HF : Hid (sigSpec s.data.toList = none) := (SM _ ho).trans (if_neg hv)
            clear SM ho hh h0 hlen hm
            go_enter Tryz.func52, Tryz.ntmps52
            go_wp2_with fail
            refine M.mono ?_
            clear M
            rintro e w1 ⟨rfl, hb⟩
            simp only [gotInt]
            go_wp2
            go_ret2
            exact ⟨by rw [HF.out]; rfl, hb⟩
    · have HF : Hid (sigSpec s.data.toList = none) := sig_len (by simp; intro _; exact Nat.lt_of_not_le h5)
      go_enter Tryz.func52, Tryz.ntmps52
      go_wp2
      go_ret2
      exact ⟨by rw [HF.out]; rfl, Below.refl _ _⟩
  · have HF : Hid (sigSpec s.data.toList = none) := sig_len (by simp; intro h; exact absurd h h1)
    go_enter Tryz.func52, Tryz.ntmps52
    go_wp2
    go_ret2
    exact ⟨by rw [HF.out]; rfl, Below.refl _ _⟩
end Go.Proofs.YtfekcckckmhioaaGreatDoor
/- The bin of a number, by the specification. -/
namespace Go.Proofs.YtfekcckckmhioaaGreatDoor
open Go.RowKit
set_option maxRecDepth 100000
theorem specBin_any (v : Value) (cs : List Int) (x : Int) (w : World) (h : RowI w v cs) (hn : cs.length ≤ 1099511627776) :
    Calls Tryz.prog 53 #[v, .int .i64 x] w fun e w' => e = .returned (.int .i64 (binN cs x : Int)) ∧ w' = w := by
  obtain ⟨oa, cap, rfl, hc, hr⟩ := h
  have HJ : Hid (∀ k, k < cs.length → ∃ g o, oa = some ⟨g, o, none⟩ ∧ w.cell? ⟨g, o + k, none⟩ = some (.int .i64 (cs.getD k 0))) := fun k hk => by
    obtain ⟨g, o, e, hg, hj⟩ := hr (by omega)
    exact ⟨g, o, e, hj k hk⟩
  clear hr
  go_enter Tryz.func53, Tryz.ntmps53
  go_wp2
  go_loop [5, 6] (fun n i => ∃ k : Nat, i = .int .i64 k ∧ n = .int .i64 (binN (cs.take k) x : Int) ∧ k ≤ cs.length) (fun _ i => cs.length - (intOf i).toNat)
  case atStart => exact ⟨0, rfl, rfl, by omega⟩
  case round =>
    obtain ⟨k, rfl, rfl, hk⟩ := hrel
    have HL := binN_le (cs.take k) x
    rw [List.length_take] at HL
    by_cases hlt : k < cs.length
    · obtain ⟨g, o, rfl, hcell⟩ := HJ.out k hlt
      have HS : Hid (binN (cs.take (k + 1)) x = binN (cs.take k) x + (if cs.getD k 0 < x then 1 else 0)) := binN_step cs x k hlt
      generalize cs.getD k 0 = c at hcell HS
      generalize binN (cs.take k) x = b at HL HS
      by_cases hcx : c < x
      · have HE : Hid (binN (cs.take (k + 1)) x = b + 1) := by rw [HS.out, if_pos hcx]; rfl
        clear HS
        go_wp2
        go_round
        case rel => exact ⟨k + 1, by go_num, by rw [HE.out]; go_num, by omega⟩
        case measure => simp [intOf]; omega
      · have HE : Hid (binN (cs.take (k + 1)) x = b) := by rw [HS.out, if_neg hcx]; rfl
        clear HS
        go_wp2
        go_round
        case rel => exact ⟨k + 1, by go_num, by rw [HE.out], by omega⟩
        case measure => simp [intOf]; omega
    · have HE : Hid (binN (cs.take k) x = binN cs x) := by rw [List.take_of_length_le (by omega)]; rfl
      rw [HE.out]
      go_wp2
      go_ret
      exact ⟨rfl, rfl⟩
end Go.Proofs.YtfekcckckmhioaaGreatDoor
/- Where a text stands in a list, what a part of a row says: by the specification. -/
namespace Go.Proofs.YtfekcckckmhioaaGreatDoor
open Go.RowKit
set_option maxRecDepth 100000
set_option maxHeartbeats 400000 in
theorem specPlace_any (v : Value) (ss : List ByteArray) (t : ByteArray) (w : World) (h : RowS w v ss) (hn : ss.length ≤ 1099511627776) :
    Calls Tryz.prog 28 #[v, .string t] w fun e w' => e = .returned (.int .i64 (placeT ss t)) ∧ Below w.heap.size w w' := by
  obtain ⟨oa, cap, rfl, hc, hr⟩ := h
  have HR : Hid (0 < ss.length → ∃ g o, oa = some ⟨g, o, none⟩ ∧ g < w.heap.size ∧ ∀ j, j < ss.length → w.cell? ⟨g, o + j, none⟩ = some (.string (tx ss j))) := hr
  clear hr
  go_enter Tryz.func28, Tryz.ntmps28
  go_wp2
  go_loopw [5] (fun i wr => ∃ k : Nat, i = .int .i64 k ∧ k ≤ ss.length ∧ Hid (placeT ss t = placeFrom ss t k (ss.length - k)) ∧ Below w.heap.size w wr) (fun i _ => ss.length - (intOf i).toNat)
  case atStart => exact ⟨0, rfl, by omega, rfl, Below.refl _ _⟩
  case round =>
    obtain ⟨k, rfl, hk, HP, hb⟩ := hrel
    by_cases hlt : k < ss.length
    · obtain ⟨g, o, rfl, hg, hj⟩ := HR.out (by omega)
      have hcell : wr.cell? ⟨g, o + k, none⟩ = some (.string (tx ss k)) := (hb.cell (p := ⟨g, o + k, none⟩) hg).trans (hj k hlt)
      clear hj
      by_cases he : tx ss k = t
      · have HM : Hid (placeT ss t = (k : Int)) := by rw [HP.out, placeFrom_step hlt, if_pos he]; rfl
        have hq : ((tx ss k).toList == t.toList) = true := by rw [← he]; simp
        generalize tx ss k = u at hcell hq he
        clear he
        go_wp2
        go_ret
        exact ⟨by rw [HM.out]; rfl, hb⟩
      · have hq : ((tx ss k).toList == t.toList) = false := by
          rw [beq_eq_false_iff_ne]; exact fun h => he (bytes_eq_iff.1 h)
        have HM : Hid (placeT ss t = placeFrom ss t (k + 1) (ss.length - (k + 1))) := by rw [HP.out, placeFrom_step hlt, if_neg he]; rfl
        clear he
        generalize hu : tx ss k = u at hcell hq
        clear hu
        go_wp2
        go_roundw
        case rel => exact ⟨k + 1, by go_num, by omega, HM, hb⟩
        case measure => simp [intOf]; omega
    · have HM : Hid (placeT ss t = -1) := by rw [HP.out, show ss.length - k = 0 by omega]; rfl
      go_wp2
      go_ret
      exact ⟨by rw [HM.out]; rfl, hb⟩
end Go.Proofs.YtfekcckckmhioaaGreatDoor
/- A row in plain words: how its reading goes on from part to part. -/
namespace Go.Proofs.YtfekcckckmhioaaGreatDoor
open Go.RowKit
set_option maxRecDepth 100000
/-- The number that goes with a part of a row, by the program and by the specification. -/
def cellXi (a : AttrD) (t : ByteArray) : Int :=
  if 0 < a.vals.length then (if t = askB then -1 else placeT a.vals t) else if t = askB then -1 else (binN a.cuts ((sigSpec t.data.toList).getD 0) : Int)
def cellXs (a : AttrD) (t : ByteArray) : Int :=
  if t = askB then -1 else if 0 < a.vals.length then placeT a.vals t else match sigSpec t.data.toList with
    | none => 0
    | some n => (binN a.cuts n : Int)
theorem cellXi_val {a : AttrD} {t : ByteArray} {b : Int} (h : cellB a t = some b) : cellXi a t = b := by
  unfold cellB at h
  unfold cellXi
  by_cases h0 : t = askB
  · rw [if_pos h0] at h
    injection h with h
    rw [if_pos h0, if_pos h0, h]; split <;> rfl
  · rw [if_neg h0] at h
    rw [if_neg h0, if_neg h0]
    by_cases hv : 0 < a.vals.length
    · rw [if_pos hv] at h ⊢
      split at h
      · injection h
      · cases h
    · rw [if_neg hv] at h ⊢
      cases hs : sigSpec t.data.toList with
      | none => rw [hs] at h; cases h
      | some n => rw [hs] at h; injection h
theorem cellXs_val {a : AttrD} {t : ByteArray} {b : Int} (h : cellB a t = some b) : cellXs a t = b := by
  unfold cellB at h
  unfold cellXs
  by_cases h0 : t = askB
  · rw [if_pos h0] at h ⊢
    injection h
  · rw [if_neg h0] at h ⊢
    by_cases hv : 0 < a.vals.length
    · rw [if_pos hv] at h ⊢
      split at h
      · injection h
      · cases h
    · rw [if_neg hv] at h ⊢
      cases hs : sigSpec t.data.toList with
      | none => rw [hs] at h; cases h
      | some n => rw [hs] at h; injection h
theorem binsFrom_step {ls : List AttrD} {ps : List ByteArray} {k : Nat} {l : List Int} {b : Int} (h : binsFrom ls ps k = some l) (hb : cellB (ad ls k) (tx ps k) = some b) : binsFrom ls ps (k + 1) = some (l ++ [b]) := by
  unfold binsFrom; rw [h, hb]
theorem binsFrom_len {ls : List AttrD} {ps : List ByteArray} : ∀ {k : Nat} {l : List Int}, binsFrom ls ps k = some l → l.length = k
  | 0, l, h => by unfold binsFrom at h; cases h; rfl
  | k + 1, l, h => by
    unfold binsFrom at h
    cases h1 : binsFrom ls ps k with
    | none => rw [h1] at h; cases h
    | some l' =>
      cases h2 : cellB (ad ls k) (tx ps k) with
      | none => rw [h1, h2] at h; cases h
      | some b =>
        rw [h1, h2] at h
        injection h with h
        rw [← h, List.length_append, binsFrom_len h1]; rfl
theorem binsFrom_all {ls : List AttrD} {ps : List ByteArray} : ∀ {k : Nat} {l : List Int}, binsFrom ls ps k = some l → ∀ j, j < k → cellB (ad ls j) (tx ps j) = some (l.getD j 0)
  | 0, l, h, j, hj => by omega
  | k + 1, l, h, j, hj => by
    unfold binsFrom at h
    cases h1 : binsFrom ls ps k with
    | none => rw [h1] at h; cases h
    | some l' =>
      cases h2 : cellB (ad ls k) (tx ps k) with
      | none => rw [h1, h2] at h; cases h
      | some b =>
        rw [h1, h2] at h
        injection h with h
        have hl := binsFrom_len h1
        subst h
        by_cases e : j = k
        · subst e; rw [h2]; simp [hl]
        · rw [binsFrom_all h1 j (by omega)]
          simp [List.getD_eq_getElem?_getD, List.getElem?_append_left (show j < l'.length by omega)]
theorem binsFrom_none {ls : List AttrD} {ps : List ByteArray} {k : Nat} (hb : cellB (ad ls k) (tx ps k) = none) : ∀ {n : Nat}, k < n → binsFrom ls ps n = none
  | 0, h => by omega
  | n + 1, h => by
    unfold binsFrom
    by_cases e : k = n
    · subst e; rw [hb]; cases binsFrom ls ps k <;> rfl
    · rw [binsFrom_none hb (by omega)]
theorem binsFrom_yes {ls : List AttrD} {ps : List ByteArray} {l : List Int} : ∀ {k : Nat}, l.length = k → (∀ j, j < k → cellB (ad ls j) (tx ps j) = some (l.getD j 0)) → binsFrom ls ps k = some l := by
  intro k
  induction k generalizing l with
  | zero => intro h _; rw [List.eq_nil_of_length_eq_zero h]; rfl
  | succ k ih =>
    intro h hj
    have h1 : binsFrom ls ps k = some (l.take k) := by
      refine ih (by simp; omega) fun j hlt => ?_
      rw [hj j (by omega)]
      simp [List.getD_eq_getElem?_getD, hlt]
    rw [binsFrom_step h1 (hj k (by omega))]
    congr 1
    apply List.ext_getElem (by simp; omega)
    intro i h1 h2
    by_cases e : i < k
    · rw [List.getElem_append_left (by simp; omega)]; simp
    · obtain rfl : i = k := by omega
      rw [List.getElem_append_right (by simp; omega)]
      simp [h2]
theorem firstBad_on {ls : List AttrD} {ps : List ByteArray} {n : Nat} : ∀ {k : Nat}, k ≤ n → (∀ j, j < k → (cellB (ad ls j) (tx ps j)).isSome = true) → firstBad ls ps 0 n = firstBad ls ps k (n - k)
  | 0, _, _ => rfl
  | k + 1, h, hj => by
    rw [firstBad_on (k := k) (by omega) fun j hlt => hj j (by omega), show n - k = (n - (k + 1)) + 1 by omega]
    conv => lhs; unfold firstBad
    rw [if_pos (hj k (by omega))]
theorem firstBad_at {ls : List AttrD} {ps : List ByteArray} {k n : Nat} (h : k < n) (hj : ∀ j, j < k → (cellB (ad ls j) (tx ps j)).isSome = true) (hb : cellB (ad ls k) (tx ps k) = none) : firstBad ls ps 0 n = k := by
  rw [firstBad_on (k := k) (by omega) hj, show n - k = (n - (k + 1)) + 1 by omega]
  unfold firstBad
  rw [hb]; rfl
theorem rowOf_1 {s : SchemaD} {row : ByteArray} (h : schemaOk s = false) : rowOf s row = (noEx, 1, 0) := by unfold rowOf; rw [if_neg (by rw [h]; simp)]
theorem rowOf_2 {s : SchemaD} {row : ByteArray} (h : schemaOk s = true) (h2 : ¬ row.size ≤ 80) : rowOf s row = (noEx, 2, 0) := by unfold rowOf; rw [if_pos h, if_neg h2]
theorem rowOf_3 {s : SchemaD} {row : ByteArray} (h : schemaOk s = true) (h2 : row.size ≤ 80) (h3 : (pieces 124 row).length ≠ 2) : rowOf s row = (noEx, 3, 0) := by
  unfold rowOf; rw [if_pos h, if_pos h2]; simp only []; rw [if_neg h3]
theorem rowOf_4 {s : SchemaD} {row : ByteArray} (h : schemaOk s = true) (h2 : row.size ≤ 80) (h3 : (pieces 124 row).length = 2) (h4 : (pieces 44 (tx (pieces 124 row) 0)).length ≠ s.attrs.length) : rowOf s row = (noEx, 4, 0) := by
  unfold rowOf; rw [if_pos h, if_pos h2]; simp only []; rw [if_pos h3, if_neg h4]
theorem rowOf_5 {s : SchemaD} {row : ByteArray} (h : schemaOk s = true) (h2 : row.size ≤ 80) (h3 : (pieces 124 row).length = 2) {ps : List ByteArray} (hp : pieces 44 (tx (pieces 124 row) 0) = ps) (h4 : ps.length = s.attrs.length)
    {k : Nat} (hk : k < ps.length) (hj : ∀ j, j < k → (cellB (ad s.attrs j) (tx ps j)).isSome = true) (hb : cellB (ad s.attrs k) (tx ps k) = none) : rowOf s row = (noEx, 5, (k : Int)) := by
  unfold rowOf; rw [if_pos h, if_pos h2]; simp only []; rw [if_pos h3, hp, if_pos h4, binsFrom_none hb hk, firstBad_at hk hj hb]
theorem rowOf_6 {s : SchemaD} {row : ByteArray} (h : schemaOk s = true) (h2 : row.size ≤ 80) (h3 : (pieces 124 row).length = 2) {ps : List ByteArray} (hp : pieces 44 (tx (pieces 124 row) 0) = ps) (h4 : ps.length = s.attrs.length)
    {l : List Int} (hl : binsFrom s.attrs ps ps.length = some l) (h6 : ¬ (0 ≤ placeT s.classes (tx (pieces 124 row) 1) ∨ tx (pieces 124 row) 1 = askB)) : rowOf s row = (noEx, 6, 0) := by
  unfold rowOf; rw [if_pos h, if_pos h2]; simp only []; rw [if_pos h3, hp, if_pos h4, hl]; simp only []; rw [if_neg h6]
theorem rowOf_0 {s : SchemaD} {row : ByteArray} (h : schemaOk s = true) (h2 : row.size ≤ 80) (h3 : (pieces 124 row).length = 2) {ps : List ByteArray} (hp : pieces 44 (tx (pieces 124 row) 0) = ps) (h4 : ps.length = s.attrs.length)
    {l : List Int} (hl : binsFrom s.attrs ps ps.length = some l) (h6 : 0 ≤ placeT s.classes (tx (pieces 124 row) 1) ∨ tx (pieces 124 row) 1 = askB) : rowOf s row = (⟨l, placeT s.classes (tx (pieces 124 row) 1)⟩, 0, 0) := by
  unfold rowOf; rw [if_pos h, if_pos h2]; simp only []; rw [if_pos h3, hp, if_pos h4, hl]; simp only []; rw [if_pos h6]
end Go.Proofs.YtfekcckckmhioaaGreatDoor
