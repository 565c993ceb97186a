/- Texts of this claim, put together: part 13. -/
import Derived.Test.YtndnplpmkkdieaaGreatDoorFnSchemaReadPack8
import Derived.Test.YtndnplpmkkdieaaGreatDoorFnSchemaReadPack10
import Derived.WalkSmall
import Derived.Shelf.Strconv.Itoa3
import Derived.Test.YtndnplpmkkdieaaGreatDoorProg
import Derived.Shelf.Strconv.ErrVarAll
import Derived.Shelf.Strconv.AtoiAll
import Derived.WalkLawsBesides
import Derived.Defers
import Derived.Recover
import Derived.Lib.LaidTab
import Derived.Lib.AppendIntMem
/- The specification's readers of a decimal number. -/
namespace Go.Proofs.YtndnplpmkkdieaaGreatDoor
open Go.RowKit
set_option maxRecDepth 100000

def gotInt : Option Int → Value
  | none => .tuple #[.int .i64 0, .bool false]
  | some v => .tuple #[.int .i64 v, .bool true]

theorem decFrom_bad (l : List UInt8) (k : Nat) (b : UInt8) (hb : l[k]? = some b) (hd : b.toNat < 48 ∨ 57 < b.toNat) : Lib.decFrom 0 l = none := by
  cases h : Lib.decFrom 0 l with
  | none => rfl
  | some n =>
    obtain ⟨d, hdv⟩ := Lib.digit_of_decFrom l 0 n h k b hb
    obtain ⟨h1, h2, _⟩ := digitVal_inv hdv
    omega
theorem digitVal_ok (b : UInt8) (h1 : 48 ≤ b.toNat) (h2 : b.toNat ≤ 57) : Lib.digitVal b = some (b.toNat - 48) := by rw [Lib.digitVal, if_pos ⟨h1, h2⟩]

theorem numSpec_bad {l : List UInt8} (h : Lib.decFrom 0 l = none) : numSpec l = none := by unfold numSpec; rw [h]; simp
theorem numSpec_no {l : List UInt8} {v : Nat} (h : Lib.decFrom 0 l = some v) (hi : ¬ Lib.itoa v = l) : numSpec l = none := by unfold numSpec; rw [h]; simp [hi]
theorem numSpec_yes {l : List UInt8} {v : Nat} (h1 : 1 ≤ l.length) (h6 : l.length ≤ 6) (h : Lib.decFrom 0 l = some v) (hi : Lib.itoa v = l) : numSpec l = some (v : Int) := by unfold numSpec; rw [if_pos ⟨h1, h6⟩, h]; simp [hi]
theorem numSpec_len {l : List UInt8} (h : ¬ (1 ≤ l.length ∧ l.length ≤ 6)) : numSpec l = none := if_neg h

set_option maxHeartbeats 800000 in
theorem specNumber_in (s : ByteArray) (l : List UInt8) (w : World) (h1 : 1 ≤ s.size) (h6 : s.size ≤ 6) (hl : s.data.toList = l) :
    Calls Tryz.prog 66 #[.string s] w fun e w' => e = .returned (gotInt (numSpec l)) ∧ Below w.heap.size w w' := by
  have hlen : l.length = s.size := by rw [← hl]; simp
  have HL : Hid (s.data.toList = l) := hl
  have HLen : Hid (l.length = s.size) := hlen
  clear hlen hl
  go_enter Tryz.func66, Tryz.ntmps66
  go_wp2
  go_loop [4, 5] (fun n i => ∃ (k m : Nat), k ≤ s.size ∧ i = .int .i64 k ∧ n = .int .i64 m ∧ m ≤ 999999 ∧ Lib.decFrom 0 (l.take k) = some m) (fun _ i => s.size - (intOf i).toNat)
  case atStart => exact ⟨0, 0, by omega, rfl, rfl, by omega, rfl⟩
  case round =>
    obtain ⟨k, m, hk, rfl, rfl, hm, hE⟩ := hrel
    have HE : Hid (Lib.decFrom 0 (l.take k) = some m) := hE
    clear hE
    by_cases hlt : k < s.size
    · have hbk : l[k]? = some s[k] := by rw [← HL.out]; simp [hlt]; rfl
      have HB : Hid (l[k]? = some s[k]) := hbk
      clear hbk
      by_cases hlo : s[k].toNat < 48
      · have HF : Hid (numSpec l = none) := numSpec_bad (decFrom_bad l k _ HB.out (.inl hlo))
        go_wp2
        go_ret2
        exact ⟨by rw [HF.out]; rfl, Below.refl _ _⟩
      · by_cases hhi : 57 < s[k].toNat
        · have HF : Hid (numSpec l = none) := numSpec_bad (decFrom_bad l k _ HB.out (.inr hhi))
          go_wp2
          go_ret2
          exact ⟨by rw [HF.out]; rfl, Below.refl _ _⟩
        · have hE2 := Lib.decFrom_take l k 0 m _ _ HE.out HB.out (digitVal_ok _ (by omega) (by omega))
          have hb := decFrom_lt _ _ _ hE2
          have HE2 : Hid (Lib.decFrom 0 (l.take (k + 1)) = some (m * 10 + (s[k].toNat - 48))) := hE2
          have hle : m * 10 + (s[k].toNat - 48) ≤ 999999 := by
            have h3 : 10 ^ (l.take (k + 1)).length ≤ 10 ^ 6 := Nat.pow_le_pow_right (by decide) (by rw [List.length_take, HLen.out]; omega)
            omega
          clear hE2 hb
          go_wp2
          go_round
          case rel => exact ⟨k + 1, m * 10 + (s[k].toNat - 48), by omega, by go_num, by go_num, hle, HE2.out⟩
          case measure => simp [intOf]; omega
    · have hall : Lib.decFrom 0 l = some m := by
        have := HE.out
        rwa [List.take_of_length_le (by rw [HLen.out]; omega)] at this
      have HA : Hid (Lib.decFrom 0 l = some m) := hall
      clear hall
      go_wp2_with fail
      refine (digits_any (m : Int) _ (by omega) (by omega)).mono ?_
      rintro e w1 ⟨rfl, hb⟩
      by_cases hi : Lib.itoa (m : Int) = l
      · have HF : Hid (numSpec l = some (m : Int)) := numSpec_yes (by rw [HLen.out]; exact h1) (by rw [HLen.out]; exact h6) HA.out hi
        have he : (⟨(Lib.itoa (m : Int)).toArray⟩ : ByteArray) = s := by
          apply ByteArray.ext
          rw [hi, ← HL.out]
        rw [he]
        clear he hi
        go_wp2
        go_ret2
        exact ⟨by rw [HF.out]; rfl, hb⟩
      · have HF : Hid (numSpec l = none) := numSpec_no HA.out hi
        have hne : (Lib.itoa (m : Int) == s.toList) = false := by rw [ByteArray.toList_eq, HL.out]; simpa using hi
        clear hi
        go_wp2
        go_ret2
        exact ⟨by rw [HF.out]; rfl, hb⟩

theorem specNumber_any (s : ByteArray) (w : World) (hs : s.size ≤ 9223372036854775807) :
    Calls Tryz.prog 66 #[.string s] w fun e w' => e = .returned (gotInt (numSpec s.data.toList)) ∧ Below w.heap.size w w' := by
  by_cases h1 : 1 ≤ s.size
  · by_cases h6 : s.size ≤ 6
    · exact specNumber_in s _ w h1 h6 rfl
    · have HF : Hid (numSpec s.data.toList = none) := numSpec_len (by simp; intro _; exact Nat.lt_of_not_le h6)
      go_enter Tryz.func66, Tryz.ntmps66
      go_wp2
      go_ret2
      exact ⟨by rw [HF.out]; rfl, Below.refl _ _⟩
  · have HF : Hid (numSpec s.data.toList = none) := numSpec_len (by simp; intro h; exact absurd h h1)
    go_enter Tryz.func66, Tryz.ntmps66
    go_wp2
    go_ret2
    exact ⟨by rw [HF.out]; rfl, Below.refl _ _⟩

theorem sig_len {l : List UInt8} (h : ¬ (1 ≤ l.length ∧ l.length ≤ 5)) : sigSpec l = none := if_neg h
theorem sig_plain {l : List UInt8} (h : 1 ≤ l.length ∧ l.length ≤ 5) (hh : ¬ l.head? = some 45) (o : Option Int) (ho : numSpec l = o) : sigSpec l = o.bind fun v => if v ≤ 9999 then some v else none := by
  unfold sigSpec; rw [if_pos h, if_neg hh, ho]; cases o <;> rfl
theorem sig_minus {l : List UInt8} (h : 1 ≤ l.length ∧ l.length ≤ 5) (hh : l.head? = some 45) (o : Option Int) (ho : numSpec l.tail = o) : sigSpec l = o.bind fun v => if 1 ≤ v ∧ v ≤ 9999 then some (0 - v) else none := by
  unfold sigSpec; rw [if_pos h, if_pos hh, ho]; cases o <;> rfl

set_option maxHeartbeats 800000 in
theorem specSigned_any (s : ByteArray) (w : World) (hs : s.size ≤ 9223372036854775807) :
    Calls Tryz.prog 52 #[.string s] w fun e w' => e = .returned (gotInt (sigSpec s.data.toList)) ∧ Below w.heap.size w w' := by
  by_cases h1 : 1 ≤ s.size
  · by_cases h5 : s.size ≤ 5
    · have hlen : 1 ≤ s.data.toList.length ∧ s.data.toList.length ≤ 5 := by simp; exact ⟨h1, h5⟩
      have h0 : s.data.toList.head? = some s[0] := by
        have hp : 0 < s.size := h1
        have : s.data.toList[0]? = some s[0] := by simp [hp]; rfl
        rw [List.head?_eq_getElem?]; exact this
      by_cases hm : s[0].toNat = 45
      · have hh : s.data.toList.head? = some 45 := by
          rw [h0]; congr 1; exact UInt8.toNat_inj.1 hm
        have htl : (s.extract 1 s.size).data.toList = s.data.toList.tail := by
          rw [ByteArray.data_extract, Array.toList_extract, List.extract_eq_take_drop]
          rw [List.take_of_length_le (by simp), List.drop_one]
        have SM := sig_minus hlen hh
        have M := specNumber_any (s.extract 1 s.size) w (by simp; omega)
        rw [htl] at M
        cases ho : numSpec s.data.toList.tail with
        | none =>
          have HF : Hid (sigSpec s.data.toList = none) := SM _ ho
          rw [ho] at M
          clear SM ho htl hh h0 hlen
          go_enter Tryz.func52, Tryz.ntmps52
          go_wp2_with fail
          refine M.mono ?_
          clear M
          rintro e w1 ⟨rfl, hb⟩
          simp only [gotInt]
          go_wp2
          go_ret2
          exact ⟨by rw [HF.out]; rfl, hb⟩
        | some v =>
          obtain ⟨b0, b1, _⟩ := (numSpec_iff _ _).1 ho
          rw [ho] at M
          by_cases hv : 1 ≤ v ∧ v ≤ 9999
          · have HF : Hid (sigSpec s.data.toList = some (0 - v)) := (SM _ ho).trans (if_pos hv)
            obtain ⟨c0, c1⟩ := hv
            clear SM ho htl hh h0 hlen
            go_enter Tryz.func52, Tryz.ntmps52
            go_wp2_with fail
            refine M.mono ?_
            clear M
            rintro e w1 ⟨rfl, hb⟩
            simp only [gotInt]
            go_wp2
            go_ret2
            exact ⟨by rw [HF.out]; simp [gotInt], hb⟩
          · have HF : Hid (sigSpec s.data.toList = none) := (SM _ ho).trans (if_neg hv)
            clear SM ho htl hh h0 hlen
            by_cases c0 : 1 ≤ v
            · have c1 : ¬ v ≤ 9999 := fun h => hv ⟨c0, h⟩
              clear hv
              go_enter Tryz.func52, Tryz.ntmps52
              go_wp2_with fail
              refine M.mono ?_
              clear M
              rintro e w1 ⟨rfl, hb⟩
              simp only [gotInt]
              go_wp2
              go_ret2
              exact ⟨by rw [HF.out]; rfl, hb⟩
            · clear hv
              go_enter Tryz.func52, Tryz.ntmps52
              go_wp2_with fail
              refine M.mono ?_
              clear M
              rintro e w1 ⟨rfl, hb⟩
              simp only [gotInt]
              go_wp2
              go_ret2
              exact ⟨by rw [HF.out]; rfl, hb⟩
      · have hh : ¬ s.data.toList.head? = some 45 := by
          rw [h0]
          intro e
          simp only [Option.some.injEq] at e
          exact hm (by rw [e]; rfl)
        have hmb : ((s[0].toNat : Int) != 45) = true := by simp; omega
        have SM := sig_plain hlen hh
        have M := specNumber_any s w hs
        cases ho : numSpec s.data.toList with
        | none =>
          have HF : Hid (sigSpec s.data.toList = none) := SM _ ho
          rw [ho] at M
          clear SM ho hh h0 hlen hm
          go_enter Tryz.func52, Tryz.ntmps52
          go_wp2_with fail
          refine M.mono ?_
          clear M
          rintro e w1 ⟨rfl, hb⟩
          simp only [gotInt]
          go_wp2
          go_ret2
          exact ⟨by rw [HF.out]; rfl, hb⟩
        | some v =>
          obtain ⟨b0, b1, _⟩ := (numSpec_iff _ _).1 ho
          rw [ho] at M
          by_cases hv : v ≤ 9999
          · have HF : Hid (sigSpec s.data.toList = some v) := (SM _ ho).trans (if_pos hv)
            clear SM ho hh h0 hlen hm
            go_enter Tryz.func52, Tryz.ntmps52
            go_wp2_with fail
            refine M.mono ?_
            clear M
            rintro e w1 ⟨rfl, hb⟩
            simp only [gotInt]
            go_wp2
            go_ret2
            exact ⟨by rw [HF.out]; rfl, hb⟩
          · have HF : Hid (sigSpec s.data.toList = none) := (SM _ ho).trans (if_neg hv)
            clear SM ho hh h0 hlen hm
            go_enter Tryz.func52, Tryz.ntmps52
            go_wp2_with fail
            refine M.mono ?_
            clear M
            rintro e w1 ⟨rfl, hb⟩
            simp only [gotInt]
            go_wp2
            go_ret2
            exact ⟨by rw [HF.out]; rfl, hb⟩
    · have HF : Hid (sigSpec s.data.toList = none) := sig_len (by simp; intro _; exact Nat.lt_of_not_le h5)
      go_enter Tryz.func52, Tryz.ntmps52
      go_wp2
      go_ret2
      exact ⟨by rw [HF.out]; rfl, Below.refl _ _⟩
  · have HF : Hid (sigSpec s.data.toList = none) := sig_len (by simp; intro h; exact absurd h h1)
    go_enter Tryz.func52, Tryz.ntmps52
    go_wp2
    go_ret2
    exact ⟨by rw [HF.out]; rfl, Below.refl _ _⟩
end Go.Proofs.YtndnplpmkkdieaaGreatDoor
/- Contracts of the library that this seat calls, laid at its own numbers out of the kit. -/
namespace Go.Proofs
open Go.Shelf
def Tryz.laysM171_ren : Go.Shelf.Ren := ⟨fun | 171 => 62 | 243 => 71 | 246 => 80 | 283 => 87 | 284 => 88 | 285 => 89 | 286 => 90 | 129 => 96 | 317 => 95 | 318 => 97 | 319 => 98 | 320 => 99 | 337 => 105 | 338 => 106 | n => n, fun | 3 => 3 | 9 => 9 | 2 => 2 | 4 => 4 | 171 => 98 | 0 => 0 | 53 => 99 | 37 => 22 | 5 => 5 | 173 => 102 | 212 => 113 | 51 => 108 | 20 => 20 | 213 => 114 | 46 => 85 | 232 => 129 | 233 => 130 | n => n, fun | 17 => 4 | 18 => 7 | 19 => 8 | n => n⟩
theorem Tryz.laysM171 : Go.Proofs.LaysM.n171 Tryz.prog Tryz.laysM171_ren := {
  mixed := by kernel_rfl
  f129 := Tryz.func96.trans (congrArg some (by kernel_rfl))
  f171 := Tryz.func62.trans (congrArg some (by kernel_rfl))
  f243 := Tryz.func71.trans (congrArg some (by kernel_rfl))
  f246 := Tryz.func80.trans (congrArg some (by kernel_rfl))
  f283 := Tryz.func87.trans (congrArg some (by kernel_rfl))
  f284 := Tryz.func88.trans (congrArg some (by kernel_rfl))
  f285 := Tryz.func89.trans (congrArg some (by kernel_rfl))
  f286 := Tryz.func90.trans (congrArg some (by kernel_rfl))
  f317 := Tryz.func95.trans (congrArg some (by kernel_rfl))
  f318 := Tryz.func97.trans (congrArg some (by kernel_rfl))
  f319 := Tryz.func98.trans (congrArg some (by kernel_rfl))
  f320 := Tryz.func99.trans (congrArg some (by kernel_rfl))
  f337 := Tryz.func105.trans (congrArg some (by kernel_rfl))
  f338 := Tryz.func106.trans (congrArg some (by kernel_rfl))
  t0 := Tryz.underlying0
  a0 := Tryz.isAgg0
  z0 := Tryz.sizeOf0
  v0 := Tryz.zeroValue0
  t2 := Tryz.underlying2
  a2 := Tryz.isAgg2
  z2 := Tryz.sizeOf2
  v2 := Tryz.zeroValue2
  t3 := Tryz.underlying3
  a3 := Tryz.isAgg3
  z3 := Tryz.sizeOf3
  v3 := Tryz.zeroValue3
  t4 := Tryz.underlying4
  a4 := Tryz.isAgg4
  z4 := Tryz.sizeOf4
  v4 := Tryz.zeroValue4
  t5 := Tryz.underlying5
  a5 := Tryz.isAgg5
  z5 := Tryz.sizeOf5
  v5 := Tryz.zeroValue5
  t9 := Tryz.underlying9
  a9 := Tryz.isAgg9
  z9 := Tryz.sizeOf9
  v9 := Tryz.zeroValue9
  t20 := Tryz.underlying20
  a20 := Tryz.isAgg20
  z20 := Tryz.sizeOf20
  v20 := Tryz.zeroValue20
  t37 := Tryz.underlying22
  a37 := Tryz.isAgg22
  z37 := Tryz.sizeOf22
  v37 := Tryz.zeroValue22
  t46 := Tryz.underlying85
  a46 := Tryz.isAgg85
  z46 := Tryz.sizeOf85
  v46 := Tryz.zeroValue85
  t51 := Tryz.underlying108
  a51 := Tryz.isAgg108
  z51 := Tryz.sizeOf108
  v51 := Tryz.zeroValue108
  t53 := Tryz.underlying99
  a53 := Tryz.isAgg99
  z53 := Tryz.sizeOf99
  v53 := Tryz.zeroValue99
  t171 := Tryz.underlying98
  a171 := Tryz.isAgg98
  z171 := Tryz.sizeOf98
  v171 := Tryz.zeroValue98
  t173 := Tryz.underlying102
  a173 := Tryz.isAgg102
  z173 := Tryz.sizeOf102
  v173 := Tryz.zeroValue102
  t212 := Tryz.underlying113
  a212 := Tryz.isAgg113
  z212 := Tryz.sizeOf113
  v212 := Tryz.zeroValue113
  t213 := Tryz.underlying114
  a213 := Tryz.isAgg114
  z213 := Tryz.sizeOf114
  t232 := Tryz.underlying129
  a232 := Tryz.isAgg129
  z232 := Tryz.sizeOf129
  v232 := Tryz.zeroValue129
  t233 := Tryz.underlying130
  a233 := Tryz.isAgg130
  z233 := Tryz.sizeOf130
  v233 := Tryz.zeroValue130
  g17 := by kernel_rfl
  g18 := by kernel_rfl
  g19 := by kernel_rfl
  i0 := by kernel_rfl
  i2 := by kernel_rfl
  i3 := by kernel_rfl
  i4 := by kernel_rfl
  i5 := by kernel_rfl
  i9 := by kernel_rfl
  i20 := by kernel_rfl
  i37 := by kernel_rfl
  i46 := by kernel_rfl
  i51 := by kernel_rfl
  i53 := by kernel_rfl
  i171 := by kernel_rfl
  i173 := by kernel_rfl
  i212 := by kernel_rfl
  i232 := by kernel_rfl
  i233 := by kernel_rfl
  m17 := by kernel_rfl
  m18 := by kernel_rfl
  m19 := by kernel_rfl }
open Go.RowKit Go.Sort Go.Lib in
theorem Tryz.strconv_Itoa (n : Int) (h0 : -9223372036854775808 ≤ n) (h1 : n ≤ 9223372036854775807) (w : World) (htab : Lib.TabIs Tryz.prog w "internal/strconv.uint64pow10" .u64 Lib.pow10Tab) :
    Calls Tryz.prog 62 #[.int .i64 n] w fun e w' => e = .returned (.string ⟨(Lib.itoa n).toArray⟩) ∧ ∃ k os, w' = grow (w.drewN k) os := Any.strconv_Itoa Tryz.laysM171 n h0 h1 w htab
end Go.Proofs
/- Contracts of the library that this seat calls, laid at its own numbers out of the kit. -/
namespace Go.Proofs
open Go.Shelf
def Tryz.laysC172_ren : Go.Shelf.Ren := ⟨fun | 172 => 86 | 244 => 93 | 245 => 94 | 247 => 100 | 279 => 101 | 280 => 102 | 281 => 103 | 282 => 104 | 287 => 107 | 316 => 60 | 171 => 62 | 205 => 108 | 321 => 109 | 322 => 110 | 243 => 71 | 246 => 80 | 283 => 87 | 284 => 88 | 285 => 89 | 286 => 90 | 129 => 96 | 317 => 95 | 318 => 97 | 319 => 98 | 320 => 99 | 337 => 105 | 338 => 106 | n => n, fun | 9 => 9 | 3 => 3 | 75 => 68 | 76 => 69 | 4 => 4 | 5 => 5 | 167 => 117 | 37 => 22 | 0 => 0 | 85 => 118 | 2 => 2 | 168 => 120 | 53 => 99 | 175 => 124 | 46 => 85 | 210 => 127 | 127 => 84 | 145 => 134 | 143 => 132 | 21 => 21 | 171 => 98 | 173 => 102 | 212 => 113 | 51 => 108 | 20 => 20 | 213 => 114 | 232 => 129 | 233 => 130 | 80 => 71 | n => n, fun | 15 => 5 | 16 => 6 | 17 => 4 | 18 => 7 | 19 => 8 | n => n⟩
theorem Tryz.laysC172 : Go.Proofs.LaysC.n172 Tryz.prog Tryz.laysC172_ren := {
  mixed := by kernel_rfl
  f129 := Tryz.func96.trans (congrArg some (by kernel_rfl))
  f171 := Tryz.func62.trans (congrArg some (by kernel_rfl))
  f172 := Tryz.func86.trans (congrArg some (by kernel_rfl))
  f205 := Tryz.func108.trans (congrArg some (by kernel_rfl))
  f243 := Tryz.func71.trans (congrArg some (by kernel_rfl))
  f244 := Tryz.func93.trans (congrArg some (by kernel_rfl))
  f245 := Tryz.func94.trans (congrArg some (by kernel_rfl))
  f246 := Tryz.func80.trans (congrArg some (by kernel_rfl))
  f247 := Tryz.func100.trans (congrArg some (by kernel_rfl))
  f279 := Tryz.func101.trans (congrArg some (by kernel_rfl))
  f280 := Tryz.func102.trans (congrArg some (by kernel_rfl))
  f281 := Tryz.func103.trans (congrArg some (by kernel_rfl))
  f282 := Tryz.func104.trans (congrArg some (by kernel_rfl))
  f283 := Tryz.func87.trans (congrArg some (by kernel_rfl))
  f284 := Tryz.func88.trans (congrArg some (by kernel_rfl))
  f285 := Tryz.func89.trans (congrArg some (by kernel_rfl))
  f286 := Tryz.func90.trans (congrArg some (by kernel_rfl))
  f287 := Tryz.func107.trans (congrArg some (by kernel_rfl))
  f316 := Tryz.func60.trans (congrArg some (by kernel_rfl))
  f317 := Tryz.func95.trans (congrArg some (by kernel_rfl))
  f318 := Tryz.func97.trans (congrArg some (by kernel_rfl))
  f319 := Tryz.func98.trans (congrArg some (by kernel_rfl))
  f320 := Tryz.func99.trans (congrArg some (by kernel_rfl))
  f321 := Tryz.func109.trans (congrArg some (by kernel_rfl))
  f322 := Tryz.func110.trans (congrArg some (by kernel_rfl))
  f337 := Tryz.func105.trans (congrArg some (by kernel_rfl))
  f338 := Tryz.func106.trans (congrArg some (by kernel_rfl))
  t0 := Tryz.underlying0
  a0 := Tryz.isAgg0
  z0 := Tryz.sizeOf0
  v0 := Tryz.zeroValue0
  t2 := Tryz.underlying2
  a2 := Tryz.isAgg2
  z2 := Tryz.sizeOf2
  v2 := Tryz.zeroValue2
  t3 := Tryz.underlying3
  a3 := Tryz.isAgg3
  z3 := Tryz.sizeOf3
  v3 := Tryz.zeroValue3
  t4 := Tryz.underlying4
  a4 := Tryz.isAgg4
  z4 := Tryz.sizeOf4
  v4 := Tryz.zeroValue4
  t5 := Tryz.underlying5
  a5 := Tryz.isAgg5
  z5 := Tryz.sizeOf5
  v5 := Tryz.zeroValue5
  t9 := Tryz.underlying9
  a9 := Tryz.isAgg9
  z9 := Tryz.sizeOf9
  v9 := Tryz.zeroValue9
  t20 := Tryz.underlying20
  a20 := Tryz.isAgg20
  z20 := Tryz.sizeOf20
  v20 := Tryz.zeroValue20
  t21 := Tryz.underlying21
  a21 := Tryz.isAgg21
  z21 := Tryz.sizeOf21
  v21 := Tryz.zeroValue21
  t37 := Tryz.underlying22
  a37 := Tryz.isAgg22
  z37 := Tryz.sizeOf22
  v37 := Tryz.zeroValue22
  t46 := Tryz.underlying85
  a46 := Tryz.isAgg85
  z46 := Tryz.sizeOf85
  v46 := Tryz.zeroValue85
  t51 := Tryz.underlying108
  a51 := Tryz.isAgg108
  z51 := Tryz.sizeOf108
  v51 := Tryz.zeroValue108
  t53 := Tryz.underlying99
  a53 := Tryz.isAgg99
  z53 := Tryz.sizeOf99
  v53 := Tryz.zeroValue99
  t75 := Tryz.underlying68
  a75 := Tryz.isAgg68
  z75 := Tryz.sizeOf68
  v75 := Tryz.zeroValue68
  t76 := Tryz.underlying69
  a76 := Tryz.isAgg69
  z76 := Tryz.sizeOf69
  v76 := Tryz.zeroValue69
  t85 := Tryz.underlying118
  a85 := Tryz.isAgg118
  z85 := Tryz.sizeOf118
  v85 := Tryz.zeroValue118
  t127 := Tryz.underlying84
  a127 := Tryz.isAgg84
  z127 := Tryz.sizeOf84
  v127 := Tryz.zeroValue84
  t143 := Tryz.underlying132
  a143 := Tryz.isAgg132
  z143 := Tryz.sizeOf132
  v143 := Tryz.zeroValue132
  t145 := Tryz.underlying134
  a145 := Tryz.isAgg134
  z145 := Tryz.sizeOf134
  v145 := Tryz.zeroValue134
  t167 := Tryz.underlying117
  a167 := Tryz.isAgg117
  z167 := Tryz.sizeOf117
  v167 := Tryz.zeroValue117
  t168 := Tryz.underlying120
  a168 := Tryz.isAgg120
  z168 := Tryz.sizeOf120
  v168 := Tryz.zeroValue120
  t171 := Tryz.underlying98
  a171 := Tryz.isAgg98
  z171 := Tryz.sizeOf98
  v171 := Tryz.zeroValue98
  t173 := Tryz.underlying102
  a173 := Tryz.isAgg102
  z173 := Tryz.sizeOf102
  v173 := Tryz.zeroValue102
  t175 := Tryz.underlying124
  a175 := Tryz.isAgg124
  z175 := Tryz.sizeOf124
  v175 := Tryz.zeroValue124
  t210 := Tryz.underlying127
  a210 := Tryz.isAgg127
  z210 := Tryz.sizeOf127
  v210 := Tryz.zeroValue127
  t212 := Tryz.underlying113
  a212 := Tryz.isAgg113
  z212 := Tryz.sizeOf113
  v212 := Tryz.zeroValue113
  t213 := Tryz.underlying114
  a213 := Tryz.isAgg114
  z213 := Tryz.sizeOf114
  t232 := Tryz.underlying129
  a232 := Tryz.isAgg129
  z232 := Tryz.sizeOf129
  v232 := Tryz.zeroValue129
  t233 := Tryz.underlying130
  a233 := Tryz.isAgg130
  z233 := Tryz.sizeOf130
  v233 := Tryz.zeroValue130
  g15 := by kernel_rfl
  g16 := by kernel_rfl
  g17 := by kernel_rfl
  g18 := by kernel_rfl
  g19 := by kernel_rfl
  t80 := Tryz.underlying71
  a80 := Tryz.isAgg71
  z80 := Tryz.sizeOf71
  v80 := Tryz.zeroValue71
  i0 := by kernel_rfl
  i2 := by kernel_rfl
  i3 := by kernel_rfl
  i4 := by kernel_rfl
  i5 := by kernel_rfl
  i9 := by kernel_rfl
  i20 := by kernel_rfl
  i21 := by kernel_rfl
  i37 := by kernel_rfl
  i46 := by kernel_rfl
  i51 := by kernel_rfl
  i53 := by kernel_rfl
  i75 := by kernel_rfl
  i76 := by kernel_rfl
  i80 := by kernel_rfl
  i85 := by kernel_rfl
  i127 := by kernel_rfl
  i143 := by kernel_rfl
  i145 := by kernel_rfl
  i167 := by kernel_rfl
  i168 := by kernel_rfl
  i171 := by kernel_rfl
  i173 := by kernel_rfl
  i175 := by kernel_rfl
  i210 := by kernel_rfl
  i212 := by kernel_rfl
  i232 := by kernel_rfl
  i233 := by kernel_rfl
  m15 := by kernel_rfl
  m16 := by kernel_rfl
  m17 := by kernel_rfl
  m18 := by kernel_rfl
  m19 := by kernel_rfl
  c0 := by kernel_rfl
  c2 := by kernel_rfl
  c3 := by kernel_rfl
  c4 := by kernel_rfl
  c5 := by kernel_rfl
  c9 := by kernel_rfl
  c20 := by kernel_rfl
  c21 := by kernel_rfl
  c37 := by kernel_rfl
  c46 := by kernel_rfl
  c51 := by kernel_rfl
  c53 := by kernel_rfl
  c75 := by kernel_rfl
  c76 := by kernel_rfl
  c80 := by kernel_rfl
  c85 := by kernel_rfl
  c127 := by kernel_rfl
  c143 := by kernel_rfl
  c145 := by kernel_rfl
  c167 := by kernel_rfl
  c168 := by kernel_rfl
  c171 := by kernel_rfl
  c173 := by kernel_rfl
  c175 := by kernel_rfl
  c210 := by kernel_rfl
  c212 := by kernel_rfl
  c213 := by kernel_rfl
  c232 := by kernel_rfl
  c233 := by kernel_rfl }
open Go.RowKit in
theorem Tryz.strconv_Atoi_ok (s : ByteArray) (hmax : s.size ≤ 9223372036854775806) (v : Int) (h : Lib.atoiAll s.data.toList = .ok v) (w : World) :
    Calls Tryz.prog 86 #[.string s] w fun e w' => e = .returned (.tuple #[.int .i64 v, .nilIface]) ∧ (w' = w ∨ ∃ t, w' = Lib.bytesWorld w 5 t) := Any.strconv_Atoi_ok Tryz.laysC172 s hmax v h w
end Go.Proofs
/- The program's readers of a decimal number. -/
namespace Go.Proofs.YtndnplpmkkdieaaGreatDoor
open Go.RowKit
set_option maxRecDepth 100000

/-- What the readers want of the package's variables and the library's. -/
def Ready (u : TypeId) (ev : Value) (w : World) : Prop :=
  Lib.TabIs Tryz.prog w "internal/strconv.uint64pow10" .u64 Lib.pow10Tab ∧ (∃ tp p, w.var? Tryz.prog "strconv.ErrSyntax" = some #[.iface tp p]) ∧ (∃ tp p, w.var? Tryz.prog "strconv.ErrRange" = some #[.iface tp p]) ∧
  w.cell? ⟨1, 0, none⟩ = some (.iface u ev) ∧ 4 < w.heap.size ∧ 5 < w.heap.size ∧ 6 < w.heap.size ∧ 1 < w.heap.size
theorem gPow : Tryz.prog.globalNamed "internal/strconv.uint64pow10" = some 4 := by kernel_rfl
theorem gSyn : Tryz.prog.globalNamed "strconv.ErrSyntax" = some 5 := by kernel_rfl
theorem gRng : Tryz.prog.globalNamed "strconv.ErrRange" = some 6 := by kernel_rfl
theorem Ready.later {u : TypeId} {ev : Value} {w w' : World} (h : Ready u ev w) (hb : Below w.heap.size w w') : Ready u ev w' := by
  obtain ⟨h1, ⟨a, b, h2⟩, ⟨c, d, h3⟩, h4, l1, l2, l3, l4⟩ := h
  have hs := hb.size
  exact ⟨var?_below hb gPow l1 h1, ⟨a, b, var?_below hb gSyn l2 h2⟩, ⟨c, d, var?_below hb gRng l3 h3⟩, (hb.cell (p := ⟨1, 0, none⟩) l4).trans h4, by omega, by omega, by omega, by omega⟩

theorem implDigits_any (n : Int) (u : TypeId) (ev : Value) (w : World) (h0 : -9223372036854775808 ≤ n) (h1 : n ≤ 9223372036854775807) (hr : Ready u ev w) :
    Calls Tryz.prog 43 #[.int .i64 n] w fun e w' => e = .returned (.string ⟨(Lib.itoa n).toArray⟩) ∧ Below w.heap.size w w' := by
  have ht := hr.1
  clear hr
  go_enter Tryz.func43, Tryz.ntmps43
  go_wp2_with fail
  refine (Tryz.strconv_Itoa n h0 h1 _ ht).mono ?_
  rintro e w' ⟨rfl, k, os, rfl⟩
  go_wp2
  go_ret
  exact ⟨rfl, Lib.below_grow _ _ (Nat.le_refl _) _ _⟩

def endInt (en : Value) : Option Int → Ending
  | none => .panicked [{ v := en, recovered := false }]
  | some v => .returned (.int .i64 v)

theorem must_ok {lo hi v : Int} {l : List UInt8} (ha : Lib.atoiAll l = .ok v) : must lo hi l = if lo ≤ v ∧ v ≤ hi ∧ Lib.itoa v = l then some v else none := by unfold must; rw [ha]
theorem must_not {lo hi : Int} {l : List UInt8} (ha : ∀ v, Lib.atoiAll l ≠ .ok v) : must lo hi l = none := by
  unfold must
  cases h : Lib.atoiAll l with
  | ok v => exact absurd h (ha v)
  | _ => rfl
theorem atoi_bd {l : List UInt8} {v : Int} (h : Lib.atoiAll l = .ok v) : -9223372036854775808 ≤ v ∧ v ≤ 9223372036854775807 := by
  cases l with
  | nil => cases h
  | cons c r =>
    simp only [Lib.atoiAll] at h
    split at h
    · cases h
    · cases h
    · split at h
      · cases h
      · split at h
        · cases h
        · injection h with h
          split at h <;> omega

set_option maxHeartbeats 800000 in
theorem mustDigits_ok (s : ByteArray) (l : List UInt8) (lo hi v : Int) (u : TypeId) (ev : Value) (w : World) (hs : s.size ≤ 1048576) (hl : s.data.toList = l) (ha : Lib.atoiAll l = .ok v) (hr : Ready u ev w) :
    Calls Tryz.prog 79 #[.string s, .int .i64 lo, .int .i64 hi] w fun e w' => e = endInt (.iface u ev) (must lo hi l) ∧ Below w.heap.size w w' := by
  have A : Calls Tryz.prog 86 #[.string s] w fun e w' => e = .returned (.tuple #[.int .i64 v, .nilIface]) ∧ Below w.heap.size w w' :=
    (Tryz.strconv_Atoi_ok s (by omega) v (by rw [hl]; exact ha) w).mono fun e w' ⟨h1, h2⟩ => ⟨h1, by rcases h2 with rfl | ⟨t, rfl⟩; exact Below.refl _ _; exact Lib.bytesWorld_below _ _ _⟩
  have HM : Hid (must lo hi l = if lo ≤ v ∧ v ≤ hi ∧ Lib.itoa v = l then some v else none) := must_ok ha
  obtain ⟨b0, b1⟩ := atoi_bd ha
  have HL : Hid (s.data.toList = l) := hl
  clear hl ha
  go_enter Tryz.func79, Tryz.ntmps79
  go_wp2_with fail
  refine A.mono ?_
  clear A
  rintro e w1 ⟨rfl, hb1⟩
  have hr1 := hr.later hb1
  have hcell := hr1.2.2.2.1
  have hs1 := hb1.size
  have HR : Hid (Ready u ev w1) := hr1
  clear hr hr1
  by_cases h0 : lo ≤ v
  · by_cases h1 : v ≤ hi
    · go_wp2_with fail
      refine (implDigits_any v u ev w1 b0 b1 HR.out).mono ?_
      rintro e w2 ⟨rfl, hb2⟩
      have hcell2 := (HR.out.later hb2).2.2.2.1
      clear hcell
      by_cases hi' : Lib.itoa v = l
      · have HF : Hid (must lo hi l = some v) := by exact HM.out.trans (if_pos ⟨h0, h1, hi'⟩)
        have he : (⟨(Lib.itoa v).toArray⟩ : ByteArray) = s := by
          apply ByteArray.ext
          rw [hi', ← HL.out]
        rw [he]
        clear he hi' HM
        go_wp2
        go_ret
        exact ⟨by rw [HF.out]; rfl, hb1.trans (hb2.mono hs1)⟩
      · have HF : Hid (must lo hi l = none) := by exact HM.out.trans (if_neg fun h => hi' h.2.2)
        have hne : (Lib.itoa v == s.toList) = false := by rw [ByteArray.toList_eq, HL.out]; simpa using hi'
        clear hi' HM
        go_wp2
        exact ⟨rfl, by rw [HF.out]; rfl, hb1.trans (hb2.mono hs1)⟩
    · have HF : Hid (must lo hi l = none) := by exact HM.out.trans (if_neg fun h => h1 h.2.1)
      clear HM
      go_wp2_with fail
      exact ⟨rfl, by rw [HF.out]; rfl, hb1⟩
  · have HF : Hid (must lo hi l = none) := by exact HM.out.trans (if_neg fun h => h0 h.1)
    clear HM
    go_wp2_with fail
    exact ⟨rfl, by rw [HF.out]; rfl, hb1⟩

set_option maxHeartbeats 800000 in
theorem mustDigits_err (s : ByteArray) (lo hi v : Int) (u : TypeId) (ev : Value) (l : List UInt8) (w : World) (hr : Ready u ev w) (hm : must lo hi l = none)
    (A : Calls Tryz.prog 86 #[.string s] w fun e w' => ∃ N, e = .returned (.tuple #[.int .i64 v, .iface 120 (.pointer (some ⟨N, 0, none⟩))]) ∧ Below w.heap.size w w') :
    Calls Tryz.prog 79 #[.string s, .int .i64 lo, .int .i64 hi] w fun e w' => e = endInt (.iface u ev) (must lo hi l) ∧ Below w.heap.size w w' := by
  have HF : Hid (must lo hi l = none) := hm
  clear hm
  go_enter Tryz.func79, Tryz.ntmps79
  go_wp2_with fail
  refine A.mono ?_
  clear A
  rintro e w1 ⟨N, rfl, hb1⟩
  have hcell := (hr.later hb1).2.2.2.1
  clear hr
  go_wp2_with fail
  exact ⟨rfl, by rw [HF.out]; rfl, hb1⟩

theorem mustDigits_any (s : ByteArray) (lo hi : Int) (u : TypeId) (ev : Value) (w : World) (hs : s.size ≤ 1048576) (hr : Ready u ev w) :
    Calls Tryz.prog 79 #[.string s, .int .i64 lo, .int .i64 hi] w fun e w' => e = endInt (.iface u ev) (must lo hi s.data.toList) ∧ Below w.heap.size w w' := by
  obtain ⟨_, ⟨a, b, h2⟩, ⟨c, d, h3⟩, _⟩ := id hr
  rcases hA : Lib.atoiAll s.data.toList with v | _ | _
  · exact mustDigits_ok s _ lo hi v u ev w hs rfl hA hr
  · exact mustDigits_err s lo hi _ u ev _ w hr (must_not fun v h => by rw [hA] at h; cases h)
      ((Any.strconv_Atoi_syntax_var Tryz.laysC172 s (by omega) hA a b w h2).mono fun e w' ⟨N, h1, _, _, hb⟩ => ⟨N, h1, hb⟩)
  · exact mustDigits_err s lo hi _ u ev _ w hr (must_not fun v h => by rw [hA] at h; cases h)
      ((Any.strconv_Atoi_range_var Tryz.laysC172 s (by omega) hA c d w h3).mono fun e w' ⟨N, h1, _, _, hb⟩ => ⟨N, h1, hb⟩)
end Go.Proofs.YtndnplpmkkdieaaGreatDoor
