/- Texts of this claim, put together: part 14. -/
import Derived.Test.YtfekcckckmhioaaGreatDoorFnRowTextPack13
import Derived.Test.YtfekcckckmhioaaGreatDoorFnRowTextPack9
import Derived.WalkSmall
import Derived.Shelf.Strconv.Itoa3
import Derived.Test.YtfekcckckmhioaaGreatDoorProg
import Derived.Shelf.Strconv.ErrVarAll
import Derived.Shelf.Strconv.AtoiAll
/- The decimal digits of a number, by the specification's own loop. -/
namespace Go.Proofs.YtfekcckckmhioaaGreatDoor
open Go.RowKit
set_option maxRecDepth 100000

set_option maxHeartbeats 800000 in
theorem digits_neg (u0 : Nat) (w : World) (h0 : 0 < u0) (h1 : u0 ≤ 9223372036854775808) :
    Calls Tryz.prog 99 #[.int .i64 (-(u0 : Int))] w fun e w' => e = .returned (.string ⟨(45 :: ds u0).toArray⟩) ∧ Below w.heap.size w w' := by
  have ot := one_text
  have hz0 : (-(u0 : Int) == 0) = false := by simp; omega
  have hn0 : decide (-(u0 : Int) < 0) = true := by simp; omega
  go_enter Tryz.func99, Tryz.ntmps99
  go_wp2
  go_loopw [0, 4, 5] (fun n v _ wr => ∃ (u : Nat) (done : List UInt8), n = .int .i64 (-(u : Int)) ∧ u ≤ 9223372036854775808 ∧ v = .string ⟨done.toArray⟩ ∧ done.length ≤ 19 ∧ u < 10 ^ (19 - done.length) ∧ ds u ++ done = ds u0 ∧ Below w.heap.size w wr) (fun n _ _ _ => (-(intOf n)).toNat)
  case atStart => exact ⟨u0, [], rfl, h1, rfl, by simp, by simp; omega, by simp, Below.refl _ _⟩
  case round =>
    obtain ⟨u, done, rfl, hu, rfl, hlen, hdn, hE, hb⟩ := hrel
    have HE : Hid (ds u ++ done = ds u0) := hE
    have HD : Hid (u < 10 ^ (19 - done.length)) := hdn
    clear hE hdn
    by_cases hz : 0 < u
    · have hm : (-(u : Int)).tmod 10 = -((u % 10 : Nat) : Int) := by rw [Int.neg_tmod, Int.tmod_eq_emod_of_nonneg (by omega)]; omega
      have hq : (-(u : Int)).tdiv 10 = -((u / 10 : Nat) : Int) := by rw [Int.neg_tdiv, Int.tdiv_eq_ediv_of_nonneg (by omega)]; omega
      have hne : (-(u : Int) != 0) = true := by simp; omega
      by_cases hr : 0 < u % 10
      all_goals
        go_wp2
        go_roundw
        case rel =>
          obtain ⟨p1, p2⟩ := pow_step u done.length hz HD.out
          refine ⟨u / 10, UInt8.ofNat (48 + u % 10) :: done, by go_num, by omega, ?_, by simp; omega, by simpa using p2, ?_, ?_⟩
          · exact cat1 _ _ _ (by first | (simp; done) | (congr 1; omega))
          · rw [← HE.out, ds_pos u hz]; simp
          · exact hb.alloc hb.size _
        case measure => simp [intOf]; omega
    · obtain rfl : u = 0 := by omega
      go_wp2
      go_ret
      refine ⟨?_, hb⟩
      have hE := HE.out
      rw [ds_zero, List.nil_append] at hE
      rw [← hE]
      exact congrArg Ending.returned (cat1 45 45 done rfl)

set_option maxHeartbeats 800000 in
theorem digits_pos (u0 : Nat) (w : World) (h0 : 0 < u0) (h1 : u0 ≤ 9223372036854775807) :
    Calls Tryz.prog 99 #[.int .i64 ((u0 : Int))] w fun e w' => e = .returned (.string ⟨(ds u0).toArray⟩) ∧ Below w.heap.size w w' := by
  have ot := one_text
  have hz0 : ((u0 : Int) == 0) = false := by simp; omega
  have hn0 : decide ((u0 : Int) < 0) = false := by simp
  go_enter Tryz.func99, Tryz.ntmps99
  go_wp2
  go_loopw [0, 4, 5] (fun n v _ wr => ∃ (u : Nat) (done : List UInt8), n = .int .i64 (u : Int) ∧ u ≤ 9223372036854775807 ∧ v = .string ⟨done.toArray⟩ ∧ done.length ≤ 19 ∧ u < 10 ^ (19 - done.length) ∧ ds u ++ done = ds u0 ∧ Below w.heap.size w wr) (fun n _ _ _ => (intOf n).toNat)
  case atStart => exact ⟨u0, [], rfl, h1, rfl, by simp, by simp; omega, by simp, Below.refl _ _⟩
  case round =>
    obtain ⟨u, done, rfl, hu, rfl, hlen, hdn, hE, hb⟩ := hrel
    have HE : Hid (ds u ++ done = ds u0) := hE
    have HD : Hid (u < 10 ^ (19 - done.length)) := hdn
    clear hE hdn
    by_cases hz : 0 < u
    · have hne : ((u : Int) != 0) = true := by simp; omega
      all_goals
        go_wp2
        go_roundw
        case rel =>
          obtain ⟨p1, p2⟩ := pow_step u done.length hz HD.out
          refine ⟨u / 10, UInt8.ofNat (48 + u % 10) :: done, by go_num, by omega, ?_, by simp; omega, by simpa using p2, ?_, ?_⟩
          · exact cat1 _ _ _ (by first | (simp; done) | (congr 1; omega))
          · rw [← HE.out, ds_pos u hz]; simp
          · exact hb.alloc hb.size _
        case measure => simp [intOf]; omega
    · obtain rfl : u = 0 := by omega
      go_wp2
      go_ret
      refine ⟨?_, hb⟩
      have hE := HE.out
      rw [ds_zero, List.nil_append] at hE
      rw [← hE]
      rfl

/-- Whatever the number. -/
theorem digits_any (n : Int) (w : World) (h0 : -9223372036854775808 ≤ n) (h1 : n ≤ 9223372036854775807) :
    Calls Tryz.prog 99 #[.int .i64 n] w fun e w' => e = .returned (.string ⟨(Lib.itoa n).toArray⟩) ∧ Below w.heap.size w w' := by
  by_cases hn : n < 0
  · obtain ⟨u, rfl⟩ : ∃ u : Nat, n = -(u : Int) := ⟨n.natAbs, by omega⟩
    have e : Lib.itoa (-(u : Int)) = 45 :: ds u := by rw [Lib.itoa, if_pos hn, ds_of u (by omega)]; simp
    rw [e]
    exact digits_neg u w (by omega) (by omega)
  · obtain ⟨u, rfl⟩ := Int.eq_ofNat_of_zero_le (show 0 ≤ n by omega)
    by_cases hu : u = 0
    · subst hu
      have e : Lib.itoa ((0 : Nat) : Int) = [48] := by rw [Lib.itoa, if_neg hn]; rw [Lib.decDigits]; rfl
      rw [e]
      go_enter Tryz.func99, Tryz.ntmps99
      go_wp2
      go_ret
      exact ⟨rfl, Below.refl _ _⟩
    · have e : Lib.itoa (u : Int) = ds u := by rw [Lib.itoa, if_neg hn, ds_of u (by omega)]; simp
      rw [e]
      exact digits_pos u w (by omega) (by omega)
end Go.Proofs.YtfekcckckmhioaaGreatDoor
/- The specification's readers of a decimal number. -/
namespace Go.Proofs.YtfekcckckmhioaaGreatDoor
open Go.RowKit
set_option maxRecDepth 100000

def gotInt : Option Int → Value
  | none => .tuple #[.int .i64 0, .bool false]
  | some v => .tuple #[.int .i64 v, .bool true]

theorem decFrom_bad (l : List UInt8) (k : Nat) (b : UInt8) (hb : l[k]? = some b) (hd : b.toNat < 48 ∨ 57 < b.toNat) : Lib.decFrom 0 l = none := by
  cases h : Lib.decFrom 0 l with
  | none => rfl
  | some n =>
    obtain ⟨d, hdv⟩ := Lib.digit_of_decFrom l 0 n h k b hb
    obtain ⟨h1, h2, _⟩ := digitVal_inv hdv
    omega
theorem digitVal_ok (b : UInt8) (h1 : 48 ≤ b.toNat) (h2 : b.toNat ≤ 57) : Lib.digitVal b = some (b.toNat - 48) := by rw [Lib.digitVal, if_pos ⟨h1, h2⟩]

theorem numSpec_bad {l : List UInt8} (h : Lib.decFrom 0 l = none) : numSpec l = none := by unfold numSpec; rw [h]; simp
theorem numSpec_no {l : List UInt8} {v : Nat} (h : Lib.decFrom 0 l = some v) (hi : ¬ Lib.itoa v = l) : numSpec l = none := by unfold numSpec; rw [h]; simp [hi]
theorem numSpec_yes {l : List UInt8} {v : Nat} (h1 : 1 ≤ l.length) (h6 : l.length ≤ 6) (h : Lib.decFrom 0 l = some v) (hi : Lib.itoa v = l) : numSpec l = some (v : Int) := by unfold numSpec; rw [if_pos ⟨h1, h6⟩, h]; simp [hi]
theorem numSpec_len {l : List UInt8} (h : ¬ (1 ≤ l.length ∧ l.length ≤ 6)) : numSpec l = none := if_neg h

theorem sig_len {l : List UInt8} (h : ¬ (1 ≤ l.length ∧ l.length ≤ 5)) : sigSpec l = none := if_neg h
theorem sig_plain {l : List UInt8} (h : 1 ≤ l.length ∧ l.length ≤ 5) (hh : ¬ l.head? = some 45) (o : Option Int) (ho : numSpec l = o) : sigSpec l = o.bind fun v => if v ≤ 9999 then some v else none := by
  unfold sigSpec; rw [if_pos h, if_neg hh, ho]; cases o <;> rfl
theorem sig_minus {l : List UInt8} (h : 1 ≤ l.length ∧ l.length ≤ 5) (hh : l.head? = some 45) (o : Option Int) (ho : numSpec l.tail = o) : sigSpec l = o.bind fun v => if 1 ≤ v ∧ v ≤ 9999 then some (0 - v) else none := by
  unfold sigSpec; rw [if_pos h, if_pos hh, ho]; cases o <;> rfl
end Go.Proofs.YtfekcckckmhioaaGreatDoor
/- Contracts of the library that this seat calls, laid at its own numbers out of the kit. -/
namespace Go.Proofs
open Go.Shelf
def Tryz.laysM171_ren : Go.Shelf.Ren := ⟨fun | 171 => 95 | 243 => 109 | 246 => 117 | 283 => 123 | 284 => 124 | 285 => 125 | 286 => 126 | 129 => 135 | 317 => 134 | 318 => 136 | 319 => 137 | 320 => 138 | 337 => 146 | 338 => 147 | n => n, fun | 3 => 3 | 9 => 9 | 2 => 2 | 4 => 4 | 171 => 171 | 0 => 0 | 53 => 172 | 37 => 26 | 5 => 5 | 173 => 175 | 212 => 180 | 51 => 181 | 20 => 20 | 213 => 182 | 46 => 165 | 232 => 203 | 233 => 204 | n => n, fun | 17 => 3 | 18 => 8 | 19 => 9 | n => n⟩
theorem Tryz.laysM171 : Go.Proofs.LaysM.n171 Tryz.prog Tryz.laysM171_ren := {
  mixed := by kernel_rfl
  f129 := Tryz.func135.trans (congrArg some (by kernel_rfl))
  f171 := Tryz.func95.trans (congrArg some (by kernel_rfl))
  f243 := Tryz.func109.trans (congrArg some (by kernel_rfl))
  f246 := Tryz.func117.trans (congrArg some (by kernel_rfl))
  f283 := Tryz.func123.trans (congrArg some (by kernel_rfl))
  f284 := Tryz.func124.trans (congrArg some (by kernel_rfl))
  f285 := Tryz.func125.trans (congrArg some (by kernel_rfl))
  f286 := Tryz.func126.trans (congrArg some (by kernel_rfl))
  f317 := Tryz.func134.trans (congrArg some (by kernel_rfl))
  f318 := Tryz.func136.trans (congrArg some (by kernel_rfl))
  f319 := Tryz.func137.trans (congrArg some (by kernel_rfl))
  f320 := Tryz.func138.trans (congrArg some (by kernel_rfl))
  f337 := Tryz.func146.trans (congrArg some (by kernel_rfl))
  f338 := Tryz.func147.trans (congrArg some (by kernel_rfl))
  t0 := Tryz.underlying0
  a0 := Tryz.isAgg0
  z0 := Tryz.sizeOf0
  v0 := Tryz.zeroValue0
  t2 := Tryz.underlying2
  a2 := Tryz.isAgg2
  z2 := Tryz.sizeOf2
  v2 := Tryz.zeroValue2
  t3 := Tryz.underlying3
  a3 := Tryz.isAgg3
  z3 := Tryz.sizeOf3
  v3 := Tryz.zeroValue3
  t4 := Tryz.underlying4
  a4 := Tryz.isAgg4
  z4 := Tryz.sizeOf4
  v4 := Tryz.zeroValue4
  t5 := Tryz.underlying5
  a5 := Tryz.isAgg5
  z5 := Tryz.sizeOf5
  v5 := Tryz.zeroValue5
  t9 := Tryz.underlying9
  a9 := Tryz.isAgg9
  z9 := Tryz.sizeOf9
  v9 := Tryz.zeroValue9
  t20 := Tryz.underlying20
  a20 := Tryz.isAgg20
  z20 := Tryz.sizeOf20
  v20 := Tryz.zeroValue20
  t37 := Tryz.underlying26
  a37 := Tryz.isAgg26
  z37 := Tryz.sizeOf26
  v37 := Tryz.zeroValue26
  t46 := Tryz.underlying165
  a46 := Tryz.isAgg165
  z46 := Tryz.sizeOf165
  v46 := Tryz.zeroValue165
  t51 := Tryz.underlying181
  a51 := Tryz.isAgg181
  z51 := Tryz.sizeOf181
  v51 := Tryz.zeroValue181
  t53 := Tryz.underlying172
  a53 := Tryz.isAgg172
  z53 := Tryz.sizeOf172
  v53 := Tryz.zeroValue172
  t171 := Tryz.underlying171
  a171 := Tryz.isAgg171
  z171 := Tryz.sizeOf171
  v171 := Tryz.zeroValue171
  t173 := Tryz.underlying175
  a173 := Tryz.isAgg175
  z173 := Tryz.sizeOf175
  v173 := Tryz.zeroValue175
  t212 := Tryz.underlying180
  a212 := Tryz.isAgg180
  z212 := Tryz.sizeOf180
  v212 := Tryz.zeroValue180
  t213 := Tryz.underlying182
  a213 := Tryz.isAgg182
  z213 := Tryz.sizeOf182
  t232 := Tryz.underlying203
  a232 := Tryz.isAgg203
  z232 := Tryz.sizeOf203
  v232 := Tryz.zeroValue203
  t233 := Tryz.underlying204
  a233 := Tryz.isAgg204
  z233 := Tryz.sizeOf204
  v233 := Tryz.zeroValue204
  g17 := by kernel_rfl
  g18 := by kernel_rfl
  g19 := by kernel_rfl
  i0 := by kernel_rfl
  i2 := by kernel_rfl
  i3 := by kernel_rfl
  i4 := by kernel_rfl
  i5 := by kernel_rfl
  i9 := by kernel_rfl
  i20 := by kernel_rfl
  i37 := by kernel_rfl
  i46 := by kernel_rfl
  i51 := by kernel_rfl
  i53 := by kernel_rfl
  i171 := by kernel_rfl
  i173 := by kernel_rfl
  i212 := by kernel_rfl
  i232 := by kernel_rfl
  i233 := by kernel_rfl
  m17 := by kernel_rfl
  m18 := by kernel_rfl
  m19 := by kernel_rfl }
open Go.RowKit Go.Sort Go.Lib in
theorem Tryz.strconv_Itoa (n : Int) (h0 : -9223372036854775808 ≤ n) (h1 : n ≤ 9223372036854775807) (w : World) (htab : Lib.TabIs Tryz.prog w "internal/strconv.uint64pow10" .u64 Lib.pow10Tab) :
    Calls Tryz.prog 95 #[.int .i64 n] w fun e w' => e = .returned (.string ⟨(Lib.itoa n).toArray⟩) ∧ ∃ k os, w' = grow (w.drewN k) os := Any.strconv_Itoa Tryz.laysM171 n h0 h1 w htab
end Go.Proofs
/- Contracts of the library that this seat calls, laid at its own numbers out of the kit. -/
namespace Go.Proofs
open Go.Shelf
def Tryz.laysC172_ren : Go.Shelf.Ren := ⟨fun | 172 => 122 | 244 => 132 | 245 => 133 | 247 => 141 | 279 => 142 | 280 => 143 | 281 => 144 | 282 => 145 | 287 => 148 | 316 => 98 | 171 => 95 | 205 => 149 | 321 => 150 | 322 => 151 | 243 => 109 | 246 => 117 | 283 => 123 | 284 => 124 | 285 => 125 | 286 => 126 | 129 => 135 | 317 => 134 | 318 => 136 | 319 => 137 | 320 => 138 | 337 => 146 | 338 => 147 | n => n, fun | 9 => 9 | 3 => 3 | 75 => 62 | 76 => 112 | 4 => 4 | 5 => 5 | 167 => 191 | 37 => 26 | 0 => 0 | 85 => 192 | 2 => 2 | 168 => 194 | 53 => 172 | 175 => 198 | 46 => 165 | 210 => 201 | 127 => 141 | 145 => 208 | 143 => 206 | 21 => 21 | 171 => 171 | 173 => 175 | 212 => 180 | 51 => 181 | 20 => 20 | 213 => 182 | 232 => 203 | 233 => 204 | 80 => 114 | n => n, fun | 15 => 6 | 16 => 7 | 17 => 3 | 18 => 8 | 19 => 9 | n => n⟩
theorem Tryz.laysC172 : Go.Proofs.LaysC.n172 Tryz.prog Tryz.laysC172_ren := {
  mixed := by kernel_rfl
  f129 := Tryz.func135.trans (congrArg some (by kernel_rfl))
  f171 := Tryz.func95.trans (congrArg some (by kernel_rfl))
  f172 := Tryz.func122.trans (congrArg some (by kernel_rfl))
  f205 := Tryz.func149.trans (congrArg some (by kernel_rfl))
  f243 := Tryz.func109.trans (congrArg some (by kernel_rfl))
  f244 := Tryz.func132.trans (congrArg some (by kernel_rfl))
  f245 := Tryz.func133.trans (congrArg some (by kernel_rfl))
  f246 := Tryz.func117.trans (congrArg some (by kernel_rfl))
  f247 := Tryz.func141.trans (congrArg some (by kernel_rfl))
  f279 := Tryz.func142.trans (congrArg some (by kernel_rfl))
  f280 := Tryz.func143.trans (congrArg some (by kernel_rfl))
  f281 := Tryz.func144.trans (congrArg some (by kernel_rfl))
  f282 := Tryz.func145.trans (congrArg some (by kernel_rfl))
  f283 := Tryz.func123.trans (congrArg some (by kernel_rfl))
  f284 := Tryz.func124.trans (congrArg some (by kernel_rfl))
  f285 := Tryz.func125.trans (congrArg some (by kernel_rfl))
  f286 := Tryz.func126.trans (congrArg some (by kernel_rfl))
  f287 := Tryz.func148.trans (congrArg some (by kernel_rfl))
  f316 := Tryz.func98.trans (congrArg some (by kernel_rfl))
  f317 := Tryz.func134.trans (congrArg some (by kernel_rfl))
  f318 := Tryz.func136.trans (congrArg some (by kernel_rfl))
  f319 := Tryz.func137.trans (congrArg some (by kernel_rfl))
  f320 := Tryz.func138.trans (congrArg some (by kernel_rfl))
  f321 := Tryz.func150.trans (congrArg some (by kernel_rfl))
  f322 := Tryz.func151.trans (congrArg some (by kernel_rfl))
  f337 := Tryz.func146.trans (congrArg some (by kernel_rfl))
  f338 := Tryz.func147.trans (congrArg some (by kernel_rfl))
  t0 := Tryz.underlying0
  a0 := Tryz.isAgg0
  z0 := Tryz.sizeOf0
  v0 := Tryz.zeroValue0
  t2 := Tryz.underlying2
  a2 := Tryz.isAgg2
  z2 := Tryz.sizeOf2
  v2 := Tryz.zeroValue2
  t3 := Tryz.underlying3
  a3 := Tryz.isAgg3
  z3 := Tryz.sizeOf3
  v3 := Tryz.zeroValue3
  t4 := Tryz.underlying4
  a4 := Tryz.isAgg4
  z4 := Tryz.sizeOf4
  v4 := Tryz.zeroValue4
  t5 := Tryz.underlying5
  a5 := Tryz.isAgg5
  z5 := Tryz.sizeOf5
  v5 := Tryz.zeroValue5
  t9 := Tryz.underlying9
  a9 := Tryz.isAgg9
  z9 := Tryz.sizeOf9
  v9 := Tryz.zeroValue9
  t20 := Tryz.underlying20
  a20 := Tryz.isAgg20
  z20 := Tryz.sizeOf20
  v20 := Tryz.zeroValue20
  t21 := Tryz.underlying21
  a21 := Tryz.isAgg21
  z21 := Tryz.sizeOf21
  v21 := Tryz.zeroValue21
  t37 := Tryz.underlying26
  a37 := Tryz.isAgg26
  z37 := Tryz.sizeOf26
  v37 := Tryz.zeroValue26
  t46 := Tryz.underlying165
  a46 := Tryz.isAgg165
  z46 := Tryz.sizeOf165
  v46 := Tryz.zeroValue165
  t51 := Tryz.underlying181
  a51 := Tryz.isAgg181
  z51 := Tryz.sizeOf181
  v51 := Tryz.zeroValue181
  t53 := Tryz.underlying172
  a53 := Tryz.isAgg172
  z53 := Tryz.sizeOf172
  v53 := Tryz.zeroValue172
  t75 := Tryz.underlying62
  a75 := Tryz.isAgg62
  z75 := Tryz.sizeOf62
  v75 := Tryz.zeroValue62
  t76 := Tryz.underlying112
  a76 := Tryz.isAgg112
  z76 := Tryz.sizeOf112
  v76 := Tryz.zeroValue112
  t85 := Tryz.underlying192
  a85 := Tryz.isAgg192
  z85 := Tryz.sizeOf192
  v85 := Tryz.zeroValue192
  t127 := Tryz.underlying141
  a127 := Tryz.isAgg141
  z127 := Tryz.sizeOf141
  v127 := Tryz.zeroValue141
  t143 := Tryz.underlying206
  a143 := Tryz.isAgg206
  z143 := Tryz.sizeOf206
  v143 := Tryz.zeroValue206
  t145 := Tryz.underlying208
  a145 := Tryz.isAgg208
  z145 := Tryz.sizeOf208
  v145 := Tryz.zeroValue208
  t167 := Tryz.underlying191
  a167 := Tryz.isAgg191
  z167 := Tryz.sizeOf191
  v167 := Tryz.zeroValue191
  t168 := Tryz.underlying194
  a168 := Tryz.isAgg194
  z168 := Tryz.sizeOf194
  v168 := Tryz.zeroValue194
  t171 := Tryz.underlying171
  a171 := Tryz.isAgg171
  z171 := Tryz.sizeOf171
  v171 := Tryz.zeroValue171
  t173 := Tryz.underlying175
  a173 := Tryz.isAgg175
  z173 := Tryz.sizeOf175
  v173 := Tryz.zeroValue175
  t175 := Tryz.underlying198
  a175 := Tryz.isAgg198
  z175 := Tryz.sizeOf198
  v175 := Tryz.zeroValue198
  t210 := Tryz.underlying201
  a210 := Tryz.isAgg201
  z210 := Tryz.sizeOf201
  v210 := Tryz.zeroValue201
  t212 := Tryz.underlying180
  a212 := Tryz.isAgg180
  z212 := Tryz.sizeOf180
  v212 := Tryz.zeroValue180
  t213 := Tryz.underlying182
  a213 := Tryz.isAgg182
  z213 := Tryz.sizeOf182
  t232 := Tryz.underlying203
  a232 := Tryz.isAgg203
  z232 := Tryz.sizeOf203
  v232 := Tryz.zeroValue203
  t233 := Tryz.underlying204
  a233 := Tryz.isAgg204
  z233 := Tryz.sizeOf204
  v233 := Tryz.zeroValue204
  g15 := by kernel_rfl
  g16 := by kernel_rfl
  g17 := by kernel_rfl
  g18 := by kernel_rfl
  g19 := by kernel_rfl
  t80 := Tryz.underlying114
  a80 := Tryz.isAgg114
  z80 := Tryz.sizeOf114
  v80 := Tryz.zeroValue114
  i0 := by kernel_rfl
  i2 := by kernel_rfl
  i3 := by kernel_rfl
  i4 := by kernel_rfl
  i5 := by kernel_rfl
  i9 := by kernel_rfl
  i20 := by kernel_rfl
  i21 := by kernel_rfl
  i37 := by kernel_rfl
  i46 := by kernel_rfl
  i51 := by kernel_rfl
  i53 := by kernel_rfl
  i75 := by kernel_rfl
  i76 := by kernel_rfl
  i80 := by kernel_rfl
  i85 := by kernel_rfl
  i127 := by kernel_rfl
  i143 := by kernel_rfl
  i145 := by kernel_rfl
  i167 := by kernel_rfl
  i168 := by kernel_rfl
  i171 := by kernel_rfl
  i173 := by kernel_rfl
  i175 := by kernel_rfl
  i210 := by kernel_rfl
  i212 := by kernel_rfl
  i232 := by kernel_rfl
  i233 := by kernel_rfl
  m15 := by kernel_rfl
  m16 := by kernel_rfl
  m17 := by kernel_rfl
  m18 := by kernel_rfl
  m19 := by kernel_rfl
  c0 := by kernel_rfl
  c2 := by kernel_rfl
  c3 := by kernel_rfl
  c4 := by kernel_rfl
  c5 := by kernel_rfl
  c9 := by kernel_rfl
  c20 := by kernel_rfl
  c21 := by kernel_rfl
  c37 := by kernel_rfl
  c46 := by kernel_rfl
  c51 := by kernel_rfl
  c53 := by kernel_rfl
  c75 := by kernel_rfl
  c76 := by kernel_rfl
  c80 := by kernel_rfl
  c85 := by kernel_rfl
  c127 := by kernel_rfl
  c143 := by kernel_rfl
  c145 := by kernel_rfl
  c167 := by kernel_rfl
  c168 := by kernel_rfl
  c171 := by kernel_rfl
  c173 := by kernel_rfl
  c175 := by kernel_rfl
  c210 := by kernel_rfl
  c212 := by kernel_rfl
  c213 := by kernel_rfl
  c232 := by kernel_rfl
  c233 := by kernel_rfl }
open Go.RowKit in
theorem Tryz.strconv_Atoi_ok (s : ByteArray) (hmax : s.size ≤ 9223372036854775806) (v : Int) (h : Lib.atoiAll s.data.toList = .ok v) (w : World) :
    Calls Tryz.prog 122 #[.string s] w fun e w' => e = .returned (.tuple #[.int .i64 v, .nilIface]) ∧ (w' = w ∨ ∃ t, w' = Lib.bytesWorld w 5 t) := Any.strconv_Atoi_ok Tryz.laysC172 s hmax v h w
end Go.Proofs
