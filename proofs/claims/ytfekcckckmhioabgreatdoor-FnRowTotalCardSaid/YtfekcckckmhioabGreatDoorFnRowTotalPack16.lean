/- Texts of this claim, put together: part 16. -/
import Derived.Test.YtfekcckckmhioabGreatDoorFnRowTotalPack1
import Derived.Test.YtfekcckckmhioabGreatDoorFnRowTotalPack9
import Derived.Test.YtfekcckckmhioabGreatDoorFnRowTotalPack3
import Derived.Test.YtfekcckckmhioabGreatDoorFnRowTotalPack13
import Derived.WalkSmall
import Derived.Shelf.Strconv.Itoa3
import Derived.Test.YtfekcckckmhioabGreatDoorProg
/- A list of texts that a function is handed; whether it holds a text. -/
namespace Go.Proofs.YtfekcckckmhioabGreatDoor
open Go.RowKit
set_option maxRecDepth 100000
set_option maxHeartbeats 400000 in
theorem index_any (v : Value) (ss : List ByteArray) (t : ByteArray) (w : World) (h : RowS w v ss) (hn : ss.length ≤ 1099511627776) :
    Calls Tryz.prog 54 #[v, .string t] w fun e w' => ∃ i : Int, e = .returned (.int .i64 i) ∧ (decide (0 ≤ i) = hasT ss t) ∧ Below w.heap.size w w' := by
  obtain ⟨oa, cap, rfl, hc, hr⟩ := h
  have HR : Hid (0 < ss.length → ∃ g o, oa = some ⟨g, o, none⟩ ∧ g < w.heap.size ∧ ∀ j, j < ss.length → w.cell? ⟨g, o + j, none⟩ = some (.string (tx ss j))) := hr
  clear hr
  go_enter Tryz.func54, Tryz.ntmps54
  go_wp2
  go_loopw [8] (fun i wr => ∃ k : Nat, i = .int .i64 k ∧ k ≤ ss.length ∧ (∀ j, j < k → t ≠ tx ss j) ∧ Below w.heap.size w wr) (fun i _ => ss.length - (intOf i).toNat)
  case atStart => exact ⟨0, rfl, by omega, by omega, Below.refl _ _⟩
  case round =>
    obtain ⟨k, rfl, hk, hne, hb⟩ := hrel
    have HN : Hid (∀ j, j < k → t ≠ tx ss j) := hne
    clear hne
    by_cases hlt : k < ss.length
    · obtain ⟨g, o, rfl, hg, hj⟩ := HR.out (by omega)
      have hcell : wr.cell? ⟨g, o + k, none⟩ = some (.string (tx ss k)) := (hb.cell (p := ⟨g, o + k, none⟩) hg).trans (hj k hlt)
      clear hj
      by_cases he : t = tx ss k
      · have HM : Hid (hasT ss t = true) := hasT_yes hlt he
        have hq : (t.toList == (tx ss k).toList) = true := by rw [← he]; simp
        generalize tx ss k = u at hcell hq he
        clear he
        go_wp2
        go_ret
        exact ⟨_, rfl, by rw [HM.out]; simp, hb⟩
      · have hq : (t.toList == (tx ss k).toList) = false := by
          rw [beq_eq_false_iff_ne]; exact fun h => he (bytes_eq_iff.1 h)
        have HE : Hid (t ≠ tx ss k) := he
        clear he
        generalize hu : tx ss k = u at hcell hq
        clear hu
        go_wp2
        go_roundw
        case rel =>
          refine ⟨k + 1, by go_num, by omega, ?_, hb⟩
          intro j hj
          by_cases e : j = k
          · subst e; exact HE.out
          · exact HN.out j (by omega)
        case measure => simp [intOf]; omega
    · have HM : Hid (hasT ss t = false) := hasT_no fun j hj => HN.out j (by omega)
      go_wp2
      go_ret
      exact ⟨_, rfl, by rw [HM.out]; simp, hb⟩

theorem contains_any (v : Value) (ss : List ByteArray) (t : ByteArray) (w : World) (h : RowS w v ss) (hn : ss.length ≤ 1099511627776) :
    Calls Tryz.prog 36 #[v, .string t] w fun e w' => e = .returned (.bool (hasT ss t)) ∧ Below w.heap.size w w' := by
  have c := index_any v ss t w h hn
  generalize hasT ss t = G at c
  clear h hn
  go_enter Tryz.func36, Tryz.ntmps36
  go_wp2_with fail
  refine c.mono ?_
  rintro e w1 ⟨i, rfl, hi, hb⟩
  clear c
  subst hi
  go_wp2
  go_ret
  exact ⟨rfl, hb⟩
end Go.Proofs.YtfekcckckmhioabGreatDoor
/- The place of a word among those that may be chosen, by the program. -/
namespace Go.Proofs.YtfekcckckmhioabGreatDoor
open Go.RowKit
set_option maxRecDepth 100000
set_option linter.unusedSimpArgs false
set_option maxHeartbeats 400000 in
theorem index_place (v : Value) (ss : List ByteArray) (t : ByteArray) (w : World) (h : RowS w v ss) (hn : ss.length ≤ 1099511627776) :
    Calls Tryz.prog 54 #[v, .string t] w fun e w' => e = .returned (.int .i64 (placeT ss t)) ∧ Below w.heap.size w w' := by
  obtain ⟨oa, cap, rfl, hc, hr⟩ := h
  have HR : Hid (0 < ss.length → ∃ g o, oa = some ⟨g, o, none⟩ ∧ g < w.heap.size ∧ ∀ j, j < ss.length → w.cell? ⟨g, o + j, none⟩ = some (.string (tx ss j))) := hr
  clear hr
  go_enter Tryz.func54, Tryz.ntmps54
  go_wp2
  go_loopw [8] (fun i wr => ∃ k : Nat, i = .int .i64 k ∧ k ≤ ss.length ∧ Hid (placeT ss t = placeFrom ss t k (ss.length - k)) ∧ Below w.heap.size w wr) (fun i _ => ss.length - (intOf i).toNat)
  case atStart => exact ⟨0, rfl, by omega, rfl, Below.refl _ _⟩
  case round =>
    obtain ⟨k, rfl, hk, HP, hb⟩ := hrel
    by_cases hlt : k < ss.length
    · obtain ⟨g, o, rfl, hg, hj⟩ := HR.out (by omega)
      have hcell : wr.cell? ⟨g, o + k, none⟩ = some (.string (tx ss k)) := (hb.cell (p := ⟨g, o + k, none⟩) hg).trans (hj k hlt)
      clear hj
      by_cases he : tx ss k = t
      · have HM : Hid (placeT ss t = (k : Int)) := by rw [HP.out, placeFrom_step hlt, if_pos he]; rfl
        have hq : (t.toList == (tx ss k).toList) = true := by rw [← he]; simp
        generalize tx ss k = u at hcell hq he
        clear he
        go_wp2
        go_ret
        exact ⟨by rw [HM.out]; rfl, hb⟩
      · have hq : (t.toList == (tx ss k).toList) = false := by
          rw [beq_eq_false_iff_ne]; exact fun h => he (bytes_eq_iff.1 h).symm
        have HM : Hid (placeT ss t = placeFrom ss t (k + 1) (ss.length - (k + 1))) := by rw [HP.out, placeFrom_step hlt, if_neg he]; rfl
        clear he
        generalize hu : tx ss k = u at hcell hq
        clear hu
        go_wp2
        go_roundw
        case rel => exact ⟨k + 1, by go_num, by omega, HM, hb⟩
        case measure => simp [intOf]; omega
    · have HM : Hid (placeT ss t = -1) := by rw [HP.out, show ss.length - k = 0 by omega]; rfl
      go_wp2
      go_ret
      exact ⟨by rw [HM.out]; rfl, hb⟩
theorem placeOk_any (p m : Int) (w : World) :
    Calls Tryz.prog 16 #[.int .i64 p, .int .i64 m] w fun e w' => e = .returned (.bool (decide (-1 ≤ p ∧ p ≤ m - 1))) ∧ w' = w := by
  by_cases h1 : -1 ≤ p
  · by_cases h2 : p < m
    · rw [decide_eq_true (show -1 ≤ p ∧ p ≤ m - 1 by omega)]
      go_enter Tryz.func16, Tryz.ntmps16
      go_wp2
      go_ret
      simp [h1, h2]
    · rw [decide_eq_false (show ¬ (-1 ≤ p ∧ p ≤ m - 1) by omega)]
      go_enter Tryz.func16, Tryz.ntmps16
      go_wp2
      go_ret
      simp [h1, h2]
  · rw [decide_eq_false (show ¬ (-1 ≤ p ∧ p ≤ m - 1) by omega)]
    go_enter Tryz.func16, Tryz.ntmps16
    go_wp2
    go_ret
    simp [h1]
end Go.Proofs.YtfekcckckmhioabGreatDoor
/- The specification's readers of a decimal number. -/
namespace Go.Proofs.YtfekcckckmhioabGreatDoor
open Go.RowKit
set_option maxRecDepth 100000

def gotInt : Option Int → Value
  | none => .tuple #[.int .i64 0, .bool false]
  | some v => .tuple #[.int .i64 v, .bool true]

theorem decFrom_bad (l : List UInt8) (k : Nat) (b : UInt8) (hb : l[k]? = some b) (hd : b.toNat < 48 ∨ 57 < b.toNat) : Lib.decFrom 0 l = none := by
  cases h : Lib.decFrom 0 l with
  | none => rfl
  | some n =>
    obtain ⟨d, hdv⟩ := Lib.digit_of_decFrom l 0 n h k b hb
    obtain ⟨h1, h2, _⟩ := digitVal_inv hdv
    omega
theorem digitVal_ok (b : UInt8) (h1 : 48 ≤ b.toNat) (h2 : b.toNat ≤ 57) : Lib.digitVal b = some (b.toNat - 48) := by rw [Lib.digitVal, if_pos ⟨h1, h2⟩]

theorem numSpec_bad {l : List UInt8} (h : Lib.decFrom 0 l = none) : numSpec l = none := by unfold numSpec; rw [h]; simp
theorem numSpec_no {l : List UInt8} {v : Nat} (h : Lib.decFrom 0 l = some v) (hi : ¬ Lib.itoa v = l) : numSpec l = none := by unfold numSpec; rw [h]; simp [hi]
theorem numSpec_yes {l : List UInt8} {v : Nat} (h1 : 1 ≤ l.length) (h6 : l.length ≤ 6) (h : Lib.decFrom 0 l = some v) (hi : Lib.itoa v = l) : numSpec l = some (v : Int) := by unfold numSpec; rw [if_pos ⟨h1, h6⟩, h]; simp [hi]
theorem numSpec_len {l : List UInt8} (h : ¬ (1 ≤ l.length ∧ l.length ≤ 6)) : numSpec l = none := if_neg h

theorem sig_len {l : List UInt8} (h : ¬ (1 ≤ l.length ∧ l.length ≤ 5)) : sigSpec l = none := if_neg h
theorem sig_plain {l : List UInt8} (h : 1 ≤ l.length ∧ l.length ≤ 5) (hh : ¬ l.head? = some 45) (o : Option Int) (ho : numSpec l = o) : sigSpec l = o.bind fun v => if v ≤ 9999 then some v else none := by
  unfold sigSpec; rw [if_pos h, if_neg hh, ho]; cases o <;> rfl
theorem sig_minus {l : List UInt8} (h : 1 ≤ l.length ∧ l.length ≤ 5) (hh : l.head? = some 45) (o : Option Int) (ho : numSpec l.tail = o) : sigSpec l = o.bind fun v => if 1 ≤ v ∧ v ≤ 9999 then some (0 - v) else none := by
  unfold sigSpec; rw [if_pos h, if_pos hh, ho]; cases o <;> rfl
end Go.Proofs.YtfekcckckmhioabGreatDoor
/- Contracts of the library that this seat calls, laid at its own numbers out of the kit. -/
namespace Go.Proofs
open Go.Shelf
def Tryz.laysM171_ren : Go.Shelf.Ren := ⟨fun | 171 => 61 | 243 => 72 | 246 => 80 | 283 => 86 | 284 => 87 | 285 => 88 | 286 => 89 | 129 => 98 | 317 => 97 | 318 => 99 | 319 => 100 | 320 => 101 | 337 => 109 | 338 => 110 | n => n, fun | 3 => 3 | 9 => 9 | 2 => 2 | 4 => 4 | 171 => 146 | 0 => 0 | 53 => 147 | 37 => 22 | 5 => 5 | 173 => 150 | 212 => 155 | 51 => 156 | 20 => 20 | 213 => 157 | 46 => 118 | 232 => 178 | 233 => 179 | n => n, fun | 17 => 3 | 18 => 8 | 19 => 9 | n => n⟩
theorem Tryz.laysM171 : Go.Proofs.LaysM.n171 Tryz.prog Tryz.laysM171_ren := {
  mixed := by kernel_rfl
  f129 := Tryz.func98.trans (congrArg some (by kernel_rfl))
  f171 := Tryz.func61.trans (congrArg some (by kernel_rfl))
  f243 := Tryz.func72.trans (congrArg some (by kernel_rfl))
  f246 := Tryz.func80.trans (congrArg some (by kernel_rfl))
  f283 := Tryz.func86.trans (congrArg some (by kernel_rfl))
  f284 := Tryz.func87.trans (congrArg some (by kernel_rfl))
  f285 := Tryz.func88.trans (congrArg some (by kernel_rfl))
  f286 := Tryz.func89.trans (congrArg some (by kernel_rfl))
  f317 := Tryz.func97.trans (congrArg some (by kernel_rfl))
  f318 := Tryz.func99.trans (congrArg some (by kernel_rfl))
  f319 := Tryz.func100.trans (congrArg some (by kernel_rfl))
  f320 := Tryz.func101.trans (congrArg some (by kernel_rfl))
  f337 := Tryz.func109.trans (congrArg some (by kernel_rfl))
  f338 := Tryz.func110.trans (congrArg some (by kernel_rfl))
  t0 := Tryz.underlying0
  a0 := Tryz.isAgg0
  z0 := Tryz.sizeOf0
  v0 := Tryz.zeroValue0
  t2 := Tryz.underlying2
  a2 := Tryz.isAgg2
  z2 := Tryz.sizeOf2
  v2 := Tryz.zeroValue2
  t3 := Tryz.underlying3
  a3 := Tryz.isAgg3
  z3 := Tryz.sizeOf3
  v3 := Tryz.zeroValue3
  t4 := Tryz.underlying4
  a4 := Tryz.isAgg4
  z4 := Tryz.sizeOf4
  v4 := Tryz.zeroValue4
  t5 := Tryz.underlying5
  a5 := Tryz.isAgg5
  z5 := Tryz.sizeOf5
  v5 := Tryz.zeroValue5
  t9 := Tryz.underlying9
  a9 := Tryz.isAgg9
  z9 := Tryz.sizeOf9
  v9 := Tryz.zeroValue9
  t20 := Tryz.underlying20
  a20 := Tryz.isAgg20
  z20 := Tryz.sizeOf20
  v20 := Tryz.zeroValue20
  t37 := Tryz.underlying22
  a37 := Tryz.isAgg22
  z37 := Tryz.sizeOf22
  v37 := Tryz.zeroValue22
  t46 := Tryz.underlying118
  a46 := Tryz.isAgg118
  z46 := Tryz.sizeOf118
  v46 := Tryz.zeroValue118
  t51 := Tryz.underlying156
  a51 := Tryz.isAgg156
  z51 := Tryz.sizeOf156
  v51 := Tryz.zeroValue156
  t53 := Tryz.underlying147
  a53 := Tryz.isAgg147
  z53 := Tryz.sizeOf147
  v53 := Tryz.zeroValue147
  t171 := Tryz.underlying146
  a171 := Tryz.isAgg146
  z171 := Tryz.sizeOf146
  v171 := Tryz.zeroValue146
  t173 := Tryz.underlying150
  a173 := Tryz.isAgg150
  z173 := Tryz.sizeOf150
  v173 := Tryz.zeroValue150
  t212 := Tryz.underlying155
  a212 := Tryz.isAgg155
  z212 := Tryz.sizeOf155
  v212 := Tryz.zeroValue155
  t213 := Tryz.underlying157
  a213 := Tryz.isAgg157
  z213 := Tryz.sizeOf157
  t232 := Tryz.underlying178
  a232 := Tryz.isAgg178
  z232 := Tryz.sizeOf178
  v232 := Tryz.zeroValue178
  t233 := Tryz.underlying179
  a233 := Tryz.isAgg179
  z233 := Tryz.sizeOf179
  v233 := Tryz.zeroValue179
  g17 := by kernel_rfl
  g18 := by kernel_rfl
  g19 := by kernel_rfl
  i0 := by kernel_rfl
  i2 := by kernel_rfl
  i3 := by kernel_rfl
  i4 := by kernel_rfl
  i5 := by kernel_rfl
  i9 := by kernel_rfl
  i20 := by kernel_rfl
  i37 := by kernel_rfl
  i46 := by kernel_rfl
  i51 := by kernel_rfl
  i53 := by kernel_rfl
  i171 := by kernel_rfl
  i173 := by kernel_rfl
  i212 := by kernel_rfl
  i232 := by kernel_rfl
  i233 := by kernel_rfl
  m17 := by kernel_rfl
  m18 := by kernel_rfl
  m19 := by kernel_rfl }
open Go.RowKit Go.Sort Go.Lib in
theorem Tryz.strconv_Itoa (n : Int) (h0 : -9223372036854775808 ≤ n) (h1 : n ≤ 9223372036854775807) (w : World) (htab : Lib.TabIs Tryz.prog w "internal/strconv.uint64pow10" .u64 Lib.pow10Tab) :
    Calls Tryz.prog 61 #[.int .i64 n] w fun e w' => e = .returned (.string ⟨(Lib.itoa n).toArray⟩) ∧ ∃ k os, w' = grow (w.drewN k) os := Any.strconv_Itoa Tryz.laysM171 n h0 h1 w htab
end Go.Proofs
