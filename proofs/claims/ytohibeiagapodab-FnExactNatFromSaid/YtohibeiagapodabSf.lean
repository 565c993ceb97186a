/- The specification's great number of a text. -/
import Derived.Test.YtohibeiagapodabSu
import Derived.Test.YtohibeiagapodabSo
import Derived.Test.YtohibeiagapodabSt
import Derived.Test.YtohibeiagapodabFr
import Derived.WalkSmall
namespace Go.Proofs.Ytohibeiagapodab
open Go.RowKit
set_option maxRecDepth 100000

theorem mul_ten (n : Nat) (h : n < top) : mulO (ans (some n)) [10] = if n * 10 < top then some (n * 10) else none := by
  have h1 : okL (ans (some n)) := okL_digs_of n h
  have h2 : okL [10] := by decide
  have h3 : num [10] = 10 := by decide
  have h4 : num (ans (some n)) = n := num_digs n
  unfold mulO
  rw [h3, h4]
  simp only [h1, h2, true_and]
theorem add_two (m n : Nat) (h1 : m < top) (h2 : n < top) : addO (ans (some m)) (ans (some n)) = if m + n < top then some (m + n) else none := by
  have k1 : okL (ans (some m)) := okL_digs_of m h1
  have k2 : okL (ans (some n)) := okL_digs_of n h2
  have k3 : num (ans (some m)) = m := num_digs m
  have k4 : num (ans (some n)) = n := num_digs n
  unfold addO
  rw [k3, k4]
  simp only [k1, k2, true_and]
theorem ans_le (n : Nat) (h : n < top) : (ans (some n)).length ≤ 140737488351232 := by
  show (up (digs n)).length ≤ _
  rw [up_len]
  have := (digs_len 16 n).2 h
  omega
theorem row_ten (w : World) : RowI (w.alloc (.cells #[.int .i64 10] 3)) (.slice (some ⟨w.heap.size, 0, none⟩) 1 1) [10] :=
  ⟨_, _, rfl, Nat.le_refl _, fun _ => ⟨w.heap.size, 0, rfl, by simp, fun j hj => by
    obtain rfl : j = 0 := by simpa using hj
    simp⟩⟩
theorem txt_of (n : Nat) (h : n < top) : txt (ans (some n)) = Lib.decDigits n := by
  have h1 : okL (ans (some n)) := okL_digs_of n h
  unfold txt
  rw [if_pos h1, show num (ans (some n)) = n from num_digs n]

set_option maxHeartbeats 3200000 in
theorem specFrom_in (s : ByteArray) (l : List UInt8) (w : World) (h1 : 1 ≤ s.size) (h120 : s.size ≤ 120) (hl : s.data.toList = l) :
    Calls Try.prog 20 #[.string s] w fun e w' => ∃ v, e = .returned (.tuple #[v, .bool (fromO l).isSome]) ∧ OwnA w' w.heap.size v (fromO l) ∧ Below w.heap.size w w' := by
  have hlen : l.length = s.size := by rw [← hl]; simp
  have HL : Hid (s.data.toList = l) := hl
  have HLen : Hid (l.length = s.size) := hlen
  clear hlen hl
  have hb1 : Below w.heap.size w (w.alloc (.cells #[] 3)) := (Below.refl _ _).alloc (Nat.le_refl _) _
  have hl0 : OwnA (w.alloc (.cells #[] 3)) w.heap.size (.slice (some ⟨w.heap.size, 0, none⟩) 0 0) (some 0) := by
    have h := ownI_lit0 w w.heap.size (Nat.le_refl _)
    show World.ownsRow _ _ _ _ _ (up (digs 0)).length ((up (digs 0)).map (Value.int .i64))
    rw [digs_zero]; exact h
  go_enter Try.func20, Try.ntmps20
  go_wp2
  go_loopw [4, 5] (fun out i wr => ∃ k cur : Nat, i = .int .i64 (k : Int) ∧ k ≤ s.size ∧ cur < top ∧ Hid (Lib.decFrom 0 (l.take k) = some cur) ∧ OwnA wr w.heap.size out (some cur) ∧ Below w.heap.size w wr) (fun _ i _ => s.size - (intOf i).toNat)
  case atStart => exact ⟨0, 0, rfl, by omega, by unfold top; omega, rfl, hl0, hb1⟩
  case round =>
    obtain ⟨k, cur, rfl, hk, hct, hE, hout, hb⟩ := hrel
    clear hb1 hl0
    have hbs := hb.size
    by_cases hlt : k < s.size
    · have HB : Hid (l[k]? = some s[k]) := by show _ = _; rw [← HL.out]; simp [hlt]; rfl
      have hu8 : s[k].toNat < 256 := UInt8.toNat_lt _
      by_cases hlo : s[k].toNat < 48
      · have HF : Hid (fromO l = none) := from_bad (bad_byte l k _ HB.out (.inl hlo))
        go_wp2
        go_ret2
        rw [HF.out]
        exact ⟨_, rfl, lit0A _ _ hbs, hb.alloc hbs _⟩
      · by_cases hhi : 57 < s[k].toNat
        · have HF : Hid (fromO l = none) := from_bad (bad_byte l k _ HB.out (.inr hhi))
          go_wp2
          go_ret2
          rw [HF.out]
          exact ⟨_, rfl, lit0A _ _ hbs, hb.alloc hbs _⟩
        · have hE2 := Lib.decFrom_take l k 0 cur _ _ hE.out HB.out (good_byte _ (by omega) (by omega))
          obtain ⟨dg, hdg⟩ : ∃ dg, s[k].toNat = 48 + dg := ⟨s[k].toNat - 48, by omega⟩
          rw [hdg, show 48 + dg - 48 = dg by omega] at hE2
          have HE2 : Hid (Lib.decFrom 0 (l.take (k + 1)) = some (cur * 10 + dg)) := hE2
          have hdi : (dg : Int) = ((s[k].toNat : Nat) : Int) - 48 := by omega
          have hdt : dg < top := by unfold top; omega
          have hbW : Below wr.heap.size wr (wr.alloc (.cells #[.int .i64 10] 3)) := (Below.refl _ _).alloc (Nat.le_refl _) _
          have c1 := specMul_full _ _ (ans (some cur)) [10] (wr.alloc (.cells #[.int .i64 10] 3)) (hout.row.later hbW) (row_ten wr) (ans_le cur hct) (by simp)
          rw [mul_ten cur hct] at c1
          have c2 := fun W => specOf_any (dg : Int) W (by omega)
          rw [show ofO (dg : Int) = some dg from by unfold ofO; rw [if_pos (by omega)]; rfl, hdi] at c2
          have hdg9 : dg ≤ 9 := by omega
          have HDT : Hid (dg < top) := hdt
          clear hE hE2 HB hdg hdi hdt
          by_cases hm : cur * 10 < top
          · rw [if_pos hm] at c1
            have HM : Hid (cur * 10 < top) := hm
            have c3 := fun W v1 v2 (r1 : RowI W v1 (ans (some (cur * 10)))) (r2 : RowI W v2 (ans (some dg))) => specAdd_any v1 v2 (ans (some (cur * 10))) (ans (some dg)) W r1 r2 (ans_le _ hm) (ans_le _ HDT.out)
            rw [add_two _ _ hm HDT.out] at c3
            generalize cur * 10 + dg = nx at c3 HE2
            generalize cur * 10 = tn at c1 c3 HM hm
            by_cases hfit : nx < top
            · rw [if_pos hfit] at c3
              go_wp2_with (first | (go_at_call 14; refine c1.mono ?_; clear c1; rintro e w2 ⟨v1, rfl, ho1, _, hb2⟩) | (go_at_call 35; refine (c2 _).mono ?_; clear c2; rintro e w3 ⟨v2, rfl, ho2, hb3⟩) | (go_at_call 36; refine (c3 _ _ _ (ho1.below hb3).row ho2.row).mono ?_; clear c3; rintro e w4 ⟨v3, rfl, ho3, hb4⟩))
              have b1 : Below w.heap.size w (wr.alloc (.cells #[.int .i64 10] 3)) := hb.alloc hbs _
              have b2 := b1.trans (hb2.mono b1.size)
              have b3 := b2.trans (hb3.mono b2.size)
              have b4 := b3.trans (hb4.mono b3.size)
              go_roundw
              case rel => exact ⟨k + 1, nx, by go_num, by omega, hfit, HE2, ho3.base b3.size, b4⟩
              case measure => simp [intOf]; omega
            · rw [if_neg hfit] at c3
              have HF : Hid (fromO l = none) := from_great l (k + 1) nx HE2.out hfit
              go_wp2_with (first | (go_at_call 14; refine c1.mono ?_; clear c1; rintro e w2 ⟨v1, rfl, ho1, _, hb2⟩) | (go_at_call 35; refine (c2 _).mono ?_; clear c2; rintro e w3 ⟨v2, rfl, ho2, hb3⟩) | (go_at_call 36; refine (c3 _ _ _ (ho1.below hb3).row ho2.row).mono ?_; clear c3; rintro e w4 ⟨v3, rfl, ho3, hb4⟩))
              go_ret2
              have b1 : Below w.heap.size w (wr.alloc (.cells #[.int .i64 10] 3)) := hb.alloc hbs _
              have b2 := b1.trans (hb2.mono b1.size)
              have b3 := b2.trans (hb3.mono b2.size)
              have b4 := b3.trans (hb4.mono b3.size)
              rw [HF.out]
              exact ⟨_, rfl, lit0A _ _ b4.size, b4.alloc b4.size _⟩
          · rw [if_neg hm] at c1
            have HF : Hid (fromO l = none) := from_great l (k + 1) _ HE2.out (by omega)
            clear c2 HE2
            go_wp2_with (go_at_call 14; refine c1.mono ?_; clear c1; rintro e w2 ⟨v1, rfl, ho1, _, hb2⟩)
            go_ret2
            have b1 : Below w.heap.size w (wr.alloc (.cells #[.int .i64 10] 3)) := hb.alloc hbs _
            have b2 := b1.trans (hb2.mono b1.size)
            rw [HF.out]
            exact ⟨_, rfl, lit0A _ _ b2.size, b2.alloc b2.size _⟩
    · obtain rfl : k = s.size := by omega
      have hall : Lib.decFrom 0 l = some cur := by
        have := hE.out
        rwa [List.take_of_length_le (by rw [HLen.out]; exact Nat.le_refl _)] at this
      have c4 := specText_any _ (ans (some cur)) wr hout.row (ans_le cur hct)
      rw [txt_of cur hct] at c4
      clear hE
      by_cases hi : Lib.decDigits cur = l
      · have HF : Hid (fromO l = some cur) := from_yes hall hct hi
        have he : (⟨(Lib.decDigits cur).toArray⟩ : ByteArray) = s := by
          apply ByteArray.ext
          rw [hi, ← HL.out]
        rw [he] at c4
        clear he hi hall
        go_wp2_with (go_at_call 18; refine c4.mono ?_; clear c4; rintro e w5 ⟨rfl, hb5⟩)
        go_ret2
        rw [HF.out]
        exact ⟨_, rfl, hout.below hb5, hb.trans (hb5.mono hbs)⟩
      · have HF : Hid (fromO l = none) := from_no hall hi
        have hne : (Lib.decDigits cur == s.toList) = false := by rw [ByteArray.toList_eq, HL.out]; simpa using hi
        have hne2 : ((⟨(Lib.decDigits cur).toArray⟩ : ByteArray).toList == s.toList) = false := by rw [ByteArray.toList_eq]; simpa using hne
        clear hi hall
        go_wp2_with (go_at_call 18; refine c4.mono ?_; clear c4; rintro e w5 ⟨rfl, hb5⟩)
        go_ret2
        have b5 := hb.trans (hb5.mono hbs)
        rw [HF.out]
        exact ⟨_, rfl, lit0A _ _ b5.size, b5.alloc b5.size _⟩

theorem specFrom_any (s : ByteArray) (w : World) (hs : s.size ≤ 9223372036854775807) :
    Calls Try.prog 20 #[.string s] w fun e w' => ∃ v, e = .returned (.tuple #[v, .bool (fromO s.data.toList).isSome]) ∧ OwnA w' w.heap.size v (fromO s.data.toList) ∧ Below w.heap.size w w' := by
  by_cases h1 : 1 ≤ s.size
  · by_cases h2 : s.size ≤ 120
    · exact specFrom_in s _ w h1 h2 rfl
    · have HF : Hid (fromO s.data.toList = none) := from_len _ (by simp; exact Nat.lt_of_not_le h2)
      go_enter Try.func20, Try.ntmps20
      go_wp2
      go_ret2
      rw [HF.out]
      exact ⟨_, rfl, lit0A _ _ (Nat.le_refl _), (Below.refl _ _).alloc (Nat.le_refl _) _⟩
  · have hz : s.data.toList = [] := by
      apply List.length_eq_zero_iff.1
      have : s.data.toList.length = s.size := by simp
      omega
    have HF : Hid (fromO s.data.toList = none) := by show _ = _; rw [hz]; exact from_no rfl (by rw [dec0]; simp)
    clear hz
    go_enter Try.func20, Try.ntmps20
    go_wp2
    go_ret2
    rw [HF.out]
    exact ⟨_, rfl, lit0A _ _ (Nat.le_refl _), (Below.refl _ _).alloc (Nat.le_refl _) _⟩
end Go.Proofs.Ytohibeiagapodab
