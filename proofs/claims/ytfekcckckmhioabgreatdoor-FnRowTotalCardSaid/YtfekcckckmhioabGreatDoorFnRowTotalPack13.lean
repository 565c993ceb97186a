/- Texts of this claim, put together: part 13. -/
import Derived.Test.YtfekcckckmhioabGreatDoorFnRowTotalPack12
import Derived.Test.YtfekcckckmhioabGreatDoorFnRowTotalPack9
import Derived.Test.YtfekcckckmhioabGreatDoorFnRowTotalPack3
import Derived.Test.YtfekcckckmhioabGreatDoorFnRowTotalPack11
import Derived.Test.YtfekcckckmhioabGreatDoorFnRowTotalPack10
/- The decimal digits of a number, by the specification's own loop. -/
namespace Go.Proofs.YtfekcckckmhioabGreatDoor
open Go.RowKit
set_option maxRecDepth 100000

set_option maxHeartbeats 800000 in
theorem digits_neg (u0 : Nat) (w : World) (h0 : 0 < u0) (h1 : u0 ≤ 9223372036854775808) :
    Calls Tryz.prog 65 #[.int .i64 (-(u0 : Int))] w fun e w' => e = .returned (.string ⟨(45 :: ds u0).toArray⟩) ∧ Below w.heap.size w w' := by
  have ot := one_text
  have hz0 : (-(u0 : Int) == 0) = false := by simp; omega
  have hn0 : decide (-(u0 : Int) < 0) = true := by simp; omega
  go_enter Tryz.func65, Tryz.ntmps65
  go_wp2
  go_loopw [0, 4, 5] (fun n v _ wr => ∃ (u : Nat) (done : List UInt8), n = .int .i64 (-(u : Int)) ∧ u ≤ 9223372036854775808 ∧ v = .string ⟨done.toArray⟩ ∧ done.length ≤ 19 ∧ u < 10 ^ (19 - done.length) ∧ ds u ++ done = ds u0 ∧ Below w.heap.size w wr) (fun n _ _ _ => (-(intOf n)).toNat)
  case atStart => exact ⟨u0, [], rfl, h1, rfl, by simp, by simp; omega, by simp, Below.refl _ _⟩
  case round =>
    obtain ⟨u, done, rfl, hu, rfl, hlen, hdn, hE, hb⟩ := hrel
    have HE : Hid (ds u ++ done = ds u0) := hE
    have HD : Hid (u < 10 ^ (19 - done.length)) := hdn
    clear hE hdn
    by_cases hz : 0 < u
    · have hm : (-(u : Int)).tmod 10 = -((u % 10 : Nat) : Int) := by rw [Int.neg_tmod, Int.tmod_eq_emod_of_nonneg (by omega)]; omega
      have hq : (-(u : Int)).tdiv 10 = -((u / 10 : Nat) : Int) := by rw [Int.neg_tdiv, Int.tdiv_eq_ediv_of_nonneg (by omega)]; omega
      have hne : (-(u : Int) != 0) = true := by simp; omega
      by_cases hr : 0 < u % 10
      all_goals
        go_wp2
        go_roundw
        case rel =>
          obtain ⟨p1, p2⟩ := pow_step u done.length hz HD.out
          refine ⟨u / 10, UInt8.ofNat (48 + u % 10) :: done, by go_num, by omega, ?_, by simp; omega, by simpa using p2, ?_, ?_⟩
          · exact cat1 _ _ _ (by first | (simp; done) | (congr 1; omega))
          · rw [← HE.out, ds_pos u hz]; simp
          · exact hb.alloc hb.size _
        case measure => simp [intOf]; omega
    · obtain rfl : u = 0 := by omega
      go_wp2
      go_ret
      refine ⟨?_, hb⟩
      have hE := HE.out
      rw [ds_zero, List.nil_append] at hE
      rw [← hE]
      exact congrArg Ending.returned (cat1 45 45 done rfl)

set_option maxHeartbeats 800000 in
theorem digits_pos (u0 : Nat) (w : World) (h0 : 0 < u0) (h1 : u0 ≤ 9223372036854775807) :
    Calls Tryz.prog 65 #[.int .i64 ((u0 : Int))] w fun e w' => e = .returned (.string ⟨(ds u0).toArray⟩) ∧ Below w.heap.size w w' := by
  have ot := one_text
  have hz0 : ((u0 : Int) == 0) = false := by simp; omega
  have hn0 : decide ((u0 : Int) < 0) = false := by simp
  go_enter Tryz.func65, Tryz.ntmps65
  go_wp2
  go_loopw [0, 4, 5] (fun n v _ wr => ∃ (u : Nat) (done : List UInt8), n = .int .i64 (u : Int) ∧ u ≤ 9223372036854775807 ∧ v = .string ⟨done.toArray⟩ ∧ done.length ≤ 19 ∧ u < 10 ^ (19 - done.length) ∧ ds u ++ done = ds u0 ∧ Below w.heap.size w wr) (fun n _ _ _ => (intOf n).toNat)
  case atStart => exact ⟨u0, [], rfl, h1, rfl, by simp, by simp; omega, by simp, Below.refl _ _⟩
  case round =>
    obtain ⟨u, done, rfl, hu, rfl, hlen, hdn, hE, hb⟩ := hrel
    have HE : Hid (ds u ++ done = ds u0) := hE
    have HD : Hid (u < 10 ^ (19 - done.length)) := hdn
    clear hE hdn
    by_cases hz : 0 < u
    · have hne : ((u : Int) != 0) = true := by simp; omega
      all_goals
        go_wp2
        go_roundw
        case rel =>
          obtain ⟨p1, p2⟩ := pow_step u done.length hz HD.out
          refine ⟨u / 10, UInt8.ofNat (48 + u % 10) :: done, by go_num, by omega, ?_, by simp; omega, by simpa using p2, ?_, ?_⟩
          · exact cat1 _ _ _ (by first | (simp; done) | (congr 1; omega))
          · rw [← HE.out, ds_pos u hz]; simp
          · exact hb.alloc hb.size _
        case measure => simp [intOf]; omega
    · obtain rfl : u = 0 := by omega
      go_wp2
      go_ret
      refine ⟨?_, hb⟩
      have hE := HE.out
      rw [ds_zero, List.nil_append] at hE
      rw [← hE]
      rfl

/-- Whatever the number. -/
theorem digits_any (n : Int) (w : World) (h0 : -9223372036854775808 ≤ n) (h1 : n ≤ 9223372036854775807) :
    Calls Tryz.prog 65 #[.int .i64 n] w fun e w' => e = .returned (.string ⟨(Lib.itoa n).toArray⟩) ∧ Below w.heap.size w w' := by
  by_cases hn : n < 0
  · obtain ⟨u, rfl⟩ : ∃ u : Nat, n = -(u : Int) := ⟨n.natAbs, by omega⟩
    have e : Lib.itoa (-(u : Int)) = 45 :: ds u := by rw [Lib.itoa, if_pos hn, ds_of u (by omega)]; simp
    rw [e]
    exact digits_neg u w (by omega) (by omega)
  · obtain ⟨u, rfl⟩ := Int.eq_ofNat_of_zero_le (show 0 ≤ n by omega)
    by_cases hu : u = 0
    · subst hu
      have e : Lib.itoa ((0 : Nat) : Int) = [48] := by rw [Lib.itoa, if_neg hn]; rw [Lib.decDigits]; rfl
      rw [e]
      go_enter Tryz.func65, Tryz.ntmps65
      go_wp2
      go_ret
      exact ⟨rfl, Below.refl _ _⟩
    · have e : Lib.itoa (u : Int) = ds u := by rw [Lib.itoa, if_neg hn, ds_of u (by omega)]; simp
      rw [e]
      exact digits_pos u w (by omega) (by omega)
end Go.Proofs.YtfekcckckmhioabGreatDoor
/- The text of a cell, by the specification. -/
namespace Go.Proofs.YtfekcckckmhioabGreatDoor
open Go.RowKit
set_option maxRecDepth 100000
set_option linter.unusedSimpArgs false
theorem digitsX_any (n : Int) (w : World) (h0 : -9223372036854775808 ≤ n) (h1 : n ≤ 9223372036854775807) :
    Calls Tryz.prog 65 #[.int .i64 n] w fun e w' => e = .returned (.string (itB n)) ∧ Below w.heap.size w w' := digits_any n w h0 h1
set_option maxHeartbeats 1600000 in
theorem specCellText_any (v : Value) (a : AttrD) (b : Int) (w : World) (h : AttrAt w v a) (hn : okA a) :
    Calls Tryz.prog 50 #[v, .int .i64 b] w fun e w' => e = .returned (.string (cellText a b)) ∧ Below w.heap.size w w' := by
  have hat := h
  obtain ⟨vc, vv, rfl, hc, hv⟩ := h
  have HAT : Hid (∀ W, Below w.heap.size w W → AttrAt W (.agg #[.string a.name, vc, vv]) a) := fun W h => hat.later h
  have HC : Hid (∀ W, Below w.heap.size w W → RowI W vc a.cuts) := fun W h => hc.later h
  have HV : Hid (∀ W, Below w.heap.size w W → RowS W vv a.vals) := fun W h => hv.later h
  obtain ⟨oc, cc, rfl, -, -⟩ := id hc
  obtain ⟨ov, cv, rfl, -, -⟩ := id hv
  have lc := hn.cuts
  have lv := hn.vals.1
  have HOK : Hid (okA a) := hn
  have hbl := bins_le hn
  clear hc hv hat hn
  have B0 : Below w.heap.size w (w.alloc (.cells #[.string a.name, .slice oc a.cuts.length cc, .slice ov a.vals.length cv] 49)) := (Below.refl _ _).alloc (Nat.le_refl _) _
  have K0 := Blk.new 49 w #[.string a.name, .slice oc a.cuts.length cc, .slice ov a.vals.length cv]
  have e1 := specAttrOk_any _ a _ (HAT.out _ B0) HOK.out
  cases hk : attrOk a with
  | false =>
    have HE : Hid (cellText a b = ⟨#[]⟩) := if_neg (fun h => by rw [hk] at h; cases h.1)
    rw [hk] at e1
    clear hk
    go_enter Tryz.func50, Tryz.ntmps50
    go_wp2_with fail
    refine e1.mono ?_
    clear e1
    rintro e w1 ⟨rfl, hb1⟩
    go_wp2
    go_ret
    exact ⟨by rw [HE.out]; rfl, B0.trans (hb1.mono (by simp))⟩
  | true =>
    rw [hk] at e1
    go_enter Tryz.func50, Tryz.ntmps50
    go_wp2_with fail
    refine e1.mono ?_
    clear e1
    rintro e w1 ⟨rfl, hb1⟩
    have B1 := B0.trans (hb1.mono (by simp))
    have K1 := K0.below hb1
    have p0 : w1.cell? ⟨w.heap.size, 0, none⟩ = some (.string a.name) := K1.cell 0
    have p1 : w1.cell? ⟨w.heap.size, 1, none⟩ = some (.slice oc a.cuts.length cc) := K1.cell 1
    have p2 : w1.cell? ⟨w.heap.size, 2, none⟩ = some (.slice ov a.vals.length cv) := K1.cell 2
    have e2 := specBins_any _ a w1 (HAT.out w1 B1) HOK.out
    clear K0 hb1
    go_wp2_with fail
    refine e2.mono ?_
    clear e2
    rintro e w2 ⟨rfl, hb2⟩
    have hs2 := hb2.size
    have B2 := B1.trans (hb2.mono B1.size)
    have K2 := K1.below hb2
    have q1 : w2.cell? ⟨w.heap.size, 1, none⟩ = some (.slice oc a.cuts.length cc) := K2.cell 1
    have q2 : w2.cell? ⟨w.heap.size, 2, none⟩ = some (.slice ov a.vals.length cv) := K2.cell 2
    clear p0 p1 p2 K1 hb2 B1
    obtain ⟨l0, l1⟩ := hbl
    have e3 := in_any b (-1) (bins a - 1) w2
    by_cases hin : -1 ≤ b ∧ b ≤ bins a - 1
    rotate_left
    · have HE : Hid (cellText a b = ⟨#[]⟩) := if_neg (fun h => hin h.2)
      rw [decide_eq_false hin] at e3
      clear hk hin
      go_wp2_with fail
      refine e3.mono ?_
      clear e3
      rintro e w3 ⟨rfl, e3'⟩
      rw [e3']
      go_wp2
      go_ret
      exact ⟨by rw [HE.out]; rfl, B2⟩
    have HT : Hid (cellText a b = (if b = -1 then askB else if 0 < a.vals.length then tx a.vals b.toNat else if b < (a.cuts.length : Int) then itB (a.cuts.getD b.toNat 0) else itB (a.cuts.getD (a.cuts.length - 1) 0 + 1))) := if_pos ⟨hk, hin⟩
    have HB : Hid (bins a = (if a.vals.length = 0 then (a.cuts.length : Int) + 1 else a.vals.length)) := by unfold bins; rw [if_pos hk]; rfl
    have HKD : Hid (a.vals.length = 0 ↔ a.cuts.length ≠ 0) := ok_kind hk
    have HCT : Hid (a.vals.length = 0 → ∀ j, j < a.cuts.length → -9999 ≤ a.cuts.getD j 0 ∧ a.cuts.getD j 0 ≤ 9998) := fun _ => cuts_in hk
    rw [decide_eq_true hin] at e3
    obtain ⟨n0, n1⟩ := hin
    clear hk
    go_wp2_with fail
    refine e3.mono ?_
    clear e3
    rintro e w3 ⟨rfl, e3'⟩
    rw [e3']
    clear e3' w3
    rw [HB.out] at n1
    by_cases b1 : b = -1
    · have HE : Hid (cellText a b = askB) := by rw [HT.out, if_pos b1]; rfl
      have hq : (b == -1) = true := by rw [b1]; rfl
      clear b1 HT
      go_wp2
      go_ret
      exact ⟨by rw [HE.out]; rfl, B2⟩
    have hq : (b == -1) = false := by rw [beq_eq_false_iff_ne]; exact b1
    obtain ⟨k, rfl⟩ := Int.eq_ofNat_of_zero_le (show 0 ≤ b by omega)
    by_cases hv0 : 0 < a.vals.length
    · have HE : Hid (cellText a (k : Int) = tx a.vals k) := by rw [HT.out, if_neg b1, if_pos hv0]; rfl
      rw [if_neg (by omega)] at n1
      have hvi : (0 : Int) < (a.vals.length : Int) := by omega
      obtain ⟨ov', cv', e', -, hr⟩ := HV.out w2 B2
      cases e'
      obtain ⟨g, o, rfl, hg, hj⟩ := hr hv0
      have hcell := hj k (by omega)
      have hkl : k < a.vals.length := by omega
      generalize tx a.vals k = u at hcell HE
      clear hr hj b1 HT hv0
      go_wp2
      go_ret
      exact ⟨by rw [HE.out]; rfl, B2⟩
    have hvi : ¬ (0 : Int) < (a.vals.length : Int) := by omega
    have hz : a.vals.length = 0 := by omega
    rw [if_pos hz] at n1
    have hc0 := HKD.out.1 hz
    obtain ⟨oc', cc', e', -, hr⟩ := HC.out w2 B2
    cases e'
    obtain ⟨g, o, rfl, hg, hj⟩ := hr (by omega)
    by_cases hlt : (k : Int) < (a.cuts.length : Int)
    · have HE : Hid (cellText a (k : Int) = itB (a.cuts.getD k 0)) := by rw [HT.out, if_neg b1, if_neg hv0, if_pos hlt]; rfl
      have hcell := hj k (by omega)
      have hr2 := HCT.out hz k (by omega)
      have hkl : k < a.cuts.length := by omega
      generalize a.cuts.getD k 0 = u at hcell HE hr2
      have e4 := digitsX_any u w2 (by omega) (by omega)
      clear hr hj b1 HT hv0 hz hc0
      go_wp2_with fail
      refine e4.mono ?_
      rintro e w4 ⟨rfl, hb4⟩
      go_wp2
      go_ret
      exact ⟨by rw [HE.out]; rfl, B2.trans (hb4.mono B2.size)⟩
    · have HE : Hid (cellText a (k : Int) = itB (a.cuts.getD (a.cuts.length - 1) 0 + 1)) := by rw [HT.out, if_neg b1, if_neg hv0, if_neg hlt]; rfl
      have hcell := hj (a.cuts.length - 1) (by omega)
      have hr2 := HCT.out hz (a.cuts.length - 1) (by omega)
      generalize a.cuts.getD (a.cuts.length - 1) 0 = u at hcell HE hr2
      have e4 := digitsX_any (u + 1) w2 (by omega) (by omega)
      have hcp : 0 < a.cuts.length := by omega
      clear hr hj b1 HT hv0 hz hc0
      go_wp2_with fail
      refine e4.mono ?_
      rintro e w4 ⟨rfl, hb4⟩
      go_wp2
      go_ret
      exact ⟨by rw [HE.out]; rfl, B2.trans (hb4.mono B2.size)⟩
end Go.Proofs.YtfekcckckmhioabGreatDoor
/- How long the text of a cell is; what a right example is made of. -/
namespace Go.Proofs.YtfekcckckmhioabGreatDoor
open Go.RowKit
set_option maxRecDepth 100000
theorem cellText_size (a : AttrD) (b : Int) : (cellText a b).size ≤ 8 := by
  unfold cellText
  split
  · next h =>
    obtain ⟨hk, h1, h2⟩ := h
    split
    · decide
    · next hb =>
      split
      · next hv =>
        have hv0 : a.vals.length ≠ 0 := by omega
        obtain ⟨hc, l2, l4, hwo⟩ := ok_vals hk hv0
        have hbin : bins a = a.vals.length := by unfold bins; rw [if_pos hk, if_neg hv0]
        exact (word_size (words_all hwo _ (tx_mem (by omega)))).2
      · next hv =>
        have hz : a.vals.length = 0 := by omega
        have hc0 := (ok_kind hk).1 hz
        split
        · next hlt =>
          have := cuts_in hk b.toNat (by omega)
          have := itB_size (n := a.cuts.getD b.toNat 0) (by omega) (by omega)
          omega
        · have := cuts_in hk (a.cuts.length - 1) (by omega)
          have := itB_size (n := a.cuts.getD (a.cuts.length - 1) 0 + 1) (by omega) (by omega)
          omega
  · decide
theorem sch_parts5 {s : SchemaD} (h : schemaOk s = true) : s.attrs.length ≤ 5 ∧ 1 ≤ s.attrs.length := by
  unfold schemaOk at h
  rw [Bool.and_eq_true] at h
  have := of_decide_eq_true h.1
  omega
theorem ex_parts {s : SchemaD} {e : ExD} (h : exOk s e = true) : schemaOk s = true ∧ e.bins.length = s.attrs.length ∧ (-1 ≤ e.cls ∧ e.cls ≤ (s.classes.length : Int) - 1) ∧ binsRight s e = true := by
  unfold exOk at h
  rw [Bool.and_eq_true, Bool.and_eq_true, Bool.and_eq_true] at h
  exact ⟨h.1, of_decide_eq_true h.2.1, of_decide_eq_true h.2.2.1, h.2.2.2⟩
end Go.Proofs.YtfekcckckmhioabGreatDoor
/- Texts with another one between, by the specification. -/
namespace Go.Proofs.YtfekcckckmhioabGreatDoor
open Go.RowKit
set_option maxRecDepth 100000
set_option maxHeartbeats 400000 in
theorem specJoin_any (v : Value) (ss : List ByteArray) (sep : ByteArray) (w : World) (h : RowS w v ss) (hn : ss.length ≤ 1048576) (hz : (joinT ss sep).size ≤ 1000000) :
    Calls Tryz.prog 51 #[v, .string sep] w fun e w' => e = .returned (.string (joinT ss sep)) ∧ Below w.heap.size w w' := by
  obtain ⟨oa, cap, rfl, hc, hr⟩ := h
  have HR : Hid (0 < ss.length → ∃ g o, oa = some ⟨g, o, none⟩ ∧ g < w.heap.size ∧ ∀ j, j < ss.length → w.cell? ⟨g, o + j, none⟩ = some (.string (tx ss j))) := hr
  clear hr
  go_enter Tryz.func51, Tryz.ntmps51
  go_wp2
  go_loopw [5, 6] (fun out i wr => ∃ k : Nat, i = .int .i64 k ∧ out = .string (joinT (ss.take k) sep) ∧ k ≤ ss.length ∧ wr = w) (fun _ i _ => ss.length - (intOf i).toNat)
  case atStart => exact ⟨0, rfl, rfl, by omega, rfl⟩
  case round =>
    obtain ⟨k, rfl, rfl, hk, rfl⟩ := hrel
    by_cases hlt : k < ss.length
    · obtain ⟨g, o, rfl, hg, hj⟩ := HR.out (by omega)
      have hcell := hj k hlt
      clear hj HR
      by_cases h0 : 0 < k
      · have hp := joinT_part sep hlt h0
        have HN : Hid (joinT (ss.take (k + 1)) sep = joinT (ss.take k) sep ++ sep ++ tx ss k) := joinT_snoc hlt h0 sep
        generalize joinT (ss.take k) sep = J at hp HN
        generalize tx ss k = t at hcell hp HN
        generalize (joinT ss sep).size = Z at hp hz
        go_wp2
        go_roundw
        case rel => exact ⟨k + 1, by go_num, by rw [HN.out], by omega, by first | rfl | trivial⟩
        case measure => simp [intOf]; omega
      · obtain rfl : k = 0 := by omega
        have hp := joinT_first sep hlt
        have HN : Hid (joinT (ss.take 1) sep = tx ss 0) := joinT_zero hlt sep
        generalize tx ss 0 = t at hcell hp HN
        generalize (joinT ss sep).size = Z at hp hz
        have hcell' : wr.cell? ⟨g, o, none⟩ = some (.string t) := hcell
        have e0 : joinT (ss.take 0) sep = ⟨#[]⟩ := rfl
        rw [e0]
        go_wp2
        go_roundw
        case rel => exact ⟨1, by go_num, by rw [HN.out]; exact congrArg Value.string (bytes_ext (by simp)), by omega, by first | rfl | trivial⟩
        case measure => simp [intOf]; omega
    · obtain rfl : k = ss.length := by omega
      rw [List.take_length]
      go_wp2
      go_ret
      exact ⟨rfl, Below.refl _ _⟩
end Go.Proofs.YtfekcckckmhioabGreatDoor
