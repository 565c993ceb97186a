/- Texts of this claim, put together: part 11. -/
import Derived.Test.YtfekcckckmhioaaDoorCellTextPack6
import Derived.Test.YtfekcckckmhioaaDoorCellTextPack1
import Derived.Test.YtfekcckckmhioaaDoorCellTextPack10
import Derived.Lib.AppendIntMem
import Derived.Test.YtfekcckckmhioaaDoorCellTextPack7
import Derived.Test.YtfekcckckmhioaaDoorCellTextPack8
import Derived.Test.YtfekcckckmhioaaDoorCellTextPack5
import Derived.Test.YtfekcckckmhioaaDoorRows
import Derived.WalkKit
import Derived.ProofKit
import Derived.OpenShut
import Derived.Laws.BytesArg
import Derived.Lib.ItoaNum
/- The digits of a number, by the program: what it wants of the library's table. -/
namespace Go.Proofs.YtfekcckckmhioaaDoor
open Go.RowKit
set_option maxRecDepth 100000
theorem gPw : Tryd.prog.globalNamed "internal/strconv.uint64pow10" = some 1 := by kernel_rfl
/-- What the writer of digits wants of the library's variables. -/
def Tab (w : World) : Prop := Lib.TabIs Tryd.prog w "internal/strconv.uint64pow10" .u64 Lib.pow10Tab ∧ 1 < w.heap.size
theorem Tab.later {w w' : World} (h : Tab w) (hb : Below w.heap.size w w') : Tab w' := ⟨var?_below hb gPw h.2 h.1, Nat.lt_of_lt_of_le h.2 hb.size⟩

theorem iDigits_any (n : Int) (w : World) (h0 : -9223372036854775808 ≤ n) (h1 : n ≤ 9223372036854775807) (hr : Tab w) :
    Calls Tryd.prog 31 #[.int .i64 n] w fun e w' => e = .returned (.string (itB n)) ∧ Below w.heap.size w w' := by
  have ht := hr.1
  clear hr
  go_enter Tryd.func31, Tryd.ntmps31
  go_wp2_with fail
  refine (Tryd.strconv_Itoa n h0 h1 _ ht).mono ?_
  rintro e w' ⟨rfl, k, os, rfl⟩
  go_wp2
  go_ret
  exact ⟨rfl, Lib.below_grow _ _ (Nat.le_refl _) _ _⟩

end Go.Proofs.YtfekcckckmhioaaDoor
/- The text of a place among words, the text of a cell: by the program. -/
namespace Go.Proofs.YtfekcckckmhioaaDoor
open Go.RowKit
set_option maxRecDepth 100000
set_option linter.unusedSimpArgs false
def choiceT (ss : List ByteArray) (p : Int) : ByteArray := if p = -1 then askB else tx ss p.toNat
theorem choiceText_any (v : Value) (ss : List ByteArray) (p : Int) (w : World) (h : RowS w v ss) (h0 : -1 ≤ p) (h1 : p < (ss.length : Int)) (hn : ss.length ≤ 1099511627776) (hz : ∀ s ∈ ss, s.size ≤ 8) :
    Calls Tryd.prog 30 #[v, .int .i64 p] w fun e w' => e = .returned (.string (choiceT ss p)) ∧ Below w.heap.size w w' := by
  obtain ⟨oa, cap, rfl, hc, hr⟩ := h
  by_cases hp : p = -1
  · subst hp
    clear hr hz
    go_enter Tryd.func30, Tryd.ntmps30
    go_wp2
    go_ret
    exact ⟨rfl, Below.refl _ _⟩
  · have HE : Hid (choiceT ss p = tx ss p.toNat) := if_neg hp
    have hq : (p == -1) = false := by rw [beq_eq_false_iff_ne]; exact hp
    obtain ⟨k, rfl⟩ := Int.eq_ofNat_of_zero_le (show 0 ≤ p by omega)
    obtain ⟨g, o, rfl, hg, hj⟩ := hr (by omega)
    have hcell := hj k (by omega)
    have hk : k < ss.length := by omega
    have hs := hz _ (tx_mem hk)
    have HE : Hid (choiceT ss (k : Int) = tx ss k) := HE.out
    generalize tx ss k = t at hcell hs HE
    clear hr hz hj hp
    have c := clone_any t w (by omega)
    go_enter Tryd.func30, Tryd.ntmps30
    go_wp2_with fail
    refine c.mono ?_
    rintro e w1 ⟨rfl, hb1⟩
    clear c
    go_wp2
    go_ret
    exact ⟨by rw [HE.out]; rfl, hb1⟩
set_option maxHeartbeats 1600000 in
theorem implCellText_any (v : Value) (a : AttrD) (b : Int) (w : World) (h : AttrAt w v a) (hn : okA a) (hT : Tab w) :
    Calls Tryd.prog 8 #[v, .int .i64 b] w fun e w' => e = .returned (.string (cellText a b)) ∧ Below w.heap.size w w' := by
  have hat := h
  obtain ⟨vc, vv, rfl, hc, hv⟩ := h
  have HAT : Hid (∀ W, Below w.heap.size w W → AttrAt W (.agg #[.string a.name, vc, vv]) a) := fun W h => hat.later h
  have HC : Hid (∀ W, Below w.heap.size w W → RowI W vc a.cuts) := fun W h => hc.later h
  have HV : Hid (∀ W, Below w.heap.size w W → RowS W vv a.vals) := fun W h => hv.later h
  have HTB : Hid (∀ W, Below w.heap.size w W → Tab W) := fun W h => hT.later h
  obtain ⟨oc, cc, rfl, -, -⟩ := id hc
  obtain ⟨ov, cv, rfl, -, -⟩ := id hv
  have lc := hn.cuts
  have lv := hn.vals.1
  have HOK : Hid (okA a) := hn
  have hbl := bins_le hn
  clear hc hv hat hn hT
  have B0 : Below w.heap.size w (w.alloc (.cells #[.string a.name, .slice oc a.cuts.length cc, .slice ov a.vals.length cv] 28)) := (Below.refl _ _).alloc (Nat.le_refl _) _
  have K0 := Blk.new 28 w #[.string a.name, .slice oc a.cuts.length cc, .slice ov a.vals.length cv]
  have e1 := implAttrOk_any _ a _ (HAT.out _ B0) HOK.out
  cases hk : attrOk a with
  | false =>
    have HE : Hid (cellText a b = ⟨#[]⟩) := if_neg (fun h => by rw [hk] at h; cases h.1)
    rw [hk] at e1
    clear hk
    go_enter Tryd.func8, Tryd.ntmps8
    go_wp2_with fail
    refine e1.mono ?_
    clear e1
    rintro e w1 ⟨rfl, hb1⟩
    go_wp2
    go_ret
    exact ⟨by rw [HE.out]; rfl, B0.trans (hb1.mono (by simp))⟩
  | true =>
    rw [hk] at e1
    go_enter Tryd.func8, Tryd.ntmps8
    go_wp2_with fail
    refine e1.mono ?_
    clear e1
    rintro e w1 ⟨rfl, hb1⟩
    have B1 := B0.trans (hb1.mono (by simp))
    have K1 := K0.below hb1
    have p0 : w1.cell? ⟨w.heap.size, 0, none⟩ = some (.string a.name) := K1.cell 0
    have p1 : w1.cell? ⟨w.heap.size, 1, none⟩ = some (.slice oc a.cuts.length cc) := K1.cell 1
    have p2 : w1.cell? ⟨w.heap.size, 2, none⟩ = some (.slice ov a.vals.length cv) := K1.cell 2
    have e2 := implBins_any _ a w1 (HAT.out w1 B1) HOK.out
    clear K0 hb1
    go_wp2_with fail
    refine e2.mono ?_
    clear e2
    rintro e w2 ⟨rfl, hb2⟩
    have hs2 := hb2.size
    have B2 := B1.trans (hb2.mono B1.size)
    have K2 := K1.below hb2
    clear p0 p1 p2 K1 hb2 B1
    obtain ⟨l0, l1⟩ := hbl
    have e3 := placeOk_any b (bins a) w2
    by_cases hin : -1 ≤ b ∧ b ≤ bins a - 1
    rotate_left
    · have HE : Hid (cellText a b = ⟨#[]⟩) := if_neg (fun h => hin h.2)
      rw [decide_eq_false hin] at e3
      clear hk hin
      go_wp2_with fail
      refine e3.mono ?_
      clear e3
      rintro e w3 ⟨rfl, e3'⟩
      rw [e3']
      go_wp2
      go_ret
      exact ⟨by rw [HE.out]; rfl, B2⟩
    have HT : Hid (cellText a b = (if b = -1 then askB else if 0 < a.vals.length then tx a.vals b.toNat else if b < (a.cuts.length : Int) then itB (a.cuts.getD b.toNat 0) else itB (a.cuts.getD (a.cuts.length - 1) 0 + 1))) := if_pos ⟨hk, hin⟩
    have HB : Hid (bins a = (if a.vals.length = 0 then (a.cuts.length : Int) + 1 else a.vals.length)) := by unfold bins; rw [if_pos hk]; rfl
    have HKD : Hid (a.vals.length = 0 ↔ a.cuts.length ≠ 0) := ok_kind hk
    have HCT : Hid (a.vals.length = 0 → ∀ j, j < a.cuts.length → -9999 ≤ a.cuts.getD j 0 ∧ a.cuts.getD j 0 ≤ 9998) := fun _ => cuts_in hk
    have HZ : Hid (∀ s ∈ a.vals, s.size ≤ 8) := fun s hs => by
      have hv0 : a.vals.length ≠ 0 := fun e => by rw [List.eq_nil_of_length_eq_zero e] at hs; cases hs
      exact (word_size (words_all (ok_vals hk hv0).2.2.2 _ hs)).2
    rw [decide_eq_true hin] at e3
    obtain ⟨n0, n1⟩ := hin
    clear hk
    rw [HB.out] at n1
    go_wp2_with fail
    refine e3.mono ?_
    clear e3
    rintro e w3 ⟨rfl, e3'⟩
    rw [e3']
    clear e3' w3
    have q0 : w2.cell? ⟨w.heap.size, 0, none⟩ = some (.string a.name) := K2.cell 0
    have q1 : w2.cell? ⟨w.heap.size, 1, none⟩ = some (.slice oc a.cuts.length cc) := K2.cell 1
    have q2 : w2.cell? ⟨w.heap.size, 2, none⟩ = some (.slice ov a.vals.length cv) := K2.cell 2
    have e4 := nominal_any _ a w2 (HAT.out w2 B2)
    by_cases hv0 : 0 < a.vals.length
    · rw [decide_eq_true hv0] at e4
      rw [if_neg (by omega)] at n1
      have HE : Hid (choiceT a.vals b = cellText a b) := by
        rw [HT.out]; unfold choiceT
        by_cases hb : b = -1
        · rw [if_pos hb, if_pos hb]; rfl
        · rw [if_neg hb, if_neg hb, if_pos hv0]; rfl
      go_wp2_with fail
      refine e4.mono ?_
      clear e4
      rintro e w3 ⟨rfl, hb3⟩
      have B3 := B2.trans (hb3.mono B2.size)
      have K3 := K2.below hb3
      have q2 : w3.cell? ⟨w.heap.size, 2, none⟩ = some (.slice ov a.vals.length cv) := K3.cell 2
      have e5 := choiceText_any _ a.vals b w3 (HV.out w3 B3) n0 (by omega) lv HZ.out
      rw [HE.out] at e5
      clear q0 q1 hb3 K2 K3
      go_wp2_with fail
      refine e5.mono ?_
      clear e5
      rintro e w4 ⟨rfl, hb4⟩
      go_wp2
      go_ret
      exact ⟨rfl, B3.trans (hb4.mono B3.size)⟩
    rw [decide_eq_false hv0] at e4
    have hz0 : a.vals.length = 0 := by omega
    rw [if_pos hz0] at n1
    have hc0 := HKD.out.1 hz0
    have HZ0 : Hid (a.vals.length = 0) := hz0
    have HV0 : Hid (¬ 0 < a.vals.length) := hv0
    clear hz0 hv0
    go_wp2_with fail
    refine e4.mono ?_
    clear e4
    rintro e w3 ⟨rfl, hb3⟩
    have B3 := B2.trans (hb3.mono B2.size)
    have K3 := K2.below hb3
    clear q0 q1 q2 hb3 K2 B2
    have q1 : w3.cell? ⟨w.heap.size, 1, none⟩ = some (.slice oc a.cuts.length cc) := K3.cell 1
    have q2 : w3.cell? ⟨w.heap.size, 2, none⟩ = some (.slice ov a.vals.length cv) := K3.cell 2
    by_cases b1 : b = -1
    · have hq : (b == -1) = true := by rw [b1]; rfl
      have HE : Hid (choiceT a.vals b = cellText a b) := by rw [HT.out]; unfold choiceT; rw [if_pos b1, if_pos b1]; rfl
      have e5 := choiceText_any _ a.vals b w3 (HV.out w3 B3) n0 (by have := HZ0.out; omega) lv HZ.out
      rw [HE.out] at e5
      clear b1 q1 K3
      go_wp2_with fail
      refine e5.mono ?_
      clear e5
      rintro e w4 ⟨rfl, hb4⟩
      go_wp2
      go_ret
      exact ⟨rfl, B3.trans (hb4.mono B3.size)⟩
    have hq : (b == -1) = false := by rw [beq_eq_false_iff_ne]; exact b1
    obtain ⟨k, rfl⟩ := Int.eq_ofNat_of_zero_le (show 0 ≤ b by omega)
    obtain ⟨oc', cc', e', hcc, hr⟩ := HC.out w3 B3
    cases e'
    obtain ⟨g, o, rfl, hg, hj⟩ := hr (by omega)
    by_cases hkl : k = a.cuts.length
    · obtain ⟨n, hn⟩ : ∃ n, a.cuts.length = n + 1 := ⟨a.cuts.length - 1, by omega⟩
      have hcell := hj n (by omega)
      have hin := HCT.out HZ0.out n (by omega)
      have HE : Hid (cellText a (k : Int) = itB (a.cuts.getD n 0 + 1)) := by
        rw [HT.out, if_neg b1, if_neg HV0.out, if_neg (by omega), hn]; rfl
      generalize a.cuts.getD n 0 = z at hcell hin HE
      have hkn : k = n + 1 := by omega
      have hq2 : ((k : Int) == (a.cuts.length : Int)) = true := by rw [hkl]; simp
      clear hkl hr hj b1 HT HB q2
      subst hkn
      have hw : IntKind.i64.wrap ((↑(n + 1) : Int) - 1) = (n : Int) := by rw [IntKind.wrap_i64]; omega
      have e5 := iDigits_any (z + 1) w3 (by omega) (by omega) (HTB.out w3 B3)
      have HN : Hid (a.cuts.length = n + 1) := hn
      have hnl : n < a.cuts.length := by omega
      clear hn
      go_wp2_with fail
      refine e5.mono ?_
      clear e5
      rintro e w4 ⟨rfl, hb4⟩
      go_wp2
      go_ret
      exact ⟨by rw [HE.out]; rfl, B3.trans (hb4.mono B3.size)⟩
    · have hlt : k < a.cuts.length := by omega
      have hcell := hj k hlt
      have hin := HCT.out HZ0.out k hlt
      have HE : Hid (cellText a (k : Int) = itB (a.cuts.getD k 0)) := by
        rw [HT.out, if_neg b1, if_neg HV0.out, if_pos (by omega)]; rfl
      generalize a.cuts.getD k 0 = z at hcell hin HE
      have hq2 : ((k : Int) == (a.cuts.length : Int)) = false := by rw [beq_eq_false_iff_ne]; omega
      clear hkl hr hj b1 HT HB q2
      have e5 := iDigits_any z w3 (by omega) (by omega) (HTB.out w3 B3)
      go_wp2_with fail
      refine e5.mono ?_
      clear e5
      rintro e w4 ⟨rfl, hb4⟩
      go_wp2
      go_ret
      exact ⟨by rw [HE.out]; rfl, B3.trans (hb4.mono B3.size)⟩
end Go.Proofs.YtfekcckckmhioaaDoor
/- How many bins an attribute has, by the specification. -/
namespace Go.Proofs.YtfekcckckmhioaaDoor
open Go.RowKit
set_option maxRecDepth 100000
set_option maxHeartbeats 400000 in
theorem specBins_any (v : Value) (a : AttrD) (w : World) (h : AttrAt w v a) (hn : okA a) :
    Calls Tryd.prog 22 #[v] w fun e w' => e = .returned (.int .i64 (bins a)) ∧ Below w.heap.size w w' := by
  have c := fun W (hW : Below w.heap.size w W) => specAttrOk_any v a W (h.later hW) hn
  have lc := hn.cuts
  have lv := hn.vals.1
  obtain ⟨vc, vv, rfl, hc, hv⟩ := h
  obtain ⟨oc, cc, rfl, hcc, hcr⟩ := hc
  obtain ⟨ov, cv, rfl, hvc, hvr⟩ := hv
  clear hcr hvr hn
  have HB : Hid (∀ o, Below w.heap.size w (w.alloc o)) := fun o => (Below.refl _ _).alloc (Nat.le_refl _) _
  cases hok : attrOk a with
  | false =>
    have HF : Hid (bins a = 0) := by unfold bins; rw [hok]; rfl
    rw [hok] at c
    clear hok
    go_enter Tryd.func22, Tryd.ntmps22
    go_wp2_with fail
    refine (c _ (HB.out _)).mono ?_
    rintro e w1 ⟨rfl, hb1⟩
    go_wp2
    go_ret
    exact ⟨by rw [HF.out]; rfl, (HB.out _).trans (hb1.mono (by simp))⟩
  | true =>
    rw [hok] at c
    have hkind := ok_kind hok
    by_cases h0 : 0 < a.cuts.length
    · have HF : Hid (bins a = a.cuts.length + 1) := by unfold bins; rw [hok, if_pos rfl, if_pos (by omega)]; rfl
      clear hok hkind
      go_enter Tryd.func22, Tryd.ntmps22
      go_wp2_with fail
      refine (c _ (HB.out _)).mono ?_
      rintro e w1 ⟨rfl, hb1⟩
      have K := (Blk.new _ _ _).below hb1
      have B1 := (HB.out _).trans (hb1.mono (by simp))
      have k1 : w1.cell? ⟨w.heap.size, 1, none⟩ = some (.slice oc a.cuts.length cc) := K.cell 1
      have k2 : w1.cell? ⟨w.heap.size, 2, none⟩ = some (.slice ov a.vals.length cv) := K.cell 2
      clear c hb1 K
      go_wp2
      go_ret
      exact ⟨by rw [HF.out]; first | rfl | (congr 1; go_num), B1⟩
    · have HF : Hid (bins a = a.vals.length) := by unfold bins; rw [hok, if_pos rfl, if_neg (by omega)]; rfl
      clear hok hkind
      go_enter Tryd.func22, Tryd.ntmps22
      go_wp2_with fail
      refine (c _ (HB.out _)).mono ?_
      rintro e w1 ⟨rfl, hb1⟩
      have K := (Blk.new _ _ _).below hb1
      have B1 := (HB.out _).trans (hb1.mono (by simp))
      have k1 : w1.cell? ⟨w.heap.size, 1, none⟩ = some (.slice oc a.cuts.length cc) := K.cell 1
      have k2 : w1.cell? ⟨w.heap.size, 2, none⟩ = some (.slice ov a.vals.length cv) := K.cell 2
      clear c hb1 K
      go_wp2
      go_ret
      exact ⟨by rw [HF.out]; rfl, B1⟩
end Go.Proofs.YtfekcckckmhioaaDoor
/- The decimal digits of a number, one by one. -/
namespace Go.Proofs.YtfekcckckmhioaaDoor
open Go.RowKit
set_option maxRecDepth 100000

def ds (u : Nat) : List UInt8 := if u = 0 then [] else Lib.decDigits u
theorem ds_pos (u : Nat) (h : 0 < u) : ds u = ds (u / 10) ++ [UInt8.ofNat (48 + u % 10)] := by
  unfold ds
  rw [if_neg (by omega), Lib.decDigits]
  by_cases h10 : u < 10
  · rw [dif_pos h10, if_pos (by omega), Nat.mod_eq_of_lt h10]; rfl
  · rw [dif_neg h10, if_neg (by omega)]
theorem ds_zero : ds 0 = [] := rfl
theorem ds_of (u : Nat) (h : 0 < u) : ds u = Lib.decDigits u := if_neg (by omega)

theorem one_text (wx : World) (b : Int) : (convert 68 9 (.slice (some ⟨wx.heap.size, 0, none⟩) 1 1)).run Tryd.prog (wx.alloc (.cells #[.int .u8 b] 5)) = .ok (.string ⟨#[UInt8.ofNat b.toNat]⟩) (wx.alloc (.cells #[.int .u8 b] 5)) :=
  run_convert_bytes_arg (P := Tryd.prog) _ 68 5 Tryd.underlying68 Tryd.underlying5 wx.heap.size 0 1 1 [b] rfl (fun i hi => by
    obtain rfl : i = 0 := by omega
    simp) _ Tryd.underlying9

theorem one_text_drew (wx : World) (b : Int) : (convert 68 9 (.slice (some ⟨wx.heap.size, 0, none⟩) 1 1)).run Tryd.prog (wx.alloc (.cells #[.int .u8 b] 5)).drew = .ok (.string ⟨#[UInt8.ofNat b.toNat]⟩) (wx.alloc (.cells #[.int .u8 b] 5)).drew :=
  run_convert_bytes_arg (P := Tryd.prog) _ 68 5 Tryd.underlying68 Tryd.underlying5 wx.heap.size 0 1 1 [b] rfl (fun i hi => by
    obtain rfl : i = 0 := by omega
    show (wx.alloc (.cells #[.int .u8 b] 5)).cell? _ = _
    simp) _ Tryd.underlying9

theorem pow_step (u k : Nat) (h0 : 0 < u) (h : u < 10 ^ (19 - k)) : k < 19 ∧ u / 10 < 10 ^ (19 - (k + 1)) := by
  have hk : k < 19 := by
    rcases Nat.lt_or_ge k 19 with h1 | h1
    · exact h1
    · rw [show 19 - k = 0 by omega] at h; simp at h; omega
  refine ⟨hk, Nat.div_lt_of_lt_mul ?_⟩
  rw [show 19 - k = 19 - (k + 1) + 1 by omega, Nat.pow_succ, Nat.mul_comm] at h
  exact h

theorem cat1 (b c : UInt8) (done : List UInt8) (h : b = c) : Value.string ((⟨#[b]⟩ : ByteArray) ++ ⟨done.toArray⟩) = .string ⟨(c :: done).toArray⟩ := by
  subst h
  congr 1

end Go.Proofs.YtfekcckckmhioaaDoor
