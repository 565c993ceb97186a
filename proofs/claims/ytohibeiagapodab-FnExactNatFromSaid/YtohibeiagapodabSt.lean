/- The specification's text of a great number. -/
import Derived.Test.YtohibeiagapodabSd
import Derived.Test.YtohibeiagapodabTx
namespace Go.Proofs.Ytohibeiagapodab
open Go.RowKit
set_option maxRecDepth 100000

/-- How long a text is, off its value. -/
def strLen : Value → Nat
  | .string s => s.size
  | _ => 0
theorem okL_digs_of (n : Nat) (h : n < top) : okL (up (digs n)) := okL_of _ (digs_norm n) ((digs_len 16 n).2 h)
theorem num_digs (n : Nat) : num (up (digs n)) = n := by unfold num; rw [nats_up, val_digs]
theorem div_digs (n : Nat) (h : n < top) : divO (up (digs n)) 10 = some (n / 10) ∧ remZ (up (digs n)) 10 = ((n % 10 : Nat) : Int) := by
  have hc : divC (up (digs n)) 10 := ⟨okL_digs_of n h, by decide, by decide⟩
  constructor
  · unfold divO; rw [if_pos hc, num_digs]; rfl
  · unfold remZ; rw [if_pos hc, num_digs]; rfl

set_option maxHeartbeats 1600000 in
theorem specText_pos (g o n cap : Nat) (zs : List Int) (w : World) (hzn : zs.length = n) (hcap : n ≤ cap) (hg : g < w.heap.size) (hc : ∀ j, j < n → w.cell? ⟨g, o + j, none⟩ = some (.int .i64 (zs.getD j 0))) (hn0 : 0 < n) (hok : okL zs) :
    Calls Try.prog 18 #[.slice (some ⟨g, o, none⟩) n cap] w fun e w' => e = .returned (.string ⟨(Lib.decDigits (num zs)).toArray⟩) ∧ Below w.heap.size w w' := by
  obtain ⟨i0, hi, hz0, hz1, hz2⟩ := info_parts intInfo
  have hn16 : n ≤ 16 := by have := hok.1; omega
  have c1 := specOk_any (.slice (some ⟨g, o, none⟩) n cap) zs w ⟨some ⟨g, o, none⟩, cap, by rw [hzn], by omega, fun _ => ⟨g, o, rfl, hg, fun j hj => hc j (by omega)⟩⟩ (by omega)
  rw [decide_eq_true hok] at c1
  have hb1 : Below w.heap.size w (w.alloc (.cells #[] 3)) := (Below.refl _ _).alloc (Nat.le_refl _) _
  have ht := okL_num_lt zs hok
  have hzd := okL_digs zs hok
  have hpos : 0 < num zs := by
    rcases Nat.eq_zero_or_pos (num zs) with h0 | h0
    · rw [h0, digs_zero] at hzd
      rw [hzd] at hzn
      simp [up] at hzn
      omega
    · exact h0
  have HNEW : Hid (∀ (j : Nat) (u : Value), ((zs.take n).map (Value.int .i64))[j]? = some u → (w.alloc (.cells #[] 3)).cell? ((⟨g, o, none⟩ : Addr).add j) = some u) :=
    row_news fun j hj => (hb1.cell (p := ⟨g, o + j, none⟩) hg).trans (hc j (by omega))
  rw [List.take_of_length_le (by omega)] at HNEW
  have HL : Hid ((zs.map (Value.int .i64)).length = n * 1) := by
    show _ = _
    simp [hzn]
  have HO : Hid (∀ v' w1, w1.ownsRow w.heap.size 3 1 v' (0 + n) ([] ++ zs.map (Value.int .i64)) → OwnA w1 w.heap.size v' (some (num zs))) := by
    intro v' w1 ho
    show w1.ownsRow _ _ _ v' (up (digs (num zs))).length ((up (digs (num zs))).map (Value.int .i64))
    rw [← hzd, hzn]
    simpa using ho
  have HNW : Hid ((zs.map (Value.int .i64)).length = n) := by show _ = _; simp [hzn]
  generalize num zs = n0 at ht hpos HO
  have hnb : ((n : Int) == 0) = false := by simp; omega
  have ot := one_text
  clear hc hok hzd hzn
  go_enter Try.func18, Try.ntmps18
  go_wp2_with (first | (go_at_call 22; refine c1.mono ?_; clear c1; rintro e w' ⟨rfl, rfl⟩) | (at_builtin; refine wpList_append_own _ rfl _ _ 22 rfl w'.heap.size 3 i0 (.int .i64 0) 1 8 Try.underlying22 hi hz0 hz1 hz2 rfl (by decide) _ _ _ rfl (ownI_lit0 w' _ (Nat.le_refl _)) ⟨g, o, none⟩ n _ (zs.map (Value.int .i64)) rfl HL.out HNEW.out (ints_oneCell .i64 _) (by unfold maxLen; omega) (by omega) (by simp) ?_))
  intro v' w1 ho hgr hnil
  have hb2 : Below w'.heap.size w' w1 := hb1.grown hgr (by simp) (by intro j hj; cases hj; exact Nat.le_refl _)
  have hov := HO.out v' w1 (by simpa using ho)
  clear hgr ho HO HL HNEW HNW hb1
  go_wp2
  go_loopw [3, 4] (fun out left wr => ∃ (cur : Nat) (D : List UInt8), out = .string ⟨D.toArray⟩ ∧ cur < top ∧ Hid (cur < 10 ^ (116 - D.length)) ∧ D.length ≤ 116 ∧ Hid (ds cur ++ D = ds n0) ∧ OwnA wr w'.heap.size left (some cur) ∧ left ≠ .slice none 0 0 ∧ Below w'.heap.size w' wr) (fun out _ _ => 117 - strLen out)
  case atStart => exact ⟨n0, [], rfl, ht, Nat.lt_of_lt_of_le ht top_lt, by simp, (by show _ = _; simp), hov, hnil, hb2⟩
  case round =>
    obtain ⟨cur, D, rfl, hct, hpw, hDl, hE, hleft, hne, hb⟩ := hrel
    clear hov hnil hb2
    have hs := hb.size
    obtain ⟨gl, cl, hL⟩ := hleft.form hne (show (ans (some cur)).length = (digs cur).length from up_len _)
    subst hL
    have hll : (digs cur).length ≤ 16 := (digs_len 16 cur).2 hct
    by_cases hlt : 0 < cur
    · have hlp : 0 < (digs cur).length := by rw [digs_pos cur hlt]; simp
      have c2 := specDiv_any _ (up (digs cur)) 10 wr hleft.row (by rw [up_len]; omega)
      rw [(div_digs cur hct).1, (div_digs cur hct).2] at c2
      have HST : Hid (ds (cur / 10) ++ UInt8.ofNat (48 + cur % 10) :: D = ds n0) := by
        show _ = _
        rw [← hE.out, ds_pos cur hlt]; simp
      have HTE := tenth hlt hpw.out
      have hk116 := HTE.1
      have HPW : Hid (cur / 10 < 10 ^ (116 - (D.length + 1))) := HTE.2
      have hr9 : cur % 10 ≤ 9 := by omega
      have hqt : cur / 10 < top := by omega
      clear hE hpw HTE hct
      generalize cur / 10 = q at c2 HST HPW hqt
      generalize cur % 10 = r at c2 HST hr9
      generalize (digs cur).length = L at c2 hlp hll
      go_wp2_with (go_at_call 16; refine c2.mono ?_; clear c2; rintro e w2 ⟨vq, rfl, hvq, hneq, hb3⟩)
      go_roundw
      case rel =>
        have hs3 := hb3.size
        refine ⟨q, UInt8.ofNat (48 + r) :: D, cat1 _ _ _ (by first | (simp; done) | (congr 1; omega)), hqt, HPW, by simp; omega, HST, (hvq.base hs).below ((Below.refl _ _).alloc (Nat.le_refl _) _), hneq, (hb.trans (hb3.mono hs)).alloc (by omega) _⟩
      case measure =>
        show 117 - ByteArray.size (_ ++ _) < 117 - ByteArray.size _
        rw [ByteArray.size_append]
        simp [ByteArray.size]; omega
    · obtain rfl : cur = 0 := by omega
      have hl0 : (digs 0).length = 0 := by rw [digs_zero]; rfl
      have hE2 := hE.out
      rw [ds_zero, List.nil_append, ds_of n0 hpos] at hE2
      have HE2 : Hid (D = Lib.decDigits n0) := hE2
      rw [hl0]
      clear hE hE2 hpw
      go_wp2
      go_ret
      exact ⟨by rw [← HE2.out]; rfl, hb⟩

theorem specText_any (v : Value) (zs : List Int) (w : World) (hv : RowI w v zs) (hn : zs.length ≤ 140737488351232) :
    Calls Try.prog 18 #[v] w fun e w' => e = .returned (.string ⟨(txt zs).toArray⟩) ∧ Below w.heap.size w w' := by
  have c1 := specOk_any v zs w hv hn
  by_cases hok : okL zs
  · have ht : txt zs = Lib.decDigits (num zs) := if_pos hok
    rw [ht]
    obtain ⟨oa, cap, rfl, hcap, hrow⟩ := hv
    by_cases h0 : 0 < zs.length
    · obtain ⟨g, o, rfl, hg, hc⟩ := hrow h0
      exact specText_pos g o zs.length cap zs w rfl hcap hg hc h0 hok
    · have hz : zs = [] := List.length_eq_zero_iff.1 (by omega)
      subst hz
      have hd : Lib.decDigits (num []) = [48] := dec0
      rw [hd]
      rw [decide_eq_true hok] at c1
      clear hok ht hrow h0 hd
      go_enter Try.func18, Try.ntmps18
      go_wp2_with (go_at_call 22; refine c1.mono ?_; clear c1; rintro e w' ⟨rfl, rfl⟩)
      go_ret
      exact ⟨rfl, Below.refl _ _⟩
  · have ht : txt zs = [] := if_neg hok
    rw [ht]
    rw [decide_eq_false hok] at c1
    clear hok ht
    go_enter Try.func18, Try.ntmps18
    go_wp2_with (go_at_call 22; refine c1.mono ?_; clear c1; rintro e w' ⟨rfl, rfl⟩)
    go_ret
    exact ⟨rfl, Below.refl _ _⟩
end Go.Proofs.Ytohibeiagapodab
