/- The specification's small helpers on limbs. -/
import Derived.Test.YtonimdaimldbgabRi
import Derived.Test.YtonimdaimldbgabLi
import Derived.Test.YtonimdaimldbgabOa
namespace Go.Proofs.Ytonimdaimldbgab
open Go.RowKit
set_option maxRecDepth 100000

theorem max_any (a b : Nat) (w : World) : Calls Try.prog 30 #[.int .i64 (a : Int), .int .i64 (b : Int)] w fun e w' => e = .returned (.int .i64 ((max a b : Nat) : Int)) ∧ w' = w := by
  by_cases h : b < a
  · have e : max a b = a := by omega
    rw [e]
    clear e
    go_enter Try.func30, Try.ntmps30
    go_wp2
    go_ret
    exact ⟨rfl, rfl⟩
  · have e : max a b = b := by omega
    rw [e]
    clear e
    go_enter Try.func30, Try.ntmps30
    go_wp2
    go_ret
    exact ⟨rfl, rfl⟩

theorem limb_any (v : Value) (zs : List Int) (k : Nat) (w : World) (hv : RowI w v zs) (hn : zs.length ≤ 140737488351232) (hk : k ≤ 140737488351232) :
    Calls Try.prog 26 #[v, .int .i64 (k : Int)] w fun e w' => e = .returned (.int .i64 (zs.getD k 0)) ∧ w' = w := by
  obtain ⟨oa, cap, rfl, hcap, hrow⟩ := hv
  by_cases h : k < zs.length
  · obtain ⟨g, o, rfl, hg, hc⟩ := hrow (by omega)
    have hck := hc k h
    clear hrow hc hg hcap
    generalize zs.getD k 0 = z at hck
    generalize zs.length = n at h hn
    go_enter Try.func26, Try.ntmps26
    go_wp2
    go_ret
    exact ⟨rfl, rfl⟩
  · have e : zs.getD k 0 = 0 := by rw [List.getD_eq_getElem?_getD, List.getElem?_eq_none (by omega)]; rfl
    rw [e]
    clear hrow hcap e
    generalize zs.length = n at h hn
    go_enter Try.func26, Try.ntmps26
    go_wp2
    go_ret
    exact ⟨rfl, rfl⟩

theorem ownI_lit0 (w : World) (b : Nat) (hb : b ≤ w.heap.size) : (w.alloc (.cells #[] 3)).ownsRow b 3 1 (.slice (some ⟨w.heap.size, 0, none⟩) 0 0) 0 [] :=
  World.ownsRow_lit (base := b) (e := 3) (size := 1) w #[] 0 hb (by decide) rfl

theorem row_news {w : World} {g o k : Nat} {zs : List Int} (h : ∀ j, j < zs.length → w.cell? ⟨g, o + j, none⟩ = some (.int .i64 (zs.getD j 0))) : ∀ (j : Nat) (u : Value), ((zs.take k).map (Value.int .i64))[j]? = some u → w.cell? ((⟨g, o, none⟩ : Addr).add j) = some u := by
  intro j u hj
  have hlt : j < (zs.take k).length := by
    rcases Nat.lt_or_ge j (zs.take k).length with h1 | h1
    · exact h1
    · rw [List.getElem?_eq_none (by simp at h1 ⊢; omega)] at hj; cases hj
  have hlt2 : j < zs.length ∧ j < k := by simp at hlt; omega
  have e : (⟨g, o, none⟩ : Addr).add j = ⟨g, o + j, none⟩ := by unfold Addr.add; split <;> simp_all
  rw [e, h j hlt2.1]
  rw [getD_mapI _ _ hlt] at hj
  rw [← hj]
  congr 2
  rw [List.getD_eq_getElem?_getD, List.getD_eq_getElem?_getD, List.getElem?_take_of_lt hlt2.2]

set_option maxHeartbeats 800000 in
theorem trim_any (g o n cap : Nat) (a : List Nat) (w : World) (hn : a.length = n) (hcap : n ≤ cap) (hb : n ≤ 1048576) (hg : g < w.heap.size) (hlt : ∀ l ∈ a, l < 16777216)
    (hc : ∀ j, j < n → w.cell? ⟨g, o + j, none⟩ = some (.int .i64 ((a.getD j 0 : Nat) : Int))) :
    Calls Try.prog 27 #[.slice (some ⟨g, o, none⟩) n cap] w fun e w' => ∃ v, e = .returned v ∧ OwnA w' w.heap.size v (some (val a)) ∧ v ≠ .slice none 0 0 ∧ Below w.heap.size w w' := by
  obtain ⟨i0, hi, hz0, hz1, hz2⟩ := info_parts intInfo
  have HT : Hid (∀ k, k ≤ n → (∀ j, k ≤ j → j < n → a.getD j 0 = 0) → (k = 0 ∨ a.getD (k - 1) 0 ≠ 0) → a.take k = digs (val a)) := fun k hk h0 h1 => take_digs a k hlt (by omega) (by rw [hn]; exact h0) h1
  have HC : Hid (∀ j, j < n → w.cell? ⟨g, o + j, none⟩ = some (.int .i64 ((a.getD j 0 : Nat) : Int))) := hc
  have HN : Hid (a.length = n) := hn
  have hb1 : Below w.heap.size w (w.alloc (.cells #[] 3)) := (Below.refl _ _).alloc (Nat.le_refl _) _
  clear hc hn
  go_enter Try.func27, Try.ntmps27
  go_wp2
  go_loop [3] (fun i => ∃ k : Nat, i = .int .i64 k ∧ k ≤ n ∧ Hid (∀ j, k ≤ j → j < n → a.getD j 0 = 0)) (fun i => (intOf i).toNat)
  case atStart => exact ⟨n, rfl, by omega, fun j h1 h2 => by omega⟩
  case round =>
    obtain ⟨k, rfl, hk, hall⟩ := hrel
    have HNEW : Hid (∀ (j : Nat) (u : Value), (((up a).take k).map (Value.int .i64))[j]? = some u → (w.alloc (.cells #[] 3)).cell? ((⟨g, o, none⟩ : Addr).add j) = some u) :=
      row_news fun j hj => by
        rw [up_len, HN.out] at hj
        rw [up_getD]
        exact (hb1.cell (p := ⟨g, o + j, none⟩) hg).trans (HC.out j hj)
    have HL : Hid ((((up a).take k).map (Value.int .i64)).length = k * 1) := by
      show _ = _
      simp [up_len, HN.out]; omega
    have HO : Hid (∀ v' w1, a.take k = digs (val a) → w1.ownsRow w.heap.size 3 1 v' k (((up a).map (Value.int .i64)).take k) → OwnA w1 w.heap.size v' (some (val a))) := by
      intro v' w1 hk2 ho
      show w1.ownsRow _ _ _ v' (up (digs (val a))).length ((up (digs (val a))).map (Value.int .i64))
      rw [← hk2, ← up_take, List.length_take, up_len, HN.out, show min k n = k by omega, List.map_take]
      exact ho
    by_cases h0 : 0 < k
    · have hc := HC.out (k - 1) (by omega)
      generalize hX : a.getD (k - 1) 0 = X at hc
      have HX : Hid (a.getD (k - 1) 0 = X) := hX
      clear hX
      by_cases hz : X = 0
      · subst hz
        clear HNEW HL HO
        go_wp2
        go_round
        case rel =>
          refine ⟨k - 1, by go_num, by omega, fun j h1 h2 => ?_⟩
          by_cases e : j = k - 1
          · subst e; exact HX.out
          · exact hall.out j (by omega) h2
        case measure => simp [intOf]; omega
      · have hzb : ((X : Int) == 0) = false := by rw [eq0_cast]; simp [hz]
        have HK : Hid (a.take k = digs (val a)) := HT.out k hk hall.out (.inr (by rw [HX.out]; exact hz))
        go_wp2_with (at_builtin; refine wpList_append_own _ rfl _ _ 24 rfl w.heap.size 3 i0 (.int .i64 0) 1 8 Try.underlying24 hi hz0 hz1 hz2 rfl (by decide) _ _ _ rfl (ownI_lit0 w _ (Nat.le_refl _)) ⟨g, o, none⟩ k _ (((up a).take k).map (Value.int .i64)) rfl HL.out HNEW.out (ints_oneCell .i64 _) (by unfold maxLen; omega) (by omega) (by simp) ?_)
        intro v' w1 ho hgr hnil
        have hb2 : Below w.heap.size w w1 := hb1.grown hgr (by simp) (by intro j hj; cases hj; exact Nat.le_refl _)
        have hne : v' ≠ .slice none 0 0 := hnil
        have hov := HO.out v' w1 HK.out ho
        clear hgr hnil ho
        go_wp2
        go_ret
        exact ⟨_, rfl, hov, hne, hb2⟩
    · obtain rfl : k = 0 := by omega
      have HK : Hid (a.take 0 = digs (val a)) := HT.out 0 hk hall.out (.inl rfl)
      go_wp2_with (at_builtin; refine wpList_append_own _ rfl _ _ 24 rfl w.heap.size 3 i0 (.int .i64 0) 1 8 Try.underlying24 hi hz0 hz1 hz2 rfl (by decide) _ _ _ rfl (ownI_lit0 w _ (Nat.le_refl _)) ⟨g, o, none⟩ 0 _ (((up a).take 0).map (Value.int .i64)) rfl HL.out HNEW.out (ints_oneCell .i64 _) (by unfold maxLen; omega) (by omega) (by simp) ?_)
      intro v' w1 ho hgr hnil
      have hb2 : Below w.heap.size w w1 := hb1.grown hgr (by simp) (by intro j hj; cases hj; exact Nat.le_refl _)
      have hne : v' ≠ .slice none 0 0 := hnil
      have hov := HO.out v' w1 HK.out (by simpa using ho)
      clear hgr hnil ho
      go_wp2
      go_ret
      exact ⟨_, rfl, hov, hne, hb2⟩
end Go.Proofs.Ytonimdaimldbgab
