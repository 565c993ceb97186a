/- The library's slices.Reverse on bytes of the call's own. -/
import Derived.Test.YtobnghmadoejjaaBg
import Derived.WalkKit
import Derived.ProofKit
import Derived.OpenShut
import Derived.Deep.QuietTactic
import Derived.BigQuiet
import Derived.WalkSmall
namespace Go.Proofs.Ytobnghmadoejjaa
open Go.RowKit
set_option maxRecDepth 100000

/-- What k rounds have done. -/
def Turned (xs ys : List Value) (k : Nat) : Prop := ys.length = xs.length ∧ ∀ m, m < xs.length → ys[m]? = if m < k ∨ xs.length - k ≤ m then xs[xs.length - 1 - m]? else xs[m]?
theorem turned_start (xs : List Value) : Turned xs xs 0 := ⟨rfl, fun m hm => by rw [if_neg (by omega)]⟩
theorem turned_done {xs ys : List Value} {k : Nat} (h : Turned xs ys k) (hk : xs.length ≤ 2 * k + 1) : ys = xs.reverse := by
  apply List.ext_getElem?
  intro m
  by_cases hm : m < xs.length
  · rw [h.2 m hm, List.getElem?_reverse hm]
    by_cases hc : m < k ∨ xs.length - k ≤ m
    · rw [if_pos hc]
    · rw [if_neg hc, show xs.length - 1 - m = m by omega]
  · rw [List.getElem?_eq_none (by rw [h.1]; omega), List.getElem?_eq_none (by simp; omega)]
theorem turned_next {xs ys : List Value} {k : Nat} (h : Turned xs ys k) (hk : k < xs.length - 1 - k) (vi vj : Value) (hi : ys[k]? = some vi) (hj : ys[xs.length - 1 - k]? = some vj) :
    Turned xs ((ys.set k vj).set (xs.length - 1 - k) vi) (k + 1) := by
  have hl := h.1
  have ei := h.2 k (by omega)
  have ej := h.2 (xs.length - 1 - k) (by omega)
  rw [if_neg (by omega)] at ei ej
  refine ⟨by simp [hl], fun m hm => ?_⟩
  by_cases e1 : m = xs.length - 1 - k
  · subst e1
    rw [List.getElem?_set_self (by simp; omega), if_pos (by omega), show xs.length - 1 - (xs.length - 1 - k) = k by omega, ← ei, hi]
  · rw [List.getElem?_set_ne (by omega)]
    by_cases e2 : m = k
    · subst e2
      rw [List.getElem?_set_self (by omega), if_pos (by omega), ← ej, hj]
    · rw [List.getElem?_set_ne (by omega), h.2 m hm]
      by_cases hc : m < k ∨ xs.length - k ≤ m
      · rw [if_pos hc, if_pos (by omega)]
      · rw [if_neg hc, if_neg (by omega)]

set_option maxHeartbeats 1600000 in
theorem rev_pos (g n cap base : Nat) (xs : List Value) (w : World) (hn : n ≤ 140737488351232) (ho : w.ownsRow base 5 1 (.slice (some ⟨g, 0, none⟩) n cap) n xs) (hx : ∀ m, m < n → ∃ b, xs[m]? = some (.int .u8 b)) :
    Calls Try.prog 43 #[.slice (some ⟨g, 0, none⟩) n cap] w fun e w' => (∃ v, e = .returned v) ∧ w'.ownsRow base 5 1 (.slice (some ⟨g, 0, none⟩) n cap) n xs.reverse ∧ w.grownBy w' (some g) := by
  have hxl : xs.length = n := by have := ho.1; omega
  have HX : Hid (∀ m, m < n → ∃ b, xs[m]? = some (.int .u8 b)) := hx
  have HXL : Hid (xs.length = n) := hxl
  clear hx hxl
  go_enter Try.func43, Try.ntmps43
  go_wp2
  go_loopw [2, 3] (fun i j wr => ∃ (k : Nat) (ys : List Value), i = .int .i64 (k : Int) ∧ j = .int .i64 ((n : Int) - 1 - k) ∧ 2 * k ≤ n + 1 ∧ Hid (Turned xs ys k) ∧ Hid (∀ m, m < n → ∃ b, ys[m]? = some (.int .u8 b)) ∧ wr.ownsRow base 5 1 (.slice (some ⟨g, 0, none⟩) n cap) n ys ∧ w.grownBy wr (some g)) (fun i _ _ => n + 1 - (intOf i).toNat)
  case atStart => exact ⟨0, xs, rfl, by simp, by omega, turned_start xs, HX, ho, World.grownBy.refl _ _⟩
  case round =>
    obtain ⟨k, ys, rfl, rfl, hk, hT, hB, hown, hgr⟩ := hrel
    by_cases hlt : k + 1 + k < n
    · obtain ⟨bi, hbi⟩ := hB.out k (by omega)
      obtain ⟨bj, hbj⟩ := hB.out (n - 1 - k) (by omega)
      obtain ⟨j, hj⟩ : ∃ j, n - 1 - k = j := ⟨_, rfl⟩
      have hjj : (n : Int) - 1 - k = (j : Int) := by omega
      rw [hj] at hbj
      rw [hjj]
      have hci : wr.cell? ⟨g, k, none⟩ = some (.int .u8 bi) := by rw [hown.cellAt k (by omega)]; exact hbi
      have hcj : wr.cell? ⟨g, j, none⟩ = some (.int .u8 bj) := by rw [hown.cellAt j (by omega)]; exact hbj
      have hfi : wr.frozen? ⟨g, k, none⟩ = false := hown.frozenAt k
      have hfj : wr.frozen? ⟨g, j, none⟩ = false := hown.frozenAt j
      have hjn : j < n := by omega
      have hkj : k < j := by omega
      have hnx := turned_next hT.out (by rw [HXL.out]; omega) (.int .u8 bi) (.int .u8 bj) hbi (by rw [HXL.out, hj]; exact hbj)
      rw [HXL.out, hj] at hnx
      have HNX : Hid (Turned xs ((ys.set k (.int .u8 bj)).set j (.int .u8 bi)) (k + 1)) := hnx
      have s1 := hown.stored k (.int .u8 bj)
      have s2 := s1.1.stored j (.int .u8 bi)
      have HJ : Hid (n - 1 - k = j) := hj
      have HW : Hid ((wr.setCell ⟨g, k, none⟩ (.int .u8 bj)).ownsRow base 5 1 (.slice (some ⟨g, 0, none⟩) n cap) n (ys.set k (.int .u8 bj)) ∧ wr.grownBy (wr.setCell ⟨g, k, none⟩ (.int .u8 bj)) (some g)) := s1
      have HW2 : Hid (((wr.setCell ⟨g, k, none⟩ (.int .u8 bj)).setCell ⟨g, j, none⟩ (.int .u8 bi)).ownsRow base 5 1 (.slice (some ⟨g, 0, none⟩) n cap) n ((ys.set k (.int .u8 bj)).set j (.int .u8 bi)) ∧ (wr.setCell ⟨g, k, none⟩ (.int .u8 bj)).grownBy ((wr.setCell ⟨g, k, none⟩ (.int .u8 bj)).setCell ⟨g, j, none⟩ (.int .u8 bi)) (some g)) := s2
      have hcj2 : (wr.setCell ⟨g, k, none⟩ (.int .u8 bj)).drew.cell? ⟨g, j, none⟩ = some (.int .u8 bj) := by
        refine (World.cell?_setCell_other wr ⟨g, k, none⟩ ⟨g, j, none⟩ _ (fun e => by have := congrArg Addr.off e; simp at this; omega)).trans hcj
      have hfj2 : (wr.setCell ⟨g, k, none⟩ (.int .u8 bj)).drew.frozen? ⟨g, j, none⟩ = false := (World.frozen?_setCell wr _ _ _).trans hfj
      clear hnx s1 s2 hj hbi hbj
      go_wp2
      go_region
      go_wp2
      go_roundw
      case rel =>
        have hj := HJ.out
        refine ⟨k + 1, _, by go_num, by go_num, by omega, HNX, fun m hm => ?_, own_below HW2.out.1 ⟨rfl, rfl, rfl, Nat.le_refl _, fun _ _ => rfl⟩, ?_⟩
        · rw [List.getElem?_set]
          by_cases e1 : j = m
          · rw [if_pos e1]
            rw [if_pos (by have := HW.out.1.1; omega)]
            exact ⟨bi, rfl⟩
          · rw [if_neg e1, List.getElem?_set]
            by_cases e2 : k = m
            · rw [if_pos e2]
              rw [if_pos (by have := hown.1; omega)]
              exact ⟨bj, rfl⟩
            · rw [if_neg e2]; exact hB.out m hm
        · have h := grownBy_trans hgr (grownBy_trans HW.out.2 HW2.out.2)
          exact ⟨h.os, h.tape, h.output, h.size, h.block⟩
      case measure => simp [intOf]; omega
    · have hrev := turned_done hT.out (by rw [HXL.out]; omega)
      have HREV : Hid (ys = xs.reverse) := hrev
      clear hrev
      have hge : (n : Int) - 1 - k ≤ (k : Int) := by omega
      go_wp2
      go_end0
      exact ⟨⟨_, rfl⟩, HREV.out ▸ hown, hgr⟩
end Go.Proofs.Ytobnghmadoejjaa
