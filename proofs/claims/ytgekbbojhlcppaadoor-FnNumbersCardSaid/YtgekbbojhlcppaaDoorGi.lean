/- The program's reader of a number: it panics inside where there is none, and is recovered. -/
import Derived.Test.YtgekbbojhlcppaaDoorGp
import Derived.WalkLawsBesides
import Derived.Defers
import Derived.Recover
namespace Go.Proofs.YtgekbbojhlcppaaDoor
open Go.RowKit
set_option maxRecDepth 100000

theorem and127 {c : Int} (h₀ : 0 ≤ c) (h₁ : c ≤ 255) : bits .and .u8 c 127 = c % 128 := bits_mask .u8 8 (by decide) wraps_u8 7 (by decide) c h₀ (by omega)

/-- How mustNum ends. -/
def endNum (ev : Value) (q : Int) : Option (Int × Nat) → Ending
  | none => .panicked [{ v := ev, recovered := false }]
  | some (a, k) => .returned (.tuple #[.int .i64 a, .int .i64 (q + k)])

set_option maxHeartbeats 1600000 in
theorem must_in (g o n cap : Nat) (zs : List Int) (q : Nat) (ev : Value) (u : TypeId) (w : World) (hn : n ≤ 140737488351232) (hz : zs.length = n) (hcap : n ≤ cap) (hr : ∀ j : Nat, 0 ≤ zs.getD j 0 ∧ zs.getD j 0 ≤ 255)
    (hc : ∀ j, j < n → w.cell? ⟨g, o + j, none⟩ = some (.int .u8 (zs.getD j 0))) (hq : q < n) (hv : w.cell? ⟨1, 0, none⟩ = some (.iface u ev)) :
    Calls Tryd.prog 32 #[.slice (some ⟨g, o, none⟩) n cap, .int .i64 q] w fun e w' => e = endNum (.iface u ev) q (num 5 0 0 (zs.drop q)) ∧ w' = w := by
  have HZ : Hid (zs.length = n) := hz
  clear hz
  have hq0 : decide ((q : Int) < 0) = false := by simp
  have hq1 : decide ((n : Int) < (q : Int)) = false := by simp; omega
  have e5 : ((q : Int) + 5).toNat - q = 5 := by omega
  go_enter Tryd.func32, Tryd.ntmps32
  go_wp2
  all_goals
    go_loop [6, 27] (fun x i => ∃ (k : Nat) (a : Int), k ≤ 5 ∧ q + k ≤ n ∧ i = .int .i64 k ∧ x = .int .i64 a ∧ 0 ≤ a ∧ a < 2 ^ (7 * k) ∧ num 5 0 0 (zs.drop q) = num (5 - k) k a (zs.drop (q + k))) (fun _ i => 5 - (intOf i).toNat)
    case atStart => exact ⟨0, 0, by omega, by omega, rfl, rfl, by omega, by simp, by simp⟩
    case round =>
      obtain ⟨k, a, hk, hqk, rfl, rfl, ha0, ha1, hE⟩ := hrel
      have HE : Hid (num 5 0 0 (zs.drop q) = num (5 - k) k a (zs.drop (q + k))) := hE
      have HA : Hid (a < 2 ^ (7 * k)) := ha1
      clear hE ha1
      by_cases hlt : k < 5 ∧ q + k < n
      · obtain ⟨hlt, hin⟩ := hlt
        have hcell : w.cell? ⟨g, o + q + k, none⟩ = some (.int .u8 (zs.getD (q + k) 0)) := by rw [Nat.add_assoc]; exact hc (q + k) hin
        have hrk := hr (q + k)
        have hinz : q + k < zs.length := by rw [HZ.out]; exact hin
        clear hr hc
        generalize hd : zs.getD (q + k) 0 = d at hcell hrk
        have hj := or_join a (d % 128) k (by omega) ha0 HA.out (by omega) (by omega)
        generalize hV : a + d % 128 * 2 ^ (7 * k) = V at hj
        obtain ⟨hj, hV0, hV1⟩ := hj
        have HV : Hid (V = a + d % 128 * 2 ^ (7 * k)) := hV.symm
        have HD : Hid (d = zs.getD (q + k) 0) := hd.symm
        have HV1 : Hid (V < 2 ^ (7 * (k + 1))) := hV1
        have HI : Hid (q + k < zs.length) := hinz
        obtain ⟨hd0, hd1⟩ := hrk
        have h127 := and127 hd0 hd1
        clear hV hd hV1 hinz
        by_cases hl : d < 128
        · by_cases hb : (0 < k ∧ d = 0) ∨ 2147483647 < V
          · have hfin := HE.out.trans (num_bad hlt HI.out HD.out HV.out hl hb)
            have HF : Hid (num 5 0 0 (zs.drop q) = none) := hfin
            clear hfin
            by_cases hvb : 2147483647 < V
            · clear hb
              go_wp2
              exact ⟨rfl, by rw [HF.out]; rfl, rfl⟩
            · have hk0 : 0 < k := by omega
              have hdb : (d == 0) = true := by simp; omega
              clear hb
              go_wp2
              exact ⟨rfl, by rw [HF.out]; rfl, rfl⟩
          · have hfin := HE.out.trans (num_good hlt HI.out HD.out HV.out hl hb)
            have HF : Hid (num 5 0 0 (zs.drop q) = some (V, k + 1)) := hfin
            clear hfin
            have hvb : V ≤ 2147483647 := by omega
            by_cases hk0 : 0 < k
            · have hdz : ¬ d = 0 := by omega
              have hdb : (d == 0) = false := by simp [hdz]
              clear hb
              go_wp2
              go_ret2
              exact ⟨by rw [HF.out]; simp [endNum]; omega, rfl⟩
            · clear hb
              cases hdb : (d == 0)
              all_goals
                go_wp2
                go_ret2
                exact ⟨by rw [HF.out]; simp [endNum]; omega, rfl⟩
        · have hE := HE.out.trans (num_more hlt HI.out HD.out HV.out hl)
          have HE2 : Hid (num 5 0 0 (zs.drop q) = num (5 - (k + 1)) (k + 1) V (zs.drop (q + (k + 1)))) := hE
          clear hE HE
          go_wp2
          go_round
          case rel => exact ⟨k + 1, V, by omega, by omega, by go_num, rfl, hV0, HV1.out, HE2.out⟩
          case measure => simp [intOf]; omega
      · have hfin := HE.out.trans (num_out (zs := zs) (q := q) (k := k) (a := a) (by rw [HZ.out]; omega))
        have HF : Hid (num 5 0 0 (zs.drop q) = none) := hfin
        clear hr hc hfin
        go_wp2
        exact ⟨rfl, by rw [HF.out]; rfl, rfl⟩

theorem getNum_out {zs : List Int} {p : Int} (h : p < 0 ∨ (zs.length : Int) ≤ p) : getNum zs p = none := by
  unfold getNum
  split
  · rfl
  · rw [List.drop_eq_nil_of_le (by omega)]; rfl

set_option maxHeartbeats 800000 in
theorem must_any (g o n cap : Nat) (zs : List Int) (p : Int) (ev : Value) (u : TypeId) (w : World) (hn : n ≤ 140737488351232) (hz : zs.length = n) (hcap : n ≤ cap) (hr : ∀ j : Nat, 0 ≤ zs.getD j 0 ∧ zs.getD j 0 ≤ 255)
    (hc : ∀ j, j < n → w.cell? ⟨g, o + j, none⟩ = some (.int .u8 (zs.getD j 0))) (hv : w.cell? ⟨1, 0, none⟩ = some (.iface u ev)) :
    Calls Tryd.prog 32 #[.slice (some ⟨g, o, none⟩) n cap, .int .i64 p] w fun e w' => e = endNum (.iface u ev) p (getNum zs p) ∧ w' = w := by
  by_cases h0 : p < 0
  · rw [getNum_out (.inl h0)]
    clear hc hr
    go_enter Tryd.func32, Tryd.ntmps32
    go_wp2
    exact ⟨rfl, rfl, rfl⟩
  · by_cases h1 : (n : Int) < p
    · rw [getNum_out (.inr (by omega))]
      clear hc hr
      go_enter Tryd.func32, Tryd.ntmps32
      go_wp2
      exact ⟨rfl, rfl, rfl⟩
    · by_cases h2 : p = n
      · rw [getNum_out (.inr (by omega)), h2]
        clear hc hr hz h0 h1 h2
        have hq1 : decide ((n : Int) < (n : Int)) = false := by simp
        go_enter Tryd.func32, Tryd.ntmps32
        go_wp2
        all_goals
          refine wp_loop_rounds 1 ?_
          rw [rounds_succ]
          go_wp2
          exact ⟨rfl, rfl, rfl⟩
      · obtain ⟨q, rfl⟩ := Int.eq_ofNat_of_zero_le (show 0 ≤ p by omega)
        have hg : getNum zs q = num 5 0 0 (zs.drop q) := by rw [getNum, if_neg h0]; simp
        rw [hg]
        exact must_in g o n cap zs q ev u w hn hz hcap hr hc (by omega) hv

end Go.Proofs.YtgekbbojhlcppaaDoor
