/- The number that begins at a place, as a plain function; the specification's reader answers it. -/
import Derived.Test.YtgekbbojhlcppabDoorRows
import Derived.WalkKit
import Derived.ProofKit
import Derived.OpenShut
namespace Go.Proofs.YtgekbbojhlcppabDoor
open Go.RowKit

def num : Nat → Nat → Int → List Int → Option (Int × Nat)
  | 0, _, _, _ => none
  | _ + 1, _, _, [] => none
  | f + 1, k, n, d :: r =>
    if d < 128 then (if (0 < k ∧ d = 0) ∨ 2147483647 < n + d % 128 * 2 ^ (7 * k) then none else some (n + d % 128 * 2 ^ (7 * k), k + 1))
    else num f (k + 1) (n + d % 128 * 2 ^ (7 * k)) r
def getNum (zs : List Int) (p : Int) : Option (Int × Nat) := if p < 0 then none else num 5 0 0 (zs.drop p.toNat)
/-- What GetNum hands back. -/
def gotNum (p : Int) : Option (Int × Nat) → Value
  | none => .tuple #[.int .i64 0, .int .i64 0, .bool false]
  | some (n, k) => .tuple #[.int .i64 n, .int .i64 (p + k), .bool true]

theorem or_join (n x : Int) (k : Nat) (hk : k ≤ 4) (h0 : 0 ≤ n) (h1 : n < 2 ^ (7 * k)) (hx0 : 0 ≤ x) (hx1 : x < 128) :
    bits .or .i64 n (wrap64 (x * 2 ^ (7 * k))) = n + x * 2 ^ (7 * k) ∧ 0 ≤ n + x * 2 ^ (7 * k) ∧ n + x * 2 ^ (7 * k) < 2 ^ (7 * (k + 1)) := by
  have hw : ∀ n : Int, 0 ≤ n → n < 2 ^ 40 → IntKind.i64.wrap n = n := fun n h0 h1 => by rw [IntKind.wrap_i64]; omega
  obtain ⟨a, rfl⟩ := Int.eq_ofNat_of_zero_le h0
  obtain ⟨b, rfl⟩ := Int.eq_ofNat_of_zero_le hx0
  have hb : b < 128 := by omega
  have hp : (2 : Int) ^ (7 * (k + 1)) = 128 * 2 ^ (7 * k) := by rw [Nat.mul_add, Int.pow_add]; omega
  have hP : (2 : Int) ^ (7 * k) = ((2 ^ (7 * k) : Nat) : Int) := by simp
  have hle : 2 ^ (7 * k) ≤ 2 ^ 28 := Nat.pow_le_pow_right (by decide) (by omega)
  have h1' : a < 2 ^ (7 * k) := by rw [hP] at h1; exact_mod_cast h1
  rw [hp, hP]
  generalize hM : 2 ^ (7 * k) = M at *
  have hM0 : 0 < M := by rw [← hM]; exact Nat.two_pow_pos _
  have hbM : b * M ≤ 127 * M := Nat.mul_le_mul_right _ (by omega)
  have e1 : ((b : Int) * (M : Int)) = ((b * M : Nat) : Int) := by simp
  rw [e1]
  have e2 : wrap64 ((b * M : Nat) : Int) = ((b * M : Nat) : Int) := by unfold wrap64; omega
  rw [e2, (bits_nat .i64 40 (by decide) hw a (b * M) (by omega) (by omega)).2]
  have e3 : a ||| b * M = b * M + a := by
    rw [Nat.or_comm, ← hM, Nat.mul_comm b, Nat.two_pow_add_eq_or_of_lt (by rw [hM]; exact h1') b]
  rw [e3]
  exact ⟨by omega, by omega, by omega⟩

theorem drop_at {zs : List Int} {i : Nat} (h : i < zs.length) : zs.drop i = zs.getD i 0 :: zs.drop (i + 1) := by
  rw [List.drop_eq_getElem_cons h]; simp [h]
theorem num_bad {zs : List Int} {q k : Nat} {a d V : Int} (hk : k < 5) (hin : q + k < zs.length) (hd : d = zs.getD (q + k) 0) (hV : V = a + d % 128 * 2 ^ (7 * k)) (hl : d < 128) (hb : (0 < k ∧ d = 0) ∨ 2147483647 < V) : num (5 - k) k a (zs.drop (q + k)) = none := by
  obtain ⟨f, hf⟩ : ∃ f, 5 - k = f + 1 := ⟨4 - k, by omega⟩
  rw [hf, drop_at hin, ← hd, num, if_pos hl, ← hV, if_pos hb]
theorem num_good {zs : List Int} {q k : Nat} {a d V : Int} (hk : k < 5) (hin : q + k < zs.length) (hd : d = zs.getD (q + k) 0) (hV : V = a + d % 128 * 2 ^ (7 * k)) (hl : d < 128) (hb : ¬ ((0 < k ∧ d = 0) ∨ 2147483647 < V)) : num (5 - k) k a (zs.drop (q + k)) = some (V, k + 1) := by
  obtain ⟨f, hf⟩ : ∃ f, 5 - k = f + 1 := ⟨4 - k, by omega⟩
  rw [hf, drop_at hin, ← hd, num, if_pos hl, ← hV, if_neg hb]
theorem num_more {zs : List Int} {q k : Nat} {a d V : Int} (hk : k < 5) (hin : q + k < zs.length) (hd : d = zs.getD (q + k) 0) (hV : V = a + d % 128 * 2 ^ (7 * k)) (hl : ¬ d < 128) : num (5 - k) k a (zs.drop (q + k)) = num (5 - (k + 1)) (k + 1) V (zs.drop (q + (k + 1))) := by
  obtain ⟨f, hf⟩ : ∃ f, 5 - k = f + 1 := ⟨4 - k, by omega⟩
  rw [hf, drop_at hin, ← hd, num, if_neg hl, ← hV, show 5 - (k + 1) = f by omega]
  rfl
theorem num_out {zs : List Int} {q k : Nat} {a : Int} (h : k = 5 ∨ zs.length ≤ q + k) : num (5 - k) k a (zs.drop (q + k)) = none := by
  rcases h with rfl | h
  · rfl
  · rw [List.drop_eq_nil_of_le h]
    cases 5 - k <;> rfl

set_option maxHeartbeats 800000 in
theorem specNum_any (g o n cap : Nat) (zs : List Int) (p : Int) (w : World) (hn : n ≤ 140737488351232) (hz : zs.length = n) (hr : ∀ j : Nat, 0 ≤ zs.getD j 0 ∧ zs.getD j 0 ≤ 255)
    (hc : ∀ j, j < n → w.cell? ⟨g, o + j, none⟩ = some (.int .u8 (zs.getD j 0))) (hp0 : -9223372036854775808 ≤ p) (hp1 : p ≤ 9223372036854775807) :
    Calls Tryd.prog 6 #[.slice (some ⟨g, o, none⟩) n cap, .int .i64 p] w fun e w' => e = .returned (gotNum p (getNum zs p)) ∧ w' = w := by
  by_cases hp : p < 0
  · have hg : getNum zs p = none := by rw [getNum, if_pos hp]
    rw [hg]
    go_enter Tryd.func6, Tryd.ntmps6
    go_wp2
    refine wp_loop_rounds 1 ?_
    rw [rounds_succ]
    go_wp2
    go_ret3
    exact ⟨rfl, rfl⟩
  · obtain ⟨q, rfl⟩ := Int.eq_ofNat_of_zero_le (show 0 ≤ p by omega)
    have hg : getNum zs q = num 5 0 0 (zs.drop q) := by rw [getNum, if_neg hp]; simp
    have HG : Hid (getNum zs q = num 5 0 0 (zs.drop q)) := hg
    have HZ : Hid (zs.length = n) := hz
    clear hg hp hz
    go_enter Tryd.func6, Tryd.ntmps6
    go_wp2
    go_loop [7, 8] (fun x i => ∃ (k : Nat) (a : Int), k ≤ 5 ∧ i = .int .i64 k ∧ x = .int .i64 a ∧ 0 ≤ a ∧ a < 2 ^ (7 * k) ∧ num 5 0 0 (zs.drop q) = num (5 - k) k a (zs.drop (q + k))) (fun _ i => 5 - (intOf i).toNat)
    case atStart => exact ⟨0, 0, by omega, rfl, rfl, by omega, by simp, by simp⟩
    case round =>
      obtain ⟨k, a, hk, rfl, rfl, ha0, ha1, hE⟩ := hrel
      have HE : Hid (num 5 0 0 (zs.drop q) = num (5 - k) k a (zs.drop (q + k))) := hE
      have HA : Hid (a < 2 ^ (7 * k)) := ha1
      clear hE ha1
      by_cases hlt : k < 5
      · by_cases hin : q + k < n
        · have hcell := hc (q + k) hin
          have hrk := hr (q + k)
          have hinz : q + k < zs.length := by rw [HZ.out]; exact hin
          clear hr hc
          generalize hd : zs.getD (q + k) 0 = d at hcell hrk
          have hj := or_join a (d % 128) k (by omega) ha0 HA.out (by omega) (by omega)
          generalize hV : a + d % 128 * 2 ^ (7 * k) = V at hj
          obtain ⟨hj, hV0, hV1⟩ := hj
          have HV : Hid (V = a + d % 128 * 2 ^ (7 * k)) := hV.symm
          have HD : Hid (d = zs.getD (q + k) 0) := hd.symm
          have HV1 : Hid (V < 2 ^ (7 * (k + 1))) := hV1
          have HI : Hid (q + k < zs.length) := hinz
          obtain ⟨hd0, hd1⟩ := hrk
          clear hV hd hV1 hinz
          by_cases hl : d < 128
          · by_cases hb : (0 < k ∧ d = 0) ∨ 2147483647 < V
            · have hfin := HG.out.trans (HE.out.trans (num_bad hlt HI.out HD.out HV.out hl hb))
              have HF : Hid (getNum zs q = none) := hfin
              clear hfin HG
              by_cases hk0 : 0 < k
              · by_cases hdz : d = 0
                · subst hdz
                  clear hb
                  go_wp2
                  go_ret3
                  exact ⟨by rw [HF.out]; rfl, rfl⟩
                · have hvb : 2147483647 < V := by omega
                  have hdb : (d == 0) = false := by simp [hdz]
                  clear hb
                  go_wp2
                  go_ret3
                  exact ⟨by rw [HF.out]; rfl, rfl⟩
              · have hvb : 2147483647 < V := by omega
                clear hb
                go_wp2
                go_ret3
                exact ⟨by rw [HF.out]; rfl, rfl⟩
            · have hfin := HG.out.trans (HE.out.trans (num_good hlt HI.out HD.out HV.out hl hb))
              have HF : Hid (getNum zs q = some (V, k + 1)) := hfin
              clear hfin HG
              have hvb : V ≤ 2147483647 := by omega
              by_cases hk0 : 0 < k
              · have hdz : ¬ d = 0 := by omega
                have hdb : (d == 0) = false := by simp [hdz]
                clear hb
                go_wp2
                go_ret3
                exact ⟨by rw [HF.out]; simp [gotNum]; omega, rfl⟩
              · clear hb
                go_wp2
                go_ret3
                exact ⟨by rw [HF.out]; simp [gotNum]; omega, rfl⟩
          · have hE := HE.out.trans (num_more hlt HI.out HD.out HV.out hl)
            have HE2 : Hid (num 5 0 0 (zs.drop q) = num (5 - (k + 1)) (k + 1) V (zs.drop (q + (k + 1)))) := hE
            clear hE HE
            go_wp2
            go_round
            case rel => exact ⟨k + 1, V, by omega, by go_num, rfl, hV0, HV1.out, HE2.out⟩
            case measure => simp [intOf]; omega
        · have hfin := HG.out.trans (HE.out.trans (num_out (.inr (by rw [HZ.out]; omega))))
          have HF : Hid (getNum zs q = none) := hfin
          clear hr hc hfin HG
          go_wp2
          go_ret3
          exact ⟨by rw [HF.out]; rfl, rfl⟩
      · have hfin := HG.out.trans (HE.out.trans (num_out (.inl (by omega))))
        have HF : Hid (getNum zs q = none) := hfin
        clear hr hc hfin HG
        go_wp2
        go_ret3
        exact ⟨by rw [HF.out]; rfl, rfl⟩
end Go.Proofs.YtgekbbojhlcppabDoor
