/- What the laws' own helpers write over a list of texts, and look at again. -/
import Derived.Test.YtlpjigpnpafkiabDoorBg
import Derived.Test.YtlpjigpnpafkiabDoorDd
import Derived.Deep.QuietTactic
import Derived.BigQuiet
import Derived.WalkSmall
import Derived.Lib.QuietBelow
namespace Go.Proofs.YtlpjigpnpafkiabDoor
open Go.RowKit
set_option maxRecDepth 100000

/-- The text that the law writes in the k-th place. -/
def mtxt (k : Nat) : ByteArray := ⟨(109 :: ds k).toArray⟩

set_option maxHeartbeats 800000 in
theorem markText_any (u0 : Nat) (w : World) (h0 : 0 < u0) (h1 : u0 ≤ 9223372036854775807) :
    Calls Tryd.prog 66 #[.int .i64 (u0 : Int)] w fun e w' => e = .returned (.string (mtxt u0)) ∧ Below w.heap.size w w' := by
  have ot := one_text
  have hn0 : decide ((u0 : Int) ≤ 0) = false := by simp; omega
  go_enter Tryd.func66, Tryd.ntmps66
  go_wp2
  go_loopw [0, 3] (fun n v wr => ∃ (u : Nat) (done : List UInt8), n = .int .i64 (u : Int) ∧ u ≤ 9223372036854775807 ∧ v = .string ⟨done.toArray⟩ ∧ done.length ≤ 19 ∧ u < 10 ^ (19 - done.length) ∧ ds u ++ done = ds u0 ∧ Below w.heap.size w wr) (fun n _ _ => (intOf n).toNat)
  case atStart => exact ⟨u0, [], rfl, h1, rfl, by simp, by simp; omega, by simp, Below.refl _ _⟩
  case round =>
    obtain ⟨u, done, rfl, hu, rfl, hlen, hdn, hE, hb⟩ := hrel
    have HE : Hid (ds u ++ done = ds u0) := hE
    have HD : Hid (u < 10 ^ (19 - done.length)) := hdn
    clear hE hdn
    by_cases hz : 0 < u
    · go_wp2
      go_roundw
      case rel =>
        obtain ⟨p1, p2⟩ := pow_step u done.length hz HD.out
        refine ⟨u / 10, UInt8.ofNat (48 + u % 10) :: done, by go_num, by omega, ?_, by simp; omega, by simpa using p2, ?_, ?_⟩
        · exact cat1 _ _ _ (by first | (simp; done) | (congr 1; omega))
        · rw [← HE.out, ds_pos u hz]; simp
        · exact hb.alloc hb.size _
      case measure => simp [intOf]; omega
    · obtain rfl : u = 0 := by omega
      go_wp2
      go_ret
      refine ⟨?_, hb⟩
      have hE := HE.out
      rw [ds_zero, List.nil_append] at hE
      unfold mtxt
      rw [← hE]
      exact congrArg Ending.returned (cat1 109 109 done rfl)

def mkS (k0 : Nat) (j : Nat) : Value := .string (mtxt (k0 + j))

set_option maxHeartbeats 800000 in
theorem markS_any (g n cap base k0 : Nat) (xs : List Value) (w : World) (hn : n ≤ 140737488351232) (h0 : 0 < k0) (h1 : k0 ≤ 140737488351232)
    (ho : w.ownsRow base 9 1 (.slice (some ⟨g, 0, none⟩) n cap) n xs) :
    Calls Tryd.prog 42 #[.slice (some ⟨g, 0, none⟩) n cap, .int .i64 (k0 : Int)] w fun e w' => e = .returned (.int .i64 ((k0 : Int) + n)) ∧ (∃ ys, w'.ownsRow base 9 1 (.slice (some ⟨g, 0, none⟩) n cap) n ys ∧ ∀ j, j < n → ys[j]? = some (mkS k0 j)) ∧ w.grownBy w' (some g) := by
  go_enter Tryd.func42, Tryd.ntmps42
  go_wp2
  go_loopw [1, 5] (fun kk i wr => ∃ (k : Nat) (ys : List Value), i = .int .i64 k ∧ kk = .int .i64 ((k0 : Int) + k) ∧ k ≤ n ∧ wr.ownsRow base 9 1 (.slice (some ⟨g, 0, none⟩) n cap) n ys ∧ (∀ j, j < k → ys[j]? = some (mkS k0 j)) ∧ w.grownBy wr (some g)) (fun _ i _ => n - (intOf i).toNat)
  case atStart => exact ⟨0, xs, rfl, by simp, by omega, ho, by omega, World.grownBy.refl _ _⟩
  case round =>
    obtain ⟨k, ys, rfl, rfl, hk, hown, hys, hgr⟩ := hrel
    by_cases hlt : k < n
    · go_wp2_with fail
      rw [show (k0 : Int) + (k : Int) = ((k0 + k : Nat) : Int) by omega]
      refine (markText_any (k0 + k) wr (by omega) (by omega)).mono ?_
      rintro e w1 ⟨rfl, hb1⟩
      have hown := own_below hown hb1
      have hlen : ys.length = n := by have := hown.1; omega
      have hc : w1.cell? ⟨g, k, none⟩ = some (ys[k]'(by omega)) := by rw [hown.cellAt k (by omega)]; exact List.getElem?_eq_getElem _
      have hf : w1.frozen? ⟨g, k, none⟩ = false := hown.frozenAt k
      have hgr1 : w.grownBy w1 (some g) := ⟨hb1.os.trans hgr.os, hb1.tape.trans hgr.tape, hb1.output.trans hgr.output, Nat.le_trans hgr.size hb1.size, fun j hj hr => (hb1.block j (Nat.lt_of_lt_of_le hj hgr.size)).trans (hgr.block j hj hr)⟩
      have hs := hown.stored k (mkS k0 k)
      have HS : Hid ((w1.setCell ⟨g, k, none⟩ (mkS k0 k)).ownsRow base 9 1 (.slice (some ⟨g, 0, none⟩) n cap) n (ys.set k (mkS k0 k)) ∧ w.grownBy (w1.setCell ⟨g, k, none⟩ (mkS k0 k)) (some g)) := ⟨hs.1, grownBy_trans hgr1 hs.2⟩
      clear hs hgr hgr1 hown hb1
      go_wp2
      go_roundw
      case rel =>
        refine ⟨k + 1, _, by go_num, by go_num, by omega, HS.out.1, ?_, HS.out.2⟩
        intro j hj
        rw [List.getElem?_set]
        by_cases e : k = j
        · subst e; rw [if_pos rfl, if_pos (by omega)]
        · rw [if_neg e]; exact hys j (by omega)
      case measure => simp [intOf]; omega
    · go_wp2
      go_ret
      exact ⟨ret_int (by omega), ⟨ys, hown, fun j hj => hys j (by omega)⟩, hgr⟩

set_option maxHeartbeats 800000 in
theorem heldS_any (g n cap base k0 : Nat) (ys : List Value) (w : World) (hn : n ≤ 140737488351232) (h0 : 0 < k0) (h1 : k0 ≤ 140737488351232)
    (ho : w.ownsRow base 9 1 (.slice (some ⟨g, 0, none⟩) n cap) n ys) (hys : ∀ j, j < n → ys[j]? = some (mkS k0 j)) :
    Calls Tryd.prog 44 #[.slice (some ⟨g, 0, none⟩) n cap, .int .i64 (k0 : Int)] w fun e w' => e = .returned (.int .i64 ((k0 : Int) + n)) ∧ Below w.heap.size w w' := by
  have mixed : Tryd.prog.follows .mixedOrders = true := by kernel_rfl
  go_enter Tryd.func44, Tryd.ntmps44
  go_wp2
  go_loopw [1, 5] (fun kk i wr => ∃ k : Nat, i = .int .i64 k ∧ kk = .int .i64 ((k0 : Int) + k) ∧ k ≤ n ∧ Below w.heap.size w wr) (fun _ i _ => n - (intOf i).toNat)
  case atStart => exact ⟨0, rfl, by simp, by omega, Below.refl _ _⟩
  case round =>
    obtain ⟨k, rfl, rfl, hk, hb⟩ := hrel
    by_cases hlt : k < n
    · have hown := own_below ho hb
      have hc : wr.cell? ⟨g, k, none⟩ = some (.string (mtxt (k0 + k))) := by rw [hown.cellAt k (by omega)]; exact hys k hlt
      have hsz := hb.size
      clear hys hown
      have cM := fun d os => Calls.regrown_of (markText_any (k0 + k) (Go.Sort.grow (redrawn wr d) os) (by omega) (by omega))
      have hcR := fun d os => cell_regrown hc d os
      have hbR := fun d os => hb.trans ((below_regrown wr d os).mono hsz)
      rw [show ((k0 + k : Nat) : Int) = (k0 : Int) + (k : Int) by omega] at cM
      generalize mtxt (k0 + k) = t at cM hc hcR
      have HBR : Hid (∀ d os, Below w.heap.size w (Go.Sort.grow (redrawn wr d) os)) := hbR
      clear hbR hb ho
      go_wp2
      refine wp_region_quiet_below mixed (by kernel_rfl) ?_
      repeat (quiet_step (exact cM _ _))
      refine wpQuiet_nil ?_
      intro _ hw'
      obtain ⟨⟨dq, osq⟩, hw''⟩ := hw'
      subst hw''
      clear cM hcR
      go_wp2
      go_roundw
      case rel => exact ⟨k + 1, by go_num, by go_num, by omega, HBR.out _ _⟩
      case measure => simp [intOf]; omega
    · go_wp2
      go_ret
      exact ⟨ret_int (by omega), hb⟩

theorem markS_zero (k0 : Int) (w : World) : Calls Tryd.prog 42 #[.slice none 0 0, .int .i64 k0] w fun e w' => e = .returned (.int .i64 k0) ∧ w' = w := by
  go_enter Tryd.func42, Tryd.ntmps42
  go_wp2
  refine wp_loop_rounds 1 ?_
  rw [rounds_succ]
  go_wp2
  go_ret
  exact ⟨rfl, rfl⟩
theorem heldS_zero (k0 : Int) (w : World) : Calls Tryd.prog 44 #[.slice none 0 0, .int .i64 k0] w fun e w' => e = .returned (.int .i64 k0) ∧ w' = w := by
  go_enter Tryd.func44, Tryd.ntmps44
  go_wp2
  refine wp_loop_rounds 1 ?_
  rw [rounds_succ]
  go_wp2
  go_ret
  exact ⟨rfl, rfl⟩
theorem markS_all (n base k0 : Nat) (v : Value) (xs : List Value) (w : World) (hn : n ≤ 140737488351232) (h0 : 0 < k0) (h1 : k0 ≤ 140737488351232) (ho : w.ownsRow base 9 1 v n xs) :
    Calls Tryd.prog 42 #[v, .int .i64 (k0 : Int)] w fun e w' => e = .returned (.int .i64 ((k0 : Int) + n)) ∧ (∃ ys, w'.ownsRow base 9 1 v n ys ∧ ∀ j, j < n → ys[j]? = some (mkS k0 j)) ∧ w.grownBy w' v.ownBlock := by
  rcases id ho.2 with ⟨rfl, rfl⟩ | ⟨g, cap, cur, rfl, _⟩
  · refine (markS_zero k0 w).mono fun e w' ⟨he, hw⟩ => ?_
    subst he hw
    exact ⟨ret_int (by simp), ⟨xs, ho, by omega⟩, World.grownBy.refl _ _⟩
  · exact markS_any g n cap base k0 xs w hn h0 h1 ho
theorem heldS_all (n base k0 : Nat) (v : Value) (ys : List Value) (w : World) (hn : n ≤ 140737488351232) (h0 : 0 < k0) (h1 : k0 ≤ 140737488351232) (ho : w.ownsRow base 9 1 v n ys) (hys : ∀ j, j < n → ys[j]? = some (mkS k0 j)) :
    Calls Tryd.prog 44 #[v, .int .i64 (k0 : Int)] w fun e w' => e = .returned (.int .i64 ((k0 : Int) + n)) ∧ Below w.heap.size w w' := by
  rcases id ho.2 with ⟨rfl, rfl⟩ | ⟨g, cap, cur, rfl, _⟩
  · refine (heldS_zero k0 w).mono fun e w' ⟨he, hw⟩ => ?_
    subst he hw
    exact ⟨ret_int (by simp), Below.refl _ _⟩
  · exact heldS_any g n cap base k0 ys w hn h0 h1 ho hys
end Go.Proofs.YtlpjigpnpafkiabDoor
