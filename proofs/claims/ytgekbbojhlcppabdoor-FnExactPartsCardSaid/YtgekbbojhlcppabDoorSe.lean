/- What the law's own helpers do with lists of texts: held against each other, written over, looked at again. -/
import Derived.Test.YtgekbbojhlcppabDoorBe
import Derived.Test.YtgekbbojhlcppabDoorDd
import Derived.Lib.QuietBelow
namespace Go.Proofs.YtgekbbojhlcppabDoor
open Go.RowKit

theorem getS (ss : List ByteArray) (j : Nat) (h : j < ss.length) : (ss.map Value.string)[j]? = some (.string (ss.getD j ByteArray.empty)) := by simp [h]

set_option maxHeartbeats 400000 in
theorem eqS_pos (ga gb n ca cb : Nat) (ss : List ByteArray) (w : World) (hn : n ≤ 140737488351232) (hz : ss.length = n)
    (ha : ∀ j, j < n → w.cell? ⟨ga, 0 + j, none⟩ = some (.string (ss.getD j ByteArray.empty))) (hb : ∀ j, j < n → w.cell? ⟨gb, 0 + j, none⟩ = some (.string (ss.getD j ByteArray.empty))) :
    Calls Tryd.prog 14 #[.slice (some ⟨ga, 0, none⟩) n ca, .slice (some ⟨gb, 0, none⟩) n cb] w fun e w' => e = .returned (.bool true) ∧ Below w.heap.size w w' := by
  have HZ : Hid (ss.length = n) := hz
  clear hz
  go_enter Tryd.func14, Tryd.ntmps14
  go_wp2
  go_loopw [5] (fun i wr => ∃ k : Nat, i = .int .i64 k ∧ k ≤ n ∧ ∃ q, wr = w.drewN q) (fun i _ => n - (intOf i).toNat)
  case atStart => exact ⟨0, rfl, by omega, 0, rfl⟩
  case round =>
    obtain ⟨k, rfl, hk, q, rfl⟩ := hrel
    by_cases hlt : k < n
    · have ha' : w.cell? ⟨ga, k, none⟩ = some (.string (ss.getD k ByteArray.empty)) := by have := ha k hlt; rwa [Nat.zero_add] at this
      have hb' : w.cell? ⟨gb, k, none⟩ = some (.string (ss.getD k ByteArray.empty)) := by have := hb k hlt; rwa [Nat.zero_add] at this
      generalize ss.getD k ByteArray.empty = t at ha' hb'
      go_wp2
      go_quiet (fail)
      all_goals go_wp2
      all_goals go_roundw
      case rel => exact ⟨k + 1, by go_num, by omega, _, by first | rfl | (simp only [World.drewN_drewN]; rfl)⟩
      case measure => simp [intOf]; omega
    · go_wp2
      go_ret
      exact ⟨rfl, below_drewN (Below.refl _ _) _⟩

theorem eqS_any (ss : List ByteArray) (ga ca gb cb b1 b2 : Nat) (w : World) (hn : ss.length ≤ 140737488351232)
    (ha : w.ownsRow b1 9 1 (.slice (some ⟨ga, 0, none⟩) ss.length ca) ss.length (ss.map Value.string)) (hb : w.ownsRow b2 9 1 (.slice (some ⟨gb, 0, none⟩) ss.length cb) ss.length (ss.map Value.string)) :
    Calls Tryd.prog 14 #[.slice (some ⟨ga, 0, none⟩) ss.length ca, .slice (some ⟨gb, 0, none⟩) ss.length cb] w fun e w' => e = .returned (.bool true) ∧ Below w.heap.size w w' :=
  eqS_pos ga gb ss.length ca cb ss w hn rfl (fun j hj => by rw [Nat.zero_add, ha.cellAt j (by omega)]; exact getS ss j hj) (fun j hj => by rw [Nat.zero_add, hb.cellAt j (by omega)]; exact getS ss j hj)

/-- The text that the law writes in the k-th place. -/
def mtxt (k : Nat) : ByteArray := ⟨(109 :: ds k).toArray⟩

set_option maxHeartbeats 800000 in
theorem markText_any (u0 : Nat) (w : World) (h0 : 0 < u0) (h1 : u0 ≤ 9223372036854775807) :
    Calls Tryd.prog 23 #[.int .i64 (u0 : Int)] w fun e w' => e = .returned (.string (mtxt u0)) ∧ Below w.heap.size w w' := by
  have ot := one_text
  have hn0 : decide ((u0 : Int) ≤ 0) = false := by simp; omega
  go_enter Tryd.func23, Tryd.ntmps23
  go_wp2
  go_loopw [0, 3] (fun n v wr => ∃ (u : Nat) (done : List UInt8), n = .int .i64 (u : Int) ∧ u ≤ 9223372036854775807 ∧ v = .string ⟨done.toArray⟩ ∧ done.length ≤ 19 ∧ u < 10 ^ (19 - done.length) ∧ ds u ++ done = ds u0 ∧ Below w.heap.size w wr) (fun n _ _ => (intOf n).toNat)
  case atStart => exact ⟨u0, [], rfl, h1, rfl, by simp, by simp; omega, by simp, Below.refl _ _⟩
  case round =>
    obtain ⟨u, done, rfl, hu, rfl, hlen, hdn, hE, hb⟩ := hrel
    have HE : Hid (ds u ++ done = ds u0) := hE
    have HD : Hid (u < 10 ^ (19 - done.length)) := hdn
    clear hE hdn
    by_cases hz : 0 < u
    · go_wp2
      go_roundw
      case rel =>
        obtain ⟨p1, p2⟩ := pow_step u done.length hz HD.out
        refine ⟨u / 10, UInt8.ofNat (48 + u % 10) :: done, by go_num, by omega, ?_, by simp; omega, by simpa using p2, ?_, ?_⟩
        · exact cat1 _ _ _ (by first | (simp; done) | (congr 1; omega))
        · rw [← HE.out, ds_pos u hz]; simp
        · exact hb.alloc hb.size _
      case measure => simp [intOf]; omega
    · obtain rfl : u = 0 := by omega
      go_wp2
      go_ret
      refine ⟨?_, hb⟩
      have hE := HE.out
      rw [ds_zero, List.nil_append] at hE
      unfold mtxt
      rw [← hE]
      exact congrArg Ending.returned (cat1 109 109 done rfl)

def mkS (k0 : Nat) (j : Nat) : Value := .string (mtxt (k0 + j))

set_option maxHeartbeats 800000 in
theorem markS_any (g n cap base k0 : Nat) (xs : List Value) (w : World) (hn : n ≤ 140737488351232) (h0 : 0 < k0) (h1 : k0 ≤ 140737488351232)
    (ho : w.ownsRow base 9 1 (.slice (some ⟨g, 0, none⟩) n cap) n xs) :
    Calls Tryd.prog 15 #[.slice (some ⟨g, 0, none⟩) n cap, .int .i64 (k0 : Int)] w fun e w' => e = .returned (.int .i64 ((k0 : Int) + n)) ∧ (∃ ys, w'.ownsRow base 9 1 (.slice (some ⟨g, 0, none⟩) n cap) n ys ∧ ∀ j, j < n → ys[j]? = some (mkS k0 j)) ∧ w.grownBy w' (some g) := by
  go_enter Tryd.func15, Tryd.ntmps15
  go_wp2
  go_loopw [1, 5] (fun kk i wr => ∃ (k : Nat) (ys : List Value), i = .int .i64 k ∧ kk = .int .i64 ((k0 : Int) + k) ∧ k ≤ n ∧ wr.ownsRow base 9 1 (.slice (some ⟨g, 0, none⟩) n cap) n ys ∧ (∀ j, j < k → ys[j]? = some (mkS k0 j)) ∧ w.grownBy wr (some g)) (fun _ i _ => n - (intOf i).toNat)
  case atStart => exact ⟨0, xs, rfl, by simp, by omega, ho, by omega, World.grownBy.refl _ _⟩
  case round =>
    obtain ⟨k, ys, rfl, rfl, hk, hown, hys, hgr⟩ := hrel
    by_cases hlt : k < n
    · go_wp2_with fail
      rw [show (k0 : Int) + (k : Int) = ((k0 + k : Nat) : Int) by omega]
      refine (markText_any (k0 + k) wr (by omega) (by omega)).mono ?_
      rintro e w1 ⟨rfl, hb1⟩
      have hown := own_below hown hb1
      have hlen : ys.length = n := by have := hown.1; omega
      have hc : w1.cell? ⟨g, k, none⟩ = some (ys[k]'(by omega)) := by rw [hown.cellAt k (by omega)]; exact List.getElem?_eq_getElem _
      have hf : w1.frozen? ⟨g, k, none⟩ = false := hown.frozenAt k
      have hgr1 : w.grownBy w1 (some g) := ⟨hb1.os.trans hgr.os, hb1.tape.trans hgr.tape, hb1.output.trans hgr.output, Nat.le_trans hgr.size hb1.size, fun j hj hr => (hb1.block j (Nat.lt_of_lt_of_le hj hgr.size)).trans (hgr.block j hj hr)⟩
      have hs := hown.stored k (mkS k0 k)
      have HS : Hid ((w1.setCell ⟨g, k, none⟩ (mkS k0 k)).ownsRow base 9 1 (.slice (some ⟨g, 0, none⟩) n cap) n (ys.set k (mkS k0 k)) ∧ w.grownBy (w1.setCell ⟨g, k, none⟩ (mkS k0 k)) (some g)) := ⟨hs.1, grownBy_trans hgr1 hs.2⟩
      clear hs hgr hgr1 hown hb1
      go_wp2
      go_roundw
      case rel =>
        refine ⟨k + 1, _, by go_num, by go_num, by omega, HS.out.1, ?_, HS.out.2⟩
        intro j hj
        rw [List.getElem?_set]
        by_cases e : k = j
        · subst e; rw [if_pos rfl, if_pos (by omega)]
        · rw [if_neg e]; exact hys j (by omega)
      case measure => simp [intOf]; omega
    · go_wp2
      go_ret
      exact ⟨ret_int (by omega), ⟨ys, hown, fun j hj => hys j (by omega)⟩, hgr⟩

set_option maxHeartbeats 800000 in
theorem heldS_any (g n cap base k0 : Nat) (ys : List Value) (w : World) (hn : n ≤ 140737488351232) (h0 : 0 < k0) (h1 : k0 ≤ 140737488351232)
    (ho : w.ownsRow base 9 1 (.slice (some ⟨g, 0, none⟩) n cap) n ys) (hys : ∀ j, j < n → ys[j]? = some (mkS k0 j)) :
    Calls Tryd.prog 16 #[.slice (some ⟨g, 0, none⟩) n cap, .int .i64 (k0 : Int)] w fun e w' => e = .returned (.int .i64 ((k0 : Int) + n)) ∧ Below w.heap.size w w' := by
  have mixed : Tryd.prog.follows .mixedOrders = true := by kernel_rfl
  go_enter Tryd.func16, Tryd.ntmps16
  go_wp2
  go_loopw [1, 5] (fun kk i wr => ∃ k : Nat, i = .int .i64 k ∧ kk = .int .i64 ((k0 : Int) + k) ∧ k ≤ n ∧ Below w.heap.size w wr) (fun _ i _ => n - (intOf i).toNat)
  case atStart => exact ⟨0, rfl, by simp, by omega, Below.refl _ _⟩
  case round =>
    obtain ⟨k, rfl, rfl, hk, hb⟩ := hrel
    by_cases hlt : k < n
    · have hown := own_below ho hb
      have hc : wr.cell? ⟨g, k, none⟩ = some (.string (mtxt (k0 + k))) := by rw [hown.cellAt k (by omega)]; exact hys k hlt
      have hsz := hb.size
      clear hys hown
      have cM := fun d os => Calls.regrown_of (markText_any (k0 + k) (Go.Sort.grow (redrawn wr d) os) (by omega) (by omega))
      have hcR := fun d os => cell_regrown hc d os
      have hbR := fun d os => hb.trans ((below_regrown wr d os).mono hsz)
      rw [show ((k0 + k : Nat) : Int) = (k0 : Int) + (k : Int) by omega] at cM
      generalize mtxt (k0 + k) = t at cM hc hcR
      have HBR : Hid (∀ d os, Below w.heap.size w (Go.Sort.grow (redrawn wr d) os)) := hbR
      clear hbR hb ho
      go_wp2
      refine wp_region_quiet_below mixed (by kernel_rfl) ?_
      repeat (quiet_step (exact cM _ _))
      refine wpQuiet_nil ?_
      intro _ hw'
      obtain ⟨⟨dq, osq⟩, hw''⟩ := hw'
      subst hw''
      clear cM hcR
      go_wp2
      go_roundw
      case rel => exact ⟨k + 1, by go_num, by go_num, by omega, HBR.out _ _⟩
      case measure => simp [intOf]; omega
    · go_wp2
      go_ret
      exact ⟨ret_int (by omega), hb⟩
end Go.Proofs.YtgekbbojhlcppabDoor
