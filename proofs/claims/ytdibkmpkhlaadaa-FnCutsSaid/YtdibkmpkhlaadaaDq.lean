/- Draws: one of a few numbers, one number below a bound. -/
import Derived.Test.YtdibkmpkhlaadaaDr
namespace Go.Proofs.Ytdibkmpkhlaadaa
open Go.RowKit
set_option maxRecDepth 100000

theorem IsCur.alloc {w : World} {g : Nat} {a : Option Addr} {len cap : Nat} (h : IsCur w g a len cap) (o : Obj) : IsCur (w.alloc o) g a len cap := by
  obtain ⟨i, y, hi, hb⟩ := h
  have hlt : g < w.heap.size := by
    rcases Nat.lt_or_ge g w.heap.size with h3 | h3
    · exact h3
    · rw [Array.getElem?_eq_none h3] at hb; cases hb
  exact ⟨i, y, hi, (Below.heap_alloc w o g hlt).trans hb⟩
theorem new_ints (w : World) (xs : List Int) (e : TypeId) : ∀ j, j < xs.length → (w.alloc (.cells (xs.map (Value.int .i64)).toArray e)).cell? ⟨w.heap.size, j, none⟩ = some (.int .i64 (xs.getD j 0)) := by
  intro j hj
  rw [World.cell?_alloc_at _ _ _ _ rfl]
  simp [hj]
theorem IsCur.lt {w : World} {g : Nat} {a : Option Addr} {len cap : Nat} (h : IsCur w g a len cap) : g < w.heap.size := by
  obtain ⟨i, y, hi, hb⟩ := h
  rcases Nat.lt_or_ge g w.heap.size with h3 | h3
  · exact h3
  · rw [Array.getElem?_eq_none h3] at hb; cases hb

/-- One of a few numbers, picked out of a list that was just laid. -/
theorem pick_new (xs : List Int) (g : Nat) (a : Option Addr) (len cap : Nat) (zs : List Int) (w : World) (hc : IsCur w g a len cap) (hr : IsRow .u8 w a len cap zs) (h1 : 1 ≤ xs.length) (h2 : xs.length ≤ 256) :
    Calls Try.prog 28 #[.pointer (some ⟨g, 0, none⟩), .slice (some ⟨w.heap.size, 0, none⟩) xs.length xs.length] (w.alloc (.cells (xs.map (Value.int .i64)).toArray 3)) fun e w' =>
      ∃ x : Int, e = .returned (.int .i64 x) ∧ x ∈ xs ∧ IsCur w' g a len cap ∧ IsRow .u8 w' a len cap zs ∧ Below g w w' := by
  have hlt := hc.lt
  have hb : Below w.heap.size w (w.alloc (.cells (xs.map (Value.int .i64)).toArray 3)) := (Below.refl _ _).alloc (Nat.le_refl _) _
  refine (l1PickInt_any g a len cap zs w.heap.size xs _ (hc.alloc _) (hr.later hb) h1 h2 (by omega) (new_ints w xs 3)).mono ?_
  rintro e w' ⟨x, rfl, hx, hc', hg⟩
  exact ⟨x, rfl, hx, hc', (hr.later hb).aside (hc.alloc _) hg, (hb.mono (by omega)).trans (grown_below hg (Nat.le_refl _) (by simp; omega))⟩

/-- One below whatever bound. -/
theorem l1BelowBig_any (g : Nat) (a : Option Addr) (len cap : Nat) (zs : List Int) (n : Nat) (w : World) (hc : IsCur w g a len cap) (hr : IsRow .u8 w a len cap zs) (h1 : 256 < n) (h2 : n ≤ 2147483648) :
    Calls Try.prog 38 #[.pointer (some ⟨g, 0, none⟩), .int .i64 (n : Int)] w fun e w' => ∃ x : Nat, e = .returned (.int .i64 (x : Int)) ∧ x < n ∧ IsCur w' g a len cap ∧ w.grownBy w' (some g) := by
  have hn0 : ¬ (n : Int) ≤ 0 := by omega
  have hn1 : ¬ (n : Int) = 0 := by omega
  have hn2 : ¬ (n : Int) ≤ 256 := by omega
  go_enter Try.func38, Try.ntmps38
  go_wp2_with fail
  refine (l1Byte_any g a len cap zs w hc hr).mono ?_
  rintro e w1 ⟨x1, rfl, x10, x11, hc1, hg1⟩
  have hr1 := hr.aside hc hg1
  go_wp2_with fail
  refine (l1Byte_any g a len cap zs w1 hc1 hr1).mono ?_
  rintro e w2 ⟨x2, rfl, x20, x21, hc2, hg2⟩
  have hr2 := hr1.aside hc1 hg2
  go_wp2_with fail
  refine (l1Byte_any g a len cap zs w2 hc2 hr2).mono ?_
  rintro e w3 ⟨x3, rfl, x30, x31, hc3, hg3⟩
  have hr3 := hr2.aside hc2 hg3
  go_wp2_with fail
  refine (l1Byte_any g a len cap zs w3 hc3 hr3).mono ?_
  rintro e w4 ⟨x4, rfl, x40, x41, hc4, hg4⟩
  obtain ⟨y1, rfl⟩ := Int.eq_ofNat_of_zero_le x10
  obtain ⟨y2, rfl⟩ := Int.eq_ofNat_of_zero_le x20
  obtain ⟨y3, rfl⟩ := Int.eq_ofNat_of_zero_le x30
  obtain ⟨y4, rfl⟩ := Int.eq_ofNat_of_zero_le x40
  have hg := grown_trans hg1 (grown_trans hg2 (grown_trans hg3 hg4))
  clear hc hr hc1 hr1 hc2 hr2 hc3 hr3 hg1 hg2 hg3 hg4 x10 x20 x30 x40
  go_wp2
  go_ret
  refine ⟨(y1 * 16777216 + y2 * 65536 + y3 * 256 + y4) % n, ?_, Nat.mod_lt _ (by omega), hc4, hg⟩
  have e : ((y1 : Int) * 16777216 + y2 * 65536 + y3 * 256 + y4) % n = (((y1 * 16777216 + y2 * 65536 + y3 * 256 + y4) % n : Nat) : Int) := by
    rw [show (y1 : Int) * 16777216 + y2 * 65536 + y3 * 256 + y4 = ((y1 * 16777216 + y2 * 65536 + y3 * 256 + y4 : Nat) : Int) by omega]
    exact (Int.natCast_emod _ _).symm
  rw [← e]
  rfl
end Go.Proofs.Ytdibkmpkhlaadaa
