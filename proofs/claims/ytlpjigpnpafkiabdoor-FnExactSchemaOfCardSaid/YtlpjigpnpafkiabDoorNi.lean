/- The program's readers of a decimal number. -/
import Derived.Test.YtlpjigpnpafkiabDoorNs
import Derived.Test.YtlpjigpnpafkiabDoorShelfI
import Derived.Test.YtlpjigpnpafkiabDoorShelfA
import Derived.WalkLawsBesides
import Derived.Defers
import Derived.Recover
import Derived.Lib.LaidTab
import Derived.Lib.AppendIntMem
namespace Go.Proofs.YtlpjigpnpafkiabDoor
open Go.RowKit
set_option maxRecDepth 100000

/-- What the readers want of the package's variables and the library's. -/
def Ready (u : TypeId) (ev : Value) (w : World) : Prop :=
  Lib.TabIs Tryd.prog w "internal/strconv.uint64pow10" .u64 Lib.pow10Tab ∧ (∃ tp p, w.var? Tryd.prog "strconv.ErrSyntax" = some #[.iface tp p]) ∧ (∃ tp p, w.var? Tryd.prog "strconv.ErrRange" = some #[.iface tp p]) ∧
  w.cell? ⟨1, 0, none⟩ = some (.iface u ev) ∧ 2 < w.heap.size ∧ 7 < w.heap.size ∧ 8 < w.heap.size ∧ 1 < w.heap.size
theorem gPow : Tryd.prog.globalNamed "internal/strconv.uint64pow10" = some 2 := by kernel_rfl
theorem gSyn : Tryd.prog.globalNamed "strconv.ErrSyntax" = some 7 := by kernel_rfl
theorem gRng : Tryd.prog.globalNamed "strconv.ErrRange" = some 8 := by kernel_rfl
theorem Ready.later {u : TypeId} {ev : Value} {w w' : World} (h : Ready u ev w) (hb : Below w.heap.size w w') : Ready u ev w' := by
  obtain ⟨h1, ⟨a, b, h2⟩, ⟨c, d, h3⟩, h4, l1, l2, l3, l4⟩ := h
  have hs := hb.size
  exact ⟨var?_below hb gPow l1 h1, ⟨a, b, var?_below hb gSyn l2 h2⟩, ⟨c, d, var?_below hb gRng l3 h3⟩, (hb.cell (p := ⟨1, 0, none⟩) l4).trans h4, by omega, by omega, by omega, by omega⟩

theorem implDigits_any (n : Int) (u : TypeId) (ev : Value) (w : World) (h0 : -9223372036854775808 ≤ n) (h1 : n ≤ 9223372036854775807) (hr : Ready u ev w) :
    Calls Tryd.prog 35 #[.int .i64 n] w fun e w' => e = .returned (.string ⟨(Lib.itoa n).toArray⟩) ∧ Below w.heap.size w w' := by
  have ht := hr.1
  clear hr
  go_enter Tryd.func35, Tryd.ntmps35
  go_wp2_with fail
  refine (Tryd.strconv_Itoa n h0 h1 _ ht).mono ?_
  rintro e w' ⟨rfl, k, os, rfl⟩
  go_wp2
  go_ret
  exact ⟨rfl, Lib.below_grow _ _ (Nat.le_refl _) _ _⟩

def endInt (en : Value) : Option Int → Ending
  | none => .panicked [{ v := en, recovered := false }]
  | some v => .returned (.int .i64 v)

theorem must_ok {lo hi v : Int} {l : List UInt8} (ha : Lib.atoiAll l = .ok v) : must lo hi l = if lo ≤ v ∧ v ≤ hi ∧ Lib.itoa v = l then some v else none := by unfold must; rw [ha]
theorem must_not {lo hi : Int} {l : List UInt8} (ha : ∀ v, Lib.atoiAll l ≠ .ok v) : must lo hi l = none := by
  unfold must
  cases h : Lib.atoiAll l with
  | ok v => exact absurd h (ha v)
  | _ => rfl
theorem atoi_bd {l : List UInt8} {v : Int} (h : Lib.atoiAll l = .ok v) : -9223372036854775808 ≤ v ∧ v ≤ 9223372036854775807 := by
  cases l with
  | nil => cases h
  | cons c r =>
    simp only [Lib.atoiAll] at h
    split at h
    · cases h
    · cases h
    · split at h
      · cases h
      · split at h
        · cases h
        · injection h with h
          split at h <;> omega

set_option maxHeartbeats 800000 in
theorem mustDigits_ok (s : ByteArray) (l : List UInt8) (lo hi v : Int) (u : TypeId) (ev : Value) (w : World) (hs : s.size ≤ 1048576) (hl : s.data.toList = l) (ha : Lib.atoiAll l = .ok v) (hr : Ready u ev w) :
    Calls Tryd.prog 80 #[.string s, .int .i64 lo, .int .i64 hi] w fun e w' => e = endInt (.iface u ev) (must lo hi l) ∧ Below w.heap.size w w' := by
  have A : Calls Tryd.prog 88 #[.string s] w fun e w' => e = .returned (.tuple #[.int .i64 v, .nilIface]) ∧ Below w.heap.size w w' :=
    (Tryd.strconv_Atoi_ok s (by omega) v (by rw [hl]; exact ha) w).mono fun e w' ⟨h1, h2⟩ => ⟨h1, by rcases h2 with rfl | ⟨t, rfl⟩; exact Below.refl _ _; exact Lib.bytesWorld_below _ _ _⟩
  have HM : Hid (must lo hi l = if lo ≤ v ∧ v ≤ hi ∧ Lib.itoa v = l then some v else none) := must_ok ha
  obtain ⟨b0, b1⟩ := atoi_bd ha
  have HL : Hid (s.data.toList = l) := hl
  clear hl ha
  go_enter Tryd.func80, Tryd.ntmps80
  go_wp2_with fail
  refine A.mono ?_
  clear A
  rintro e w1 ⟨rfl, hb1⟩
  have hr1 := hr.later hb1
  have hcell := hr1.2.2.2.1
  have hs1 := hb1.size
  have HR : Hid (Ready u ev w1) := hr1
  clear hr hr1
  by_cases h0 : lo ≤ v
  · by_cases h1 : v ≤ hi
    · go_wp2_with fail
      refine (implDigits_any v u ev w1 b0 b1 HR.out).mono ?_
      rintro e w2 ⟨rfl, hb2⟩
      have hcell2 := (HR.out.later hb2).2.2.2.1
      clear hcell
      by_cases hi' : Lib.itoa v = l
      · have HF : Hid (must lo hi l = some v) := by exact HM.out.trans (if_pos ⟨h0, h1, hi'⟩)
        have he : (⟨(Lib.itoa v).toArray⟩ : ByteArray) = s := by
          apply ByteArray.ext
          rw [hi', ← HL.out]
        rw [he]
        clear he hi' HM
        go_wp2
        go_ret
        exact ⟨by rw [HF.out]; rfl, hb1.trans (hb2.mono hs1)⟩
      · have HF : Hid (must lo hi l = none) := by exact HM.out.trans (if_neg fun h => hi' h.2.2)
        have hne : (Lib.itoa v == s.toList) = false := by rw [ByteArray.toList_eq, HL.out]; simpa using hi'
        clear hi' HM
        go_wp2
        exact ⟨rfl, by rw [HF.out]; rfl, hb1.trans (hb2.mono hs1)⟩
    · have HF : Hid (must lo hi l = none) := by exact HM.out.trans (if_neg fun h => h1 h.2.1)
      clear HM
      go_wp2_with fail
      exact ⟨rfl, by rw [HF.out]; rfl, hb1⟩
  · have HF : Hid (must lo hi l = none) := by exact HM.out.trans (if_neg fun h => h0 h.1)
    clear HM
    go_wp2_with fail
    exact ⟨rfl, by rw [HF.out]; rfl, hb1⟩

set_option maxHeartbeats 800000 in
theorem mustDigits_err (s : ByteArray) (lo hi v : Int) (u : TypeId) (ev : Value) (l : List UInt8) (w : World) (hr : Ready u ev w) (hm : must lo hi l = none)
    (A : Calls Tryd.prog 88 #[.string s] w fun e w' => ∃ N, e = .returned (.tuple #[.int .i64 v, .iface 119 (.pointer (some ⟨N, 0, none⟩))]) ∧ Below w.heap.size w w') :
    Calls Tryd.prog 80 #[.string s, .int .i64 lo, .int .i64 hi] w fun e w' => e = endInt (.iface u ev) (must lo hi l) ∧ Below w.heap.size w w' := by
  have HF : Hid (must lo hi l = none) := hm
  clear hm
  go_enter Tryd.func80, Tryd.ntmps80
  go_wp2_with fail
  refine A.mono ?_
  clear A
  rintro e w1 ⟨N, rfl, hb1⟩
  have hcell := (hr.later hb1).2.2.2.1
  clear hr
  go_wp2_with fail
  exact ⟨rfl, by rw [HF.out]; rfl, hb1⟩

theorem mustDigits_any (s : ByteArray) (lo hi : Int) (u : TypeId) (ev : Value) (w : World) (hs : s.size ≤ 1048576) (hr : Ready u ev w) :
    Calls Tryd.prog 80 #[.string s, .int .i64 lo, .int .i64 hi] w fun e w' => e = endInt (.iface u ev) (must lo hi s.data.toList) ∧ Below w.heap.size w w' := by
  obtain ⟨_, ⟨a, b, h2⟩, ⟨c, d, h3⟩, _⟩ := id hr
  rcases hA : Lib.atoiAll s.data.toList with v | _ | _
  · exact mustDigits_ok s _ lo hi v u ev w hs rfl hA hr
  · exact mustDigits_err s lo hi _ u ev _ w hr (must_not fun v h => by rw [hA] at h; cases h)
      ((Any.strconv_Atoi_syntax_var Tryd.laysC172 s (by omega) hA a b w h2).mono fun e w' ⟨N, h1, _, _, hb⟩ => ⟨N, h1, hb⟩)
  · exact mustDigits_err s lo hi _ u ev _ w hr (must_not fun v h => by rw [hA] at h; cases h)
      ((Any.strconv_Atoi_range_var Tryd.laysC172 s (by omega) hA c d w h3).mono fun e w' ⟨N, h1, _, _, hb⟩ => ⟨N, h1, hb⟩)
end Go.Proofs.YtlpjigpnpafkiabDoor
