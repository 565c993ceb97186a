/- Texts of this claim, put together: part 13. -/
import Derived.Test.YtfekcckckmhioaaGreatDoorRowOfPack6
import Derived.Test.YtfekcckckmhioaaGreatDoorRowOfPack12
import Derived.WalkLawsBesides
import Derived.Defers
import Derived.Recover
import Derived.Lib.LaidTab
import Derived.Lib.AppendIntMem
import Derived.Test.YtfekcckckmhioaaGreatDoorRowOfPack9
import Derived.Test.YtfekcckckmhioaaGreatDoorRowOfPack4
/- The program's readers of a decimal number. -/
namespace Go.Proofs.YtfekcckckmhioaaGreatDoor
open Go.RowKit
set_option maxRecDepth 100000

/-- What the readers want of the package's variables and the library's. -/
def Ready (u : TypeId) (ev : Value) (w : World) : Prop :=
  Lib.TabIs Tryz.prog w "internal/strconv.uint64pow10" .u64 Lib.pow10Tab ∧ (∃ tp p, w.var? Tryz.prog "strconv.ErrSyntax" = some #[.iface tp p]) ∧ (∃ tp p, w.var? Tryz.prog "strconv.ErrRange" = some #[.iface tp p]) ∧
  w.cell? ⟨2, 0, none⟩ = some (.iface u ev) ∧ 3 < w.heap.size ∧ 6 < w.heap.size ∧ 7 < w.heap.size ∧ 2 < w.heap.size
theorem gPow : Tryz.prog.globalNamed "internal/strconv.uint64pow10" = some 3 := by kernel_rfl
theorem gSyn : Tryz.prog.globalNamed "strconv.ErrSyntax" = some 6 := by kernel_rfl
theorem gRng : Tryz.prog.globalNamed "strconv.ErrRange" = some 7 := by kernel_rfl
theorem Ready.later {u : TypeId} {ev : Value} {w w' : World} (h : Ready u ev w) (hb : Below w.heap.size w w') : Ready u ev w' := by
  obtain ⟨h1, ⟨a, b, h2⟩, ⟨c, d, h3⟩, h4, l1, l2, l3, l4⟩ := h
  have hs := hb.size
  exact ⟨var?_below hb gPow l1 h1, ⟨a, b, var?_below hb gSyn l2 h2⟩, ⟨c, d, var?_below hb gRng l3 h3⟩, (hb.cell (p := ⟨2, 0, none⟩) l4).trans h4, by omega, by omega, by omega, by omega⟩

theorem implDigits_any (n : Int) (u : TypeId) (ev : Value) (w : World) (h0 : -9223372036854775808 ≤ n) (h1 : n ≤ 9223372036854775807) (hr : Ready u ev w) :
    Calls Tryz.prog 69 #[.int .i64 n] w fun e w' => e = .returned (.string ⟨(Lib.itoa n).toArray⟩) ∧ Below w.heap.size w w' := by
  have ht := hr.1
  clear hr
  go_enter Tryz.func69, Tryz.ntmps69
  go_wp2_with fail
  refine (Tryz.strconv_Itoa n h0 h1 _ ht).mono ?_
  rintro e w' ⟨rfl, k, os, rfl⟩
  go_wp2
  go_ret
  exact ⟨rfl, Lib.below_grow _ _ (Nat.le_refl _) _ _⟩

def endInt (en : Value) : Option Int → Ending
  | none => .panicked [{ v := en, recovered := false }]
  | some v => .returned (.int .i64 v)

theorem must_ok {lo hi v : Int} {l : List UInt8} (ha : Lib.atoiAll l = .ok v) : must lo hi l = if lo ≤ v ∧ v ≤ hi ∧ Lib.itoa v = l then some v else none := by unfold must; rw [ha]
theorem must_not {lo hi : Int} {l : List UInt8} (ha : ∀ v, Lib.atoiAll l ≠ .ok v) : must lo hi l = none := by
  unfold must
  cases h : Lib.atoiAll l with
  | ok v => exact absurd h (ha v)
  | _ => rfl
theorem atoi_bd {l : List UInt8} {v : Int} (h : Lib.atoiAll l = .ok v) : -9223372036854775808 ≤ v ∧ v ≤ 9223372036854775807 := by
  cases l with
  | nil => cases h
  | cons c r =>
    simp only [Lib.atoiAll] at h
    split at h
    · cases h
    · cases h
    · split at h
      · cases h
      · split at h
        · cases h
        · injection h with h
          split at h <;> omega

set_option maxHeartbeats 800000 in
theorem mustDigits_ok (s : ByteArray) (l : List UInt8) (lo hi v : Int) (u : TypeId) (ev : Value) (w : World) (hs : s.size ≤ 1048576) (hl : s.data.toList = l) (ha : Lib.atoiAll l = .ok v) (hr : Ready u ev w) :
    Calls Tryz.prog 116 #[.string s, .int .i64 lo, .int .i64 hi] w fun e w' => e = endInt (.iface u ev) (must lo hi l) ∧ Below w.heap.size w w' := by
  have A : Calls Tryz.prog 122 #[.string s] w fun e w' => e = .returned (.tuple #[.int .i64 v, .nilIface]) ∧ Below w.heap.size w w' :=
    (Tryz.strconv_Atoi_ok s (by omega) v (by rw [hl]; exact ha) w).mono fun e w' ⟨h1, h2⟩ => ⟨h1, by rcases h2 with rfl | ⟨t, rfl⟩; exact Below.refl _ _; exact Lib.bytesWorld_below _ _ _⟩
  have HM : Hid (must lo hi l = if lo ≤ v ∧ v ≤ hi ∧ Lib.itoa v = l then some v else none) := must_ok ha
  obtain ⟨b0, b1⟩ := atoi_bd ha
  have HL : Hid (s.data.toList = l) := hl
  clear hl ha
  go_enter Tryz.func116, Tryz.ntmps116
  go_wp2_with fail
  refine A.mono ?_
  clear A
  rintro e w1 ⟨rfl, hb1⟩
  have hr1 := hr.later hb1
  have hcell := hr1.2.2.2.1
  have hs1 := hb1.size
  have HR : Hid (Ready u ev w1) := hr1
  clear hr hr1
  by_cases h0 : lo ≤ v
  · by_cases h1 : v ≤ hi
    · go_wp2_with fail
      refine (implDigits_any v u ev w1 b0 b1 HR.out).mono ?_
      rintro e w2 ⟨rfl, hb2⟩
      have hcell2 := (HR.out.later hb2).2.2.2.1
      clear hcell
      by_cases hi' : Lib.itoa v = l
      · have HF : Hid (must lo hi l = some v) := by exact HM.out.trans (if_pos ⟨h0, h1, hi'⟩)
        have he : (⟨(Lib.itoa v).toArray⟩ : ByteArray) = s := by
          apply ByteArray.ext
          rw [hi', ← HL.out]
        rw [he]
        clear he hi' HM
        go_wp2
        go_ret
        exact ⟨by rw [HF.out]; rfl, hb1.trans (hb2.mono hs1)⟩
      · have HF : Hid (must lo hi l = none) := by exact HM.out.trans (if_neg fun h => hi' h.2.2)
        have hne : (Lib.itoa v == s.toList) = false := by rw [ByteArray.toList_eq, HL.out]; simpa using hi'
        clear hi' HM
        go_wp2
        exact ⟨rfl, by rw [HF.out]; rfl, hb1.trans (hb2.mono hs1)⟩
    · have HF : Hid (must lo hi l = none) := by exact HM.out.trans (if_neg fun h => h1 h.2.1)
      clear HM
      go_wp2_with fail
      exact ⟨rfl, by rw [HF.out]; rfl, hb1⟩
  · have HF : Hid (must lo hi l = none) := by exact HM.out.trans (if_neg fun h => h0 h.1)
    clear HM
    go_wp2_with fail
    exact ⟨rfl, by rw [HF.out]; rfl, hb1⟩

set_option maxHeartbeats 800000 in
theorem mustDigits_err (s : ByteArray) (lo hi v : Int) (u : TypeId) (ev : Value) (l : List UInt8) (w : World) (hr : Ready u ev w) (hm : must lo hi l = none)
    (A : Calls Tryz.prog 122 #[.string s] w fun e w' => ∃ N, e = .returned (.tuple #[.int .i64 v, .iface 194 (.pointer (some ⟨N, 0, none⟩))]) ∧ Below w.heap.size w w') :
    Calls Tryz.prog 116 #[.string s, .int .i64 lo, .int .i64 hi] w fun e w' => e = endInt (.iface u ev) (must lo hi l) ∧ Below w.heap.size w w' := by
  have HF : Hid (must lo hi l = none) := hm
  clear hm
  go_enter Tryz.func116, Tryz.ntmps116
  go_wp2_with fail
  refine A.mono ?_
  clear A
  rintro e w1 ⟨N, rfl, hb1⟩
  have hcell := (hr.later hb1).2.2.2.1
  clear hr
  go_wp2_with fail
  exact ⟨rfl, by rw [HF.out]; rfl, hb1⟩

theorem mustDigits_any (s : ByteArray) (lo hi : Int) (u : TypeId) (ev : Value) (w : World) (hs : s.size ≤ 1048576) (hr : Ready u ev w) :
    Calls Tryz.prog 116 #[.string s, .int .i64 lo, .int .i64 hi] w fun e w' => e = endInt (.iface u ev) (must lo hi s.data.toList) ∧ Below w.heap.size w w' := by
  obtain ⟨_, ⟨a, b, h2⟩, ⟨c, d, h3⟩, _⟩ := id hr
  rcases hA : Lib.atoiAll s.data.toList with v | _ | _
  · exact mustDigits_ok s _ lo hi v u ev w hs rfl hA hr
  · exact mustDigits_err s lo hi _ u ev _ w hr (must_not fun v h => by rw [hA] at h; cases h)
      ((Any.strconv_Atoi_syntax_var Tryz.laysC172 s (by omega) hA a b w h2).mono fun e w' ⟨N, h1, _, _, hb⟩ => ⟨N, h1, hb⟩)
  · exact mustDigits_err s lo hi _ u ev _ w hr (must_not fun v h => by rw [hA] at h; cases h)
      ((Any.strconv_Atoi_range_var Tryz.laysC172 s (by omega) hA c d w h3).mono fun e w' ⟨N, h1, _, _, hb⟩ => ⟨N, h1, hb⟩)
end Go.Proofs.YtfekcckckmhioaaGreatDoor
/- The program's Signed: what they hand back, whether the reader inside returns or panics. -/
namespace Go.Proofs.YtfekcckckmhioaaGreatDoor
open Go.RowKit
set_option maxRecDepth 100000

theorem below2 (w : World) (A B : Obj) : Below w.heap.size w ((w.alloc A).alloc B) := ((Below.refl _ _).alloc (Nat.le_refl _) A).alloc (by simp) B
theorem endInt_split (en : Value) (o : Option Int) : (o = none ∧ endInt en o = .panicked [{ v := en, recovered := false }]) ∨ ∃ v, o = some v ∧ endInt en o = .returned (.int .i64 v) := by
  cases o with
  | none => exact .inl ⟨rfl, rfl⟩
  | some v => exact .inr ⟨v, rfl, rfl⟩

theorem catch_Signed (b : Nat) (x0 x1 : Value) (u : TypeId) (pv : Value) (older : List PanicEntry) (w : World) (hc0 : w.cell? ⟨b, 0, none⟩ = some x0) (hz0 : w.frozen? ⟨b, 0, none⟩ = false) (hc1 : w.cell? ⟨b + 1, 0, none⟩ = some x1) (hz1 : w.frozen? ⟨b + 1, 0, none⟩ = false) :
    CallsD Tryz.prog 115 #[.pointer (some ⟨b, 0, none⟩), .pointer (some ⟨b + 1, 0, none⟩)] (.panicking ({ v := .iface u pv, recovered := false } :: older)) w fun e u' w' =>
      e = .returned (.tuple #[]) ∧ u' = .panicking ({ v := .iface u pv, recovered := true } :: older) ∧ w' = (w.setCell ⟨b, 0, none⟩ (.int .i64 0)).setCell ⟨b + 1, 0, none⟩ (.bool false) := by
  refine callsD_of_wpS Tryz.func115 rfl fun c₀ cs hu => ?_
  apply wpS_seq
  apply wpS_region
  simp [wpOpsS, go_sem, recoverD, hu, Tryz.ntmps115, Exit.thenS]
  refine wpS_cond (t := true) (by simp [Act.eval, Array.replicate]) ?_
  simp only [if_true]
  apply wpS_region
  simp [wpOpsS, go_sem, hc0, hz0, hc1, hz1, bodyPostS, results, Tryz.results115]

theorem idle_Signed (p0 p1 : Addr) (w : World) :
    CallsD Tryz.prog 115 #[.pointer (some p0), .pointer (some p1)] .returning w fun e u' w' => e = .returned (.tuple #[]) ∧ u' = .returning ∧ w' = w := by
  refine callsD_of_wpS Tryz.func115 rfl fun c₀ cs hu => ?_
  apply wpS_seq
  apply wpS_region
  simp [wpOpsS, go_sem, recoverD, hu, Tryz.ntmps115, Exit.thenS]
  refine wpS_cond (t := false) (by simp [Act.eval, Array.replicate]) ?_
  simp only [Bool.false_eq_true, if_false]
  refine wpS_of_wp (wp_skip ?_)
  cases c₀
  simp_all [bodyPostS, results, Tryz.results115]

set_option maxHeartbeats 800000 in
theorem implSigned_any (s : ByteArray) (u : TypeId) (ev : Value) (w : World) (hs : s.size ≤ 1048576) (hr : Ready u ev w) :
    Calls Tryz.prog 101 #[.string s] w fun e w' => e = .returned (gotInt (must (-9999) 9999 s.data.toList)) ∧ Below w.heap.size w w' := by
  have hmf : ∀ (fn : Fn) (first cap : Array Value) (w : World), (Instr.makeFunc fn first cap).run Tryz.prog w = .ok (.func fn first cap) w := fun _ _ _ _ => rfl
  have M := fun A B => mustDigits_any s (-9999) 9999 u ev ((w.alloc A).alloc B) hs (hr.later (below2 w A B))
  clear hr
  rcases endInt_split (.iface u ev) (must (-9999) 9999 s.data.toList) with ⟨h1, h2⟩ | ⟨v, h1, h2⟩
  · rw [h2] at M
    rw [h1]
    clear h1 h2
    go_enter_defers Tryz.func101, Tryz.ntmps101
    go_wp2_with fail
    refine (M _ _).mono ?_
    clear M
    rintro e w1 ⟨rfl, hb⟩
    have hz := hb.size
    have c0 : w1.cell? ⟨w.heap.size, 0, none⟩ = some (.int .i64 0) := (hb.cell (p := ⟨w.heap.size, 0, none⟩) (by simp; omega)).trans (by simp [go_sem])
    have c1 : w1.cell? ⟨w.heap.size + 1, 0, none⟩ = some (.bool false) := (hb.cell (p := ⟨w.heap.size + 1, 0, none⟩) (by simp)).trans (by simp [go_sem])
    have z0 : w1.frozen? ⟨w.heap.size, 0, none⟩ = false := (hb.frozen (p := ⟨w.heap.size, 0, none⟩) (by simp; omega)).trans (by simp [go_sem])
    have z1 : w1.frozen? ⟨w.heap.size + 1, 0, none⟩ = false := (hb.frozen (p := ⟨w.heap.size + 1, 0, none⟩) (by simp)).trans (by simp [go_sem])
    have bel : Below w.heap.size w w1 := (below2 w _ _).trans (hb.mono (by simp; omega))
    refine leaves_cons (f := 115) (args := #[.pointer (some ⟨w.heap.size, 0, none⟩), .pointer (some ⟨w.heap.size + 1, 0, none⟩)]) (by simp) (by simp [go_sem]) ?_
    refine (catch_Signed w.heap.size _ _ u ev [] w1 c0 z0 c1 z1).mono ?_
    rintro e u' w'' ⟨rfl, rfl, rfl⟩
    have bel2 : Below w.heap.size w ((w1.setCell ⟨w.heap.size, 0, none⟩ (.int .i64 0)).setCell ⟨w.heap.size + 1, 0, none⟩ (.bool false)) := (bel.setCell (p := ⟨w.heap.size, 0, none⟩) (Nat.le_refl _) _).setCell (p := ⟨w.heap.size + 1, 0, none⟩) (by simp) _
    simp [Leaves, settle, results, Tryz.results101, go_sem, gotInt, c0, c1]
    exact bel2
  · rw [h2] at M
    rw [h1]
    clear h1 h2
    go_enter_defers Tryz.func101, Tryz.ntmps101
    go_wp2_with fail
    refine (M _ _).mono ?_
    clear M
    rintro e w1 ⟨rfl, hb⟩
    have hz := hb.size
    have c0 : w1.cell? ⟨w.heap.size, 0, none⟩ = some (.int .i64 0) := (hb.cell (p := ⟨w.heap.size, 0, none⟩) (by simp; omega)).trans (by simp [go_sem])
    have c1 : w1.cell? ⟨w.heap.size + 1, 0, none⟩ = some (.bool false) := (hb.cell (p := ⟨w.heap.size + 1, 0, none⟩) (by simp)).trans (by simp [go_sem])
    have z0 : w1.frozen? ⟨w.heap.size, 0, none⟩ = false := (hb.frozen (p := ⟨w.heap.size, 0, none⟩) (by simp; omega)).trans (by simp [go_sem])
    have z1 : w1.frozen? ⟨w.heap.size + 1, 0, none⟩ = false := (hb.frozen (p := ⟨w.heap.size + 1, 0, none⟩) (by simp)).trans (by simp [go_sem])
    have bel : Below w.heap.size w w1 := (below2 w _ _).trans (hb.mono (by simp; omega))
    have bel2 : Below w.heap.size w ((w1.setCell ⟨w.heap.size, 0, none⟩ (.int .i64 v)).setCell ⟨w.heap.size + 1, 0, none⟩ (.bool true)) := (bel.setCell (p := ⟨w.heap.size, 0, none⟩) (Nat.le_refl _) _).setCell (p := ⟨w.heap.size + 1, 0, none⟩) (by simp) _
    have Hbel2 : Hid (Below w.heap.size w ((w1.setCell ⟨w.heap.size, 0, none⟩ (.int .i64 v)).setCell ⟨w.heap.size + 1, 0, none⟩ (.bool true))) := bel2
    clear bel2 bel hb
    go_wp2
    refine leaves_cons (f := 115) (args := #[.pointer (some ⟨w.heap.size, 0, none⟩), .pointer (some ⟨w.heap.size + 1, 0, none⟩)]) (by simp) (by simp [go_sem]) ?_
    refine (idle_Signed _ _ _).mono ?_
    rintro e u' w'' ⟨rfl, rfl, rfl⟩
    simp [Leaves, settle, results, Tryz.results101, go_sem, gotInt, c0, c1]
    exact Hbel2.out
end Go.Proofs.YtfekcckckmhioaaGreatDoor
/- What the readers want of the package's variables and the library's. -/
namespace Go.Proofs.YtfekcckckmhioaaGreatDoor
open Go.RowKit
set_option maxRecDepth 100000
/-- What the readers want of the package's variables and the library's. -/
def Env (u : TypeId) (ev : Value) (m : Int) (w : World) : Prop :=
  Ready u ev w ∧ 1 < w.heap.size ∧ w.cell? ⟨1, 0, none⟩ = some (.int .i64 m)
theorem Env.later {u : TypeId} {ev : Value} {m : Int} {w w' : World} (h : Env u ev m w) (hb : Below w.heap.size w w') : Env u ev m w' :=
  ⟨h.1.later hb, Nat.lt_of_lt_of_le h.2.1 hb.size, (hb.cell (p := ⟨1, 0, none⟩) h.2.1).trans h.2.2⟩

theorem iParts_any (s : ByteArray) (b : UInt8) (u : TypeId) (ev : Value) (m : Int) (w : World) (hs : s.size ≤ 1048576) (hE : Env u ev m w) :
    Calls Tryz.prog 56 #[.string s, .int .u8 (b.toNat : Int)] w fun e w' => ∃ v, e = .returned v ∧ w'.ownsRow w.heap.size 9 1 v (pieces b s).length ((pieces b s).map Value.string) ∧ Below w.heap.size w w' :=
  implParts_any s b m w hs hE.2.1 hE.2.2
theorem iSigned_any (s : ByteArray) (u : TypeId) (ev : Value) (m : Int) (w : World) (hs : s.size ≤ 1048576) (hE : Env u ev m w) :
    Calls Tryz.prog 101 #[.string s] w fun e w' => e = .returned (gotInt (sigSpec s.data.toList)) ∧ Below w.heap.size w w' := by
  rw [signed_one]
  exact implSigned_any s u ev w hs hE.1

end Go.Proofs.YtfekcckckmhioaaGreatDoor
/- Whether an attribute is nominal, by the program. -/
namespace Go.Proofs.YtfekcckckmhioaaGreatDoor
open Go.RowKit
set_option maxRecDepth 100000

theorem nominal_any (v : Value) (a : AttrD) (w : World) (h : AttrAt w v a) : Calls Tryz.prog 68 #[v] w fun e w' => e = .returned (.bool (decide (0 < a.vals.length))) ∧ Below w.heap.size w w' := by
  obtain ⟨vc, vv, rfl, hc, hv⟩ := h
  obtain ⟨ov, cv, rfl, hvc, hvr⟩ := hv
  clear hvr hc
  go_enter Tryz.func68, Tryz.ntmps68
  go_wp2
  go_ret
  exact ⟨rfl, (Below.refl _ _).alloc (Nat.le_refl _) _⟩
end Go.Proofs.YtfekcckckmhioaaGreatDoor
