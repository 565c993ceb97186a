/- Texts of this claim, put together: part 19. -/
import Derived.Test.YtfekcckckmhioaaGreatDoorFnRowTextPack18
import Derived.Test.YtfekcckckmhioaaGreatDoorFnRowTextPack9
import Derived.WalkKit
import Derived.ProofKit
import Derived.OpenShut
import Derived.Lib.QuietBelow
import Derived.Test.YtfekcckckmhioaaGreatDoorFnRowTextPack5
import Derived.Test.YtfekcckckmhioaaGreatDoorFnRowTextPack4
import Derived.BigQuiet
import Derived.Test.YtfekcckckmhioaaGreatDoorFnRowTextPack3
import Derived.Test.YtfekcckckmhioaaGreatDoorFnRowTextPack2
/- The code of a refusal, by the program. -/
namespace Go.Proofs.YtfekcckckmhioaaGreatDoor
open Go.RowKit
set_option maxRecDepth 100000
set_option linter.unusedSimpArgs false
/-- The refusal that goes with a code and a place. -/
def errV (c at' : Int) : Value :=
  if c = 1 then .iface 84 (.agg #[]) else if c = 2 then .iface 85 (.agg #[]) else if c = 3 then .iface 86 (.agg #[]) else if c = 4 then .iface 91 (.agg #[]) else if c = 5 then .iface 93 (.agg #[.int .i64 at']) else if c = 6 then .iface 90 (.agg #[]) else .nilIface
set_option maxHeartbeats 1600000 in
theorem rowCode_schema (w : World) (hg : EtAt w) :
    Calls Tryz.prog 32 #[.iface 84 (.agg #[])] w fun e w' => e = .returned (.tuple #[.int .i64 1, .int .i64 0]) ∧ Below w.heap.size w w' := by
  have B0 : Below w.heap.size w ((((((w.alloc (.cells #[] 84)).alloc (.cells #[] 85)).alloc (.cells #[] 86)).alloc (.cells #[] 91)).alloc (.cells #[.int .i64 0] 93)).alloc (.cells #[] 90)) := ((((((Below.refl _ _).alloc (Nat.le_refl _) _).alloc (by simp) _).alloc (by simp <;> omega) _).alloc (by simp <;> omega) _).alloc (by simp <;> omega) _).alloc (by simp <;> omega) _
  have HG : Hid (∀ W, Below w.heap.size w W → EtAt W) := fun W h => hg.later h
  clear hg
  have KT : Blk 84 ((((((w.alloc (.cells #[] 84)).alloc (.cells #[] 85)).alloc (.cells #[] 86)).alloc (.cells #[] 91)).alloc (.cells #[.int .i64 0] 93)).alloc (.cells #[] 90)) (w.heap.size) #[] := by
    have := ((((((Blk.new 84 w #[]).alloc (.cells #[] 85)).alloc (.cells #[] 86)).alloc (.cells #[] 91)).alloc (.cells #[.int .i64 0] 93)).alloc (.cells #[] 90))
    simpa using this
  go_enter Tryz.func32, Tryz.ntmps32
  go_wp2_with fail
  refine (as_hit asT_schema asE_schema asN_schema (asH_schema) ⟨w.heap.size, 0, none⟩ _ (HG.out _ B0) KT.lt (fun v hv => by cases hv) (KT.frozen 0)).mono ?_
  rintro e w1 ⟨rfl, W, hbW, rfl⟩
  have BW := B0.trans (hbW.mono B0.size)
  clear KT hbW B0 HG
  go_wp2
  refine bodyPost_ret (results_tmp2 rfl _ _ _) rfl ⟨rfl, BW⟩
set_option maxHeartbeats 1600000 in
theorem rowCode_long (w : World) (hg : EtAt w) :
    Calls Tryz.prog 32 #[.iface 85 (.agg #[])] w fun e w' => e = .returned (.tuple #[.int .i64 2, .int .i64 0]) ∧ Below w.heap.size w w' := by
  have B0 : Below w.heap.size w ((((((w.alloc (.cells #[] 84)).alloc (.cells #[] 85)).alloc (.cells #[] 86)).alloc (.cells #[] 91)).alloc (.cells #[.int .i64 0] 93)).alloc (.cells #[] 90)) := ((((((Below.refl _ _).alloc (Nat.le_refl _) _).alloc (by simp) _).alloc (by simp <;> omega) _).alloc (by simp <;> omega) _).alloc (by simp <;> omega) _).alloc (by simp <;> omega) _
  have HG : Hid (∀ W, Below w.heap.size w W → EtAt W) := fun W h => hg.later h
  clear hg
  have KT : Blk 85 ((((((w.alloc (.cells #[] 84)).alloc (.cells #[] 85)).alloc (.cells #[] 86)).alloc (.cells #[] 91)).alloc (.cells #[.int .i64 0] 93)).alloc (.cells #[] 90)) (w.heap.size + 1) #[] := by
    have := (((((Blk.new 85 (w.alloc (.cells #[] 84)) #[]).alloc (.cells #[] 86)).alloc (.cells #[] 91)).alloc (.cells #[.int .i64 0] 93)).alloc (.cells #[] 90))
    simpa using this
  go_enter Tryz.func32, Tryz.ntmps32
  go_wp2_with fail
  refine (as_miss asT_schema asE_long asN_long_schema _ _ _ (HG.out _ B0)).mono ?_
  rintro e w1 ⟨rfl, hb1⟩
  have B1 := B0.trans (hb1.mono B0.size)
  replace KT := KT.below hb1
  clear hb1 B0
  go_wp2_with fail
  refine (as_hit asT_long asE_long asN_long (asH_long) ⟨w.heap.size + 1, 0, none⟩ _ (HG.out _ B1) KT.lt (fun v hv => by cases hv) (KT.frozen 0)).mono ?_
  rintro e w2 ⟨rfl, W, hbW, rfl⟩
  have BW := B1.trans (hbW.mono B1.size)
  clear KT hbW B1 HG
  go_wp2
  refine bodyPost_ret (results_tmp2 rfl _ _ _) rfl ⟨rfl, BW⟩
set_option maxHeartbeats 1600000 in
theorem rowCode_bar (w : World) (hg : EtAt w) :
    Calls Tryz.prog 32 #[.iface 86 (.agg #[])] w fun e w' => e = .returned (.tuple #[.int .i64 3, .int .i64 0]) ∧ Below w.heap.size w w' := by
  have B0 : Below w.heap.size w ((((((w.alloc (.cells #[] 84)).alloc (.cells #[] 85)).alloc (.cells #[] 86)).alloc (.cells #[] 91)).alloc (.cells #[.int .i64 0] 93)).alloc (.cells #[] 90)) := ((((((Below.refl _ _).alloc (Nat.le_refl _) _).alloc (by simp) _).alloc (by simp <;> omega) _).alloc (by simp <;> omega) _).alloc (by simp <;> omega) _).alloc (by simp <;> omega) _
  have HG : Hid (∀ W, Below w.heap.size w W → EtAt W) := fun W h => hg.later h
  clear hg
  have KT : Blk 86 ((((((w.alloc (.cells #[] 84)).alloc (.cells #[] 85)).alloc (.cells #[] 86)).alloc (.cells #[] 91)).alloc (.cells #[.int .i64 0] 93)).alloc (.cells #[] 90)) (w.heap.size + 1 + 1) #[] := by
    have := ((((Blk.new 86 ((w.alloc (.cells #[] 84)).alloc (.cells #[] 85)) #[]).alloc (.cells #[] 91)).alloc (.cells #[.int .i64 0] 93)).alloc (.cells #[] 90))
    simpa using this
  go_enter Tryz.func32, Tryz.ntmps32
  go_wp2_with fail
  refine (as_miss asT_schema asE_bar asN_bar_schema _ _ _ (HG.out _ B0)).mono ?_
  rintro e w1 ⟨rfl, hb1⟩
  have B1 := B0.trans (hb1.mono B0.size)
  replace KT := KT.below hb1
  clear hb1 B0
  go_wp2_with fail
  refine (as_miss asT_long asE_bar asN_bar_long _ _ _ (HG.out _ B1)).mono ?_
  rintro e w2 ⟨rfl, hb2⟩
  have B2 := B1.trans (hb2.mono B1.size)
  replace KT := KT.below hb2
  clear hb2 B1
  go_wp2_with fail
  refine (as_hit asT_bar asE_bar asN_bar (asH_bar) ⟨w.heap.size + 1 + 1, 0, none⟩ _ (HG.out _ B2) KT.lt (fun v hv => by cases hv) (KT.frozen 0)).mono ?_
  rintro e w3 ⟨rfl, W, hbW, rfl⟩
  have BW := B2.trans (hbW.mono B2.size)
  clear KT hbW B2 HG
  go_wp2
  refine bodyPost_ret (results_tmp2 rfl _ _ _) rfl ⟨rfl, BW⟩
set_option maxHeartbeats 1600000 in
theorem rowCode_count (w : World) (hg : EtAt w) :
    Calls Tryz.prog 32 #[.iface 91 (.agg #[])] w fun e w' => e = .returned (.tuple #[.int .i64 4, .int .i64 0]) ∧ Below w.heap.size w w' := by
  have B0 : Below w.heap.size w ((((((w.alloc (.cells #[] 84)).alloc (.cells #[] 85)).alloc (.cells #[] 86)).alloc (.cells #[] 91)).alloc (.cells #[.int .i64 0] 93)).alloc (.cells #[] 90)) := ((((((Below.refl _ _).alloc (Nat.le_refl _) _).alloc (by simp) _).alloc (by simp <;> omega) _).alloc (by simp <;> omega) _).alloc (by simp <;> omega) _).alloc (by simp <;> omega) _
  have HG : Hid (∀ W, Below w.heap.size w W → EtAt W) := fun W h => hg.later h
  clear hg
  have KT : Blk 91 ((((((w.alloc (.cells #[] 84)).alloc (.cells #[] 85)).alloc (.cells #[] 86)).alloc (.cells #[] 91)).alloc (.cells #[.int .i64 0] 93)).alloc (.cells #[] 90)) (w.heap.size + 1 + 1 + 1) #[] := by
    have := (((Blk.new 91 (((w.alloc (.cells #[] 84)).alloc (.cells #[] 85)).alloc (.cells #[] 86)) #[]).alloc (.cells #[.int .i64 0] 93)).alloc (.cells #[] 90))
    simpa using this
  go_enter Tryz.func32, Tryz.ntmps32
  go_wp2_with fail
  refine (as_miss asT_schema asE_count asN_count_schema _ _ _ (HG.out _ B0)).mono ?_
  rintro e w1 ⟨rfl, hb1⟩
  have B1 := B0.trans (hb1.mono B0.size)
  replace KT := KT.below hb1
  clear hb1 B0
  go_wp2_with fail
  refine (as_miss asT_long asE_count asN_count_long _ _ _ (HG.out _ B1)).mono ?_
  rintro e w2 ⟨rfl, hb2⟩
  have B2 := B1.trans (hb2.mono B1.size)
  replace KT := KT.below hb2
  clear hb2 B1
  go_wp2_with fail
  refine (as_miss asT_bar asE_count asN_count_bar _ _ _ (HG.out _ B2)).mono ?_
  rintro e w3 ⟨rfl, hb3⟩
  have B3 := B2.trans (hb3.mono B2.size)
  replace KT := KT.below hb3
  clear hb3 B2
  go_wp2_with fail
  refine (as_hit asT_count asE_count asN_count (asH_count) ⟨w.heap.size + 1 + 1 + 1, 0, none⟩ _ (HG.out _ B3) KT.lt (fun v hv => by cases hv) (KT.frozen 0)).mono ?_
  rintro e w4 ⟨rfl, W, hbW, rfl⟩
  have BW := B3.trans (hbW.mono B3.size)
  clear KT hbW B3 HG
  go_wp2
  refine bodyPost_ret (results_tmp2 rfl _ _ _) rfl ⟨rfl, BW⟩
set_option maxHeartbeats 1600000 in
theorem rowCode_cell (n : Int) (w : World) (hg : EtAt w) :
    Calls Tryz.prog 32 #[.iface 93 (.agg #[.int .i64 n])] w fun e w' => e = .returned (.tuple #[.int .i64 5, .int .i64 n]) ∧ Below w.heap.size w w' := by
  have B0 : Below w.heap.size w ((((((w.alloc (.cells #[] 84)).alloc (.cells #[] 85)).alloc (.cells #[] 86)).alloc (.cells #[] 91)).alloc (.cells #[.int .i64 0] 93)).alloc (.cells #[] 90)) := ((((((Below.refl _ _).alloc (Nat.le_refl _) _).alloc (by simp) _).alloc (by simp <;> omega) _).alloc (by simp <;> omega) _).alloc (by simp <;> omega) _).alloc (by simp <;> omega) _
  have HG : Hid (∀ W, Below w.heap.size w W → EtAt W) := fun W h => hg.later h
  clear hg
  have KC : Blk 93 ((((((w.alloc (.cells #[] 84)).alloc (.cells #[] 85)).alloc (.cells #[] 86)).alloc (.cells #[] 91)).alloc (.cells #[.int .i64 0] 93)).alloc (.cells #[] 90)) (w.heap.size + 1 + 1 + 1 + 1) #[.int .i64 0] := by
    have := (Blk.new 93 ((((w.alloc (.cells #[] 84)).alloc (.cells #[] 85)).alloc (.cells #[] 86)).alloc (.cells #[] 91)) #[.int .i64 0]).alloc (.cells #[] 90)
    simpa using this
  go_enter Tryz.func32, Tryz.ntmps32
  go_wp2_with fail
  refine (as_miss asT_schema asE_cell asN_cell_schema _ _ _ (HG.out _ B0)).mono ?_
  rintro e w1 ⟨rfl, hb1⟩
  have B1 := B0.trans (hb1.mono B0.size)
  replace KC := KC.below hb1
  clear hb1 B0
  go_wp2_with fail
  refine (as_miss asT_long asE_cell asN_cell_long _ _ _ (HG.out _ B1)).mono ?_
  rintro e w2 ⟨rfl, hb2⟩
  have B2 := B1.trans (hb2.mono B1.size)
  replace KC := KC.below hb2
  clear hb2 B1
  go_wp2_with fail
  refine (as_miss asT_bar asE_cell asN_cell_bar _ _ _ (HG.out _ B2)).mono ?_
  rintro e w3 ⟨rfl, hb3⟩
  have B3 := B2.trans (hb3.mono B2.size)
  replace KC := KC.below hb3
  clear hb3 B2
  go_wp2_with fail
  refine (as_miss asT_count asE_cell asN_cell_count _ _ _ (HG.out _ B3)).mono ?_
  rintro e w4 ⟨rfl, hb4⟩
  have B4 := B3.trans (hb4.mono B3.size)
  replace KC := KC.below hb4
  clear hb4 B3
  go_wp2_with fail
  refine (as_hit asT_cell asE_cell asN_cell (asH_cell n) ⟨w.heap.size + 1 + 1 + 1 + 1, 0, none⟩ _ (HG.out _ B4) KC.lt (fun v _ => ⟨_, KC.cell 0⟩) (KC.frozen 0)).mono ?_
  rintro e w5 ⟨rfl, W, hbW, rfl⟩
  have KW := KC.below hbW
  have cW : (W.setCell ⟨w.heap.size + 1 + 1 + 1 + 1, 0, none⟩ (.int .i64 n)).cell? ⟨w.heap.size + 1 + 1 + 1 + 1, 0, none⟩ = some (.int .i64 n) := (KW.setCell 0 (.int .i64 n)).cell 0
  have BW : Below w.heap.size w (W.setCell ⟨w.heap.size + 1 + 1 + 1 + 1, 0, none⟩ (.int .i64 n)) := (B4.trans (hbW.mono B4.size)).setCell (p := ⟨w.heap.size + 1 + 1 + 1 + 1, 0, none⟩) (by simp; omega) _
  have HBW : Hid (∀ q, Below w.heap.size w ((W.setCell ⟨w.heap.size + 1 + 1 + 1 + 1, 0, none⟩ (.int .i64 n)).drewN q)) := fun q => below_drewN BW q
  clear KW KC hbW BW B4 HG
  go_wp2
  go_quiet (fail)
  all_goals go_wp2
  all_goals exact bodyPost_ret (results_tmp2 rfl _ _ _) rfl ⟨rfl, HBW.out _⟩
set_option maxHeartbeats 1600000 in
theorem rowCode_class (w : World) (hg : EtAt w) :
    Calls Tryz.prog 32 #[.iface 90 (.agg #[])] w fun e w' => e = .returned (.tuple #[.int .i64 6, .int .i64 0]) ∧ Below w.heap.size w w' := by
  have B0 : Below w.heap.size w ((((((w.alloc (.cells #[] 84)).alloc (.cells #[] 85)).alloc (.cells #[] 86)).alloc (.cells #[] 91)).alloc (.cells #[.int .i64 0] 93)).alloc (.cells #[] 90)) := ((((((Below.refl _ _).alloc (Nat.le_refl _) _).alloc (by simp) _).alloc (by simp <;> omega) _).alloc (by simp <;> omega) _).alloc (by simp <;> omega) _).alloc (by simp <;> omega) _
  have HG : Hid (∀ W, Below w.heap.size w W → EtAt W) := fun W h => hg.later h
  clear hg
  have KT : Blk 90 ((((((w.alloc (.cells #[] 84)).alloc (.cells #[] 85)).alloc (.cells #[] 86)).alloc (.cells #[] 91)).alloc (.cells #[.int .i64 0] 93)).alloc (.cells #[] 90)) (w.heap.size + 1 + 1 + 1 + 1 + 1) #[] := by
    have := (Blk.new 90 (((((w.alloc (.cells #[] 84)).alloc (.cells #[] 85)).alloc (.cells #[] 86)).alloc (.cells #[] 91)).alloc (.cells #[.int .i64 0] 93)) #[])
    simpa using this
  go_enter Tryz.func32, Tryz.ntmps32
  go_wp2_with fail
  refine (as_miss asT_schema asE_class asN_class_schema _ _ _ (HG.out _ B0)).mono ?_
  rintro e w1 ⟨rfl, hb1⟩
  have B1 := B0.trans (hb1.mono B0.size)
  replace KT := KT.below hb1
  clear hb1 B0
  go_wp2_with fail
  refine (as_miss asT_long asE_class asN_class_long _ _ _ (HG.out _ B1)).mono ?_
  rintro e w2 ⟨rfl, hb2⟩
  have B2 := B1.trans (hb2.mono B1.size)
  replace KT := KT.below hb2
  clear hb2 B1
  go_wp2_with fail
  refine (as_miss asT_bar asE_class asN_class_bar _ _ _ (HG.out _ B2)).mono ?_
  rintro e w3 ⟨rfl, hb3⟩
  have B3 := B2.trans (hb3.mono B2.size)
  replace KT := KT.below hb3
  clear hb3 B2
  go_wp2_with fail
  refine (as_miss asT_count asE_class asN_class_count _ _ _ (HG.out _ B3)).mono ?_
  rintro e w4 ⟨rfl, hb4⟩
  have B4 := B3.trans (hb4.mono B3.size)
  replace KT := KT.below hb4
  clear hb4 B3
  go_wp2_with fail
  refine (as_miss asT_cell asE_class asN_class_cell _ _ _ (HG.out _ B4)).mono ?_
  rintro e w5 ⟨rfl, hb5⟩
  have B5 := B4.trans (hb5.mono B4.size)
  replace KT := KT.below hb5
  clear hb5 B4
  go_wp2_with fail
  refine (as_hit asT_class asE_class asN_class (asH_class) ⟨w.heap.size + 1 + 1 + 1 + 1 + 1, 0, none⟩ _ (HG.out _ B5) KT.lt (fun v hv => by cases hv) (KT.frozen 0)).mono ?_
  rintro e w6 ⟨rfl, W, hbW, rfl⟩
  have BW := B5.trans (hbW.mono B5.size)
  clear KT hbW B5 HG
  go_wp2
  refine bodyPost_ret (results_tmp2 rfl _ _ _) rfl ⟨rfl, BW⟩
set_option maxHeartbeats 1600000 in
theorem rowCode_nil (w : World) :
    Calls Tryz.prog 32 #[.nilIface] w fun e w' => e = .returned (.tuple #[.int .i64 0, .int .i64 0]) ∧ Below w.heap.size w w' := by
  have B0 : Below w.heap.size w ((((((w.alloc (.cells #[] 84)).alloc (.cells #[] 85)).alloc (.cells #[] 86)).alloc (.cells #[] 91)).alloc (.cells #[.int .i64 0] 93)).alloc (.cells #[] 90)) := ((((((Below.refl _ _).alloc (Nat.le_refl _) _).alloc (by simp) _).alloc (by simp <;> omega) _).alloc (by simp <;> omega) _).alloc (by simp <;> omega) _).alloc (by simp <;> omega) _
  go_enter Tryz.func32, Tryz.ntmps32
  go_wp2_with fail
  refine (as_nil _ _).mono ?_
  rintro e w1 ⟨rfl, rfl⟩
  go_wp2_with fail
  refine (as_nil _ _).mono ?_
  rintro e w2 ⟨rfl, rfl⟩
  go_wp2_with fail
  refine (as_nil _ _).mono ?_
  rintro e w3 ⟨rfl, rfl⟩
  go_wp2_with fail
  refine (as_nil _ _).mono ?_
  rintro e w4 ⟨rfl, rfl⟩
  go_wp2_with fail
  refine (as_nil _ _).mono ?_
  rintro e w5 ⟨rfl, rfl⟩
  go_wp2_with fail
  refine (as_nil _ _).mono ?_
  rintro e w6 ⟨rfl, rfl⟩
  go_wp2
  refine bodyPost_ret (results_tmp2 rfl _ _ _) rfl ⟨rfl, B0⟩
theorem rowCode_any (c n : Int) (w : World) (hg : EtAt w) (h0 : 0 ≤ c) (h1 : c ≤ 6) (hn : c ≠ 5 → n = 0) :
    Calls Tryz.prog 32 #[errV c n] w fun e w' => e = .returned (.tuple #[.int .i64 c, .int .i64 n]) ∧ Below w.heap.size w w' := by
  rcases (show c = 0 ∨ c = 1 ∨ c = 2 ∨ c = 3 ∨ c = 4 ∨ c = 5 ∨ c = 6 by omega) with rfl | rfl | rfl | rfl | rfl | rfl | rfl
  · rw [hn (by decide)]; exact rowCode_nil w
  · rw [hn (by decide)]; exact rowCode_schema w hg
  · rw [hn (by decide)]; exact rowCode_long w hg
  · rw [hn (by decide)]; exact rowCode_bar w hg
  · rw [hn (by decide)]; exact rowCode_count w hg
  · exact rowCode_cell n w hg
  · rw [hn (by decide)]; exact rowCode_class w hg
end Go.Proofs.YtfekcckckmhioaaGreatDoor
/- A call that changes nothing, in a region that draws its order. -/
namespace Go.Proofs.YtfekcckckmhioaaGreatDoor
open Go.RowKit
set_option maxRecDepth 100000
theorem regrown_same {P : Program} {f : FuncId} {args : Array Value} {w : World} {d : Nat} {os : Array Obj} {v : Value} (h : Calls P f args (Go.Sort.grow (redrawn w d) os) fun e w' => e = .returned v ∧ w' = Go.Sort.grow (redrawn w d) os) :
    Calls P f args (Go.Sort.grow (redrawn w d) os) fun e w'' => e = .returned v ∧ ∃ p : Regrown, w'' = Go.Sort.grow (redrawn w p.d) p.os :=
  h.mono fun _ _ ⟨he, hb⟩ => ⟨he, ⟨d, os⟩, hb⟩
end Go.Proofs.YtfekcckckmhioaaGreatDoor
/- The bins of a row's parts, by the program. -/
namespace Go.Proofs.YtfekcckckmhioaaGreatDoor
open Go.RowKit
set_option maxRecDepth 100000
set_option linter.unusedSimpArgs false
/-- What the reader of bins has found: the bins, or a refusal's code and its place. -/
def BinsGot (ls : List AttrD) (ps : List ByteArray) (l : List Int) (c n : Int) : Prop :=
  (ps.length ≠ ls.length ∧ l = [] ∧ c = 4 ∧ n = 0) ∨
  (ps.length = ls.length ∧ (∃ k : Nat, k < ps.length ∧ (∀ j, j < k → (cellB (ad ls j) (tx ps j)).isSome = true) ∧ cellB (ad ls k) (tx ps k) = none ∧ n = (k : Int)) ∧ l = [] ∧ c = 5) ∨
  (ps.length = ls.length ∧ binsFrom ls ps ps.length = some l ∧ c = 0 ∧ n = 0)
theorem cellX_small {a : AttrD} {t : ByteArray} (hn : okA a) : -9223372036854775808 ≤ cellXi a t ∧ cellXi a t ≤ 9223372036854775807 := by
  unfold cellXi
  have := hn.cuts
  have := hn.vals.1
  have h1 := placeT_bounds a.vals t
  have h2 := binN_le a.cuts ((sigSpec t.data.toList).getD 0)
  split
  · split <;> omega
  · split <;> omega
set_option maxHeartbeats 1600000 in
theorem binsRead_any (va vc : Value) (ls : List AttrD) (ps : List ByteArray) (u : TypeId) (ev : Value) (m : Int) (w : World) (ha : RowA w va ls) (hc : RowS w vc ps) (hn : ls.length ≤ 1099511627776) (hp : ps.length ≤ 1099511627776) (hok : ∀ a ∈ ls, okA a) (hz : ∀ t ∈ ps, t.size ≤ 1048576) (hE : Env u ev m w) :
    Calls Tryz.prog 57 #[va, vc] w fun e w' => ∃ v l c n, e = .returned (.tuple #[v, errV c n]) ∧ BinsGot ls ps l c n ∧ w'.ownsRow w.heap.size 3 1 v l.length (l.map (Value.int .i64)) ∧ Below w.heap.size w w' := by
  have mixed : Tryz.prog.follows .mixedOrders = true := by kernel_rfl
  obtain ⟨i0, hi, hz0, hz1, hz2⟩ := info_parts intInfo
  have HA : Hid (∀ W, Below w.heap.size w W → RowA W va ls) := fun W h => ha.later h
  have HC : Hid (∀ W, Below w.heap.size w W → RowS W vc ps) := fun W h => hc.later h
  have HENV : Hid (∀ W, Below w.heap.size w W → Env u ev m W) := fun W h => hE.later h
  have HOK : Hid (∀ a ∈ ls, okA a) := hok
  have HZ : Hid (∀ t ∈ ps, t.size ≤ 1048576) := hz
  obtain ⟨oa, ka, rfl, -, -⟩ := id ha
  obtain ⟨oc, kc, rfl, -, -⟩ := id hc
  clear ha hc hE hok hz
  by_cases hl : ps.length = ls.length
  rotate_left
  · have hq : ((ps.length : Int) != (ls.length : Int)) = true := by rw [bne_iff_ne]; omega
    have HG : Hid (BinsGot ls ps [] 4 0) := .inl ⟨hl, rfl, rfl, rfl⟩
    clear hl
    go_enter Tryz.func57, Tryz.ntmps57
    go_wp2
    exact bodyPost_ret (results_tmp2 rfl _ _ _) rfl ⟨.slice none 0 0, [], 4, 0, rfl, HG.out, ⟨by simp, .inl ⟨rfl, rfl⟩⟩, Below.refl _ _⟩
  have hq : ((ps.length : Int) != (ls.length : Int)) = false := by rw [hl]; simp
  have HL : Hid (ps.length = ls.length) := hl
  clear hl
  go_enter Tryz.func57, Tryz.ntmps57
  go_wp2
  go_loopw [6, 7, 9, 10, 20] (fun v _ _ _ i wr => ∃ (k : Nat) (l : List Int), i = .int .i64 k ∧ k ≤ ls.length ∧ Hid (binsFrom ls ps k = some l) ∧ wr.ownsRow w.heap.size 3 1 v k (l.map (Value.int .i64)) ∧ Below w.heap.size w wr) (fun _ _ _ _ i _ => ls.length - (intOf i).toNat)
  case atStart => exact ⟨0, [], rfl, by omega, rfl, ⟨by simp, .inl ⟨rfl, rfl⟩⟩, Below.refl _ _⟩
  case round =>
    obtain ⟨k, l, rfl, hk, HBF, hown, hbr⟩ := hrel
    by_cases hkA : k < ls.length
    · obtain ⟨oa', ka', e', -, hrA⟩ := HA.out wr hbr
      cases e'
      obtain ⟨ga, fa, rfl, hga, hjA⟩ := hrA (by omega)
      obtain ⟨x1, x2, c0, c1, c2, r1, r2⟩ := hjA k hkA
      obtain ⟨y1, z1, rfl, -, -⟩ := id r1
      obtain ⟨y2, z2, rfl, -, -⟩ := id r2
      have hlt : k < ps.length := by have := HL.out; omega
      obtain ⟨oc', kc', e', -, hrC⟩ := HC.out wr hbr
      cases e'
      obtain ⟨gc, fc, rfl, hgc, hjC⟩ := hrC (by omega)
      have b0 := hjC k hlt
      obtain ⟨KA, BA⟩ := blk_1 57 wr #[.string (ad ls k).name, .slice y1 (ad ls k).cuts.length z1, .slice y2 (ad ls k).vals.length z2]
      obtain ⟨W, hW⟩ : ∃ W, W = wr.alloc (.cells #[.string (ad ls k).name, .slice y1 (ad ls k).cuts.length z1, .slice y2 (ad ls k).vals.length z2] 57) := ⟨_, rfl⟩
      rw [← hW] at KA BA
      have hbW := hbr.trans (BA.mono hbr.size)
      have cR := fun d os => Calls.regrown_of (cellRead_any (.agg #[.string (ad ls k).name, .slice y1 (ad ls k).cuts.length z1, .slice y2 (ad ls k).vals.length z2]) (ad ls k) (tx ps k) u ev m (Go.Sort.grow (redrawn W d) os) ⟨_, _, rfl, (r1.later BA).later (below_regrown W d os), (r2.later BA).later (below_regrown W d os)⟩ (HOK.out _ (ad_mem hkA)) (HZ.out _ (tx_mem hlt)) (HENV.out _ (hbW.trans ((below_regrown W d os).mono hbW.size))))
      have s0 : W.cell? ⟨wr.heap.size, 0, none⟩ = some (.string (ad ls k).name) := KA.cell 0
      have s1 : W.cell? ⟨wr.heap.size, 1, none⟩ = some (.slice y1 (ad ls k).cuts.length z1) := KA.cell 1
      have s2 : W.cell? ⟨wr.heap.size, 2, none⟩ = some (.slice y2 (ad ls k).vals.length z2) := KA.cell 2
      have d0 := fun d os => cell_regrown s0 d os
      have d1 := fun d os => cell_regrown s1 d os
      have d2 := fun d os => cell_regrown s2 d os
      have d3 := fun d os => cell_regrown ((BA.cell (p := ⟨gc, fc + k, none⟩) hgc).trans b0) d os
      have HBR : Hid (∀ d os, Below w.heap.size w (Go.Sort.grow (redrawn W d) os)) := fun d os => hbW.trans ((below_regrown W d os).mono hbW.size)
      have HOW : Hid (∀ d os, (Go.Sort.grow (redrawn W d) os).ownsRow w.heap.size 3 1 _ k (l.map (Value.int .i64))) := fun d os => own_below (own_below hown BA) (below_regrown W d os)
      obtain ⟨ov, cv, rfl⟩ := own_slice hown
      have hxs := cellX_small (t := tx ps k) (HOK.out _ (ad_mem hkA))
      clear s0 s1 s2 hjA hrA hjC hrC r1 r2 b0 hbr hbW hgc hga KA BA hown
      cases hcb : cellB (ad ls k) (tx ps k) with
      | none =>
        have HG : Hid (BinsGot ls ps [] 5 (k : Int)) := .inr (.inl ⟨HL.out, ⟨k, hlt, fun j hj => by rw [binsFrom_all HBF.out j hj]; rfl, hcb, rfl⟩, rfl, rfl⟩)
        rw [hcb] at cR
        clear hcb
        generalize cellXi (ad ls k) (tx ps k) = X at cR hxs
        generalize tx ps k = tk at cR d3
        go_wp2
        rw [← hW]
        clear hW c0 c1 c2
        refine wp_region_quiet_below mixed (by kernel_rfl) ?_
        repeat (go_big_quiet_step (with_reducible exact cR _ _))
        refine wpQuiet_nil ?_
        intro _ hw'
        obtain ⟨⟨dq, osq⟩, hw''⟩ := hw'
        subst hw''
        clear cR d0 d1 d2 d3
        go_wp2
        exact bodyPost_ret (results_tmp2 rfl _ _ _) rfl ⟨.slice none 0 0, [], 5, (k : Int), rfl, HG.out, ⟨by simp, .inl ⟨rfl, rfl⟩⟩, HBR.out _ _⟩
      | some b =>
        have HN : Hid (binsFrom ls ps (k + 1) = some (l ++ [b])) := binsFrom_step HBF.out hcb
        have hxb := cellXi_val hcb
        rw [hcb, hxb] at cR
        rw [hxb] at hxs
        clear hcb hxb
        generalize tx ps k = tk at cR d3
        go_wp2
        rw [← hW]
        clear hW c0 c1 c2
        refine wp_region_quiet_below mixed (by kernel_rfl) ?_
        repeat (go_big_quiet_step (with_reducible exact cR _ _))
        refine wpQuiet_nil ?_
        intro _ hw'
        obtain ⟨⟨dq, osq⟩, hw''⟩ := hw'
        subst hw''
        clear cR d0 d1 d2 d3
        have hown2 := HOW.out dq osq
        have HB2 : Hid (Below w.heap.size w (Go.Sort.grow (redrawn W dq) osq)) := HBR.out _ _
        have hsz2 := HB2.out.size
        clear HBR HOW
        generalize Go.Sort.grow (redrawn W dq) osq = w2 at hown2 HB2 hsz2
        go_wp2_with (at_builtin; refine wpList_append_own _ rfl _ _ 28 rfl w.heap.size 3 i0 (.int .i64 0) 1 8 Tryz.underlying28 hi hz0 hz1 hz2 rfl (by decide) _ _ _ rfl (hown2.alloc _) ⟨w2.heap.size, 0, none⟩ 1 1 [_] rfl rfl (newc _ _ _) ?d2 ?d3 ?d4 ?d5 ?_)
        case d2 => intro u hu; simp at hu; subst hu; rfl
        case d3 => unfold maxLen; omega
        case d4 => omega
        case d5 => simp; omega
        intro v' w3 hown' hgrow _
        have R : w3.ownsRow w.heap.size 3 1 v' (k + 1) ((l ++ [b]).map (Value.int .i64)) := by simpa using hown'
        have BB : Below w.heap.size w w3 := (HB2.out.alloc hsz2 _).grown hgrow (by simp; omega) fun j hj => (hown2.lt j hj).1
        clear hown' hgrow hown2
        go_wp2
        go_roundw
        case rel => exact ⟨k + 1, _, by go_num, by omega, HN, R, BB⟩
        case measure => simp [intOf]; omega
    · obtain rfl : k = ls.length := by omega
      have HG : Hid (BinsGot ls ps l 0 0) := .inr (.inr ⟨HL.out, by rw [HL.out]; exact HBF.out, rfl, rfl⟩)
      have hll := binsFrom_len HBF.out
      have HO : Hid (wr.ownsRow w.heap.size 3 1 _ l.length (l.map (Value.int .i64))) := show wr.ownsRow w.heap.size 3 1 _ l.length (l.map (Value.int .i64)) by rw [hll]; exact hown
      obtain ⟨ov, cv, rfl⟩ := own_slice hown
      clear hll hown
      go_wp2
      exact bodyPost_ret (results_tmp2 rfl _ _ _) rfl ⟨_, l, 0, 0, rfl, HG.out, HO.out, hbr⟩
end Go.Proofs.YtfekcckckmhioaaGreatDoor
/- Cuts: whether they are right, by the program. -/
namespace Go.Proofs.YtfekcckckmhioaaGreatDoor
open Go.RowKit
set_option maxRecDepth 100000
set_option maxHeartbeats 400000 in
theorem implCuts_any (v : Value) (cs : List Int) (w : World) (h : RowI w v cs) (hn : cs.length ≤ 1099511627776) (h0 : cs.length ≠ 0) :
    Calls Tryz.prog 94 #[v] w fun e w' => e = .returned (.bool (decide (cs.length ≤ 3) && cutsRise cs)) ∧ Below w.heap.size w w' := by
  obtain ⟨oa, cap, rfl, hc, hr⟩ := h
  obtain ⟨g, o, rfl, hg, hj⟩ := hr (by omega)
  have HJ : Hid (∀ j, j < cs.length → w.cell? ⟨g, o + j, none⟩ = some (.int .i64 (cs.getD j 0))) := hj
  clear hj hr
  have l1 : ¬ (cs.length : Int) < 1 := by omega
  by_cases h3 : (cs.length : Int) ≤ 3
  rotate_left
  · have HF : Hid ((decide (cs.length ≤ 3) && cutsRise cs) = false) := by rw [decide_eq_false (by omega)]; rfl
    go_enter Tryz.func94, Tryz.ntmps94
    go_wp2
    go_ret
    exact ⟨by rw [HF.out]; rfl, Below.refl _ _⟩
  have HC : Hid ((decide (cs.length ≤ 3) && cutsRise cs) = cutsRise cs) := by rw [decide_eq_true (by omega)]; rfl
  go_enter Tryz.func94, Tryz.ntmps94
  go_wp2
  go_loopw [3, 16] (fun l i wr => ∃ k : Nat, i = .int .i64 k ∧ l = .int .i64 (leastAt cs k) ∧ k ≤ cs.length ∧ (∀ j, j < k → cutAt cs j = true) ∧ wr = w) (fun _ i _ => cs.length - (intOf i).toNat)
  case atStart => exact ⟨0, rfl, rfl, by omega, by omega, rfl⟩
  case round =>
    obtain ⟨k, rfl, rfl, hk, hal, rfl⟩ := hrel
    have HA : Hid (∀ j, j < k → cutAt cs j = true) := hal
    clear hal
    by_cases hlt : k < cs.length
    · have hcell := HJ.out k hlt
      have HL : Hid (∀ c, cs.getD k 0 = c → (leastAt cs k ≤ c ∧ c ≤ 9998 → cutAt cs k = true) ∧ (¬ (leastAt cs k ≤ c ∧ c ≤ 9998) → cutAt cs k = false)) := by
        intro c hc
        unfold leastAt cutAt
        rw [hc]
        by_cases hk0 : k = 0
        · subst hk0; simp
        · have hp := HA.out (k - 1) (by omega)
          unfold cutAt at hp
          simp at hp
          simp [hk0]
          constructor
          · intro a b; omega
          · intro a b c; omega
      generalize hcc : cs.getD k 0 = c at hcell
      have HK := HL.out c hcc
      have HKK : Hid ((leastAt cs k ≤ c ∧ c ≤ 9998 → cutAt cs k = true) ∧ (¬ (leastAt cs k ≤ c ∧ c ≤ 9998) → cutAt cs k = false)) := HK
      have HN : Hid (c + 1 = leastAt cs (k + 1)) := by unfold leastAt; rw [if_neg (by omega), Nat.add_sub_cancel, hcc]; rfl
      have hlo : -9999 ≤ leastAt cs k := by
        unfold leastAt
        by_cases hk0 : k = 0
        · rw [if_pos hk0]; omega
        · rw [if_neg hk0]
          have hp := cutAt_in (HA.out (k - 1) (by omega))
          omega
      clear HL HK hcc
      generalize leastAt cs k = L at HKK hlo
      by_cases c1 : c < L
      · have HF : Hid (cutsRise cs = false) := rise_no k hlt (HKK.out.2 (by omega))
        go_wp2
        go_ret
        exact ⟨by rw [HC.out, HF.out]; rfl, Below.refl _ _⟩
      · by_cases c2 : c ≤ 9998
        · have HF : Hid (cutAt cs k = true) := HKK.out.1 (by omega)
          go_wp2
          go_roundw
          case rel =>
            refine ⟨k + 1, by go_num, by rw [← HN.out], by omega, ?_, by first | rfl | trivial⟩
            intro j hj
            by_cases e : j = k
            · subst e; exact HF.out
            · exact HA.out j (by omega)
          case measure => simp [intOf]; omega
        · have HF : Hid (cutsRise cs = false) := rise_no k hlt (HKK.out.2 (by omega))
          go_wp2
          go_ret
          exact ⟨by rw [HC.out, HF.out]; rfl, Below.refl _ _⟩
    · have HF : Hid (cutsRise cs = true) := rise_yes fun j hj => HA.out j (by omega)
      go_wp2
      go_ret
      exact ⟨by rw [HC.out, HF.out]; rfl, Below.refl _ _⟩
end Go.Proofs.YtfekcckckmhioaaGreatDoor
