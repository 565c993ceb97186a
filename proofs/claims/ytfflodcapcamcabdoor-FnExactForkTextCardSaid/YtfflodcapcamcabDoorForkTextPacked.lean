/- For every schema and every question the exact law of ForkText returns true: the program writes the text that the specification writes, and nothing into the schema. The library's tables are as the program's text lays them. No other condition. -/
import Derived.Test.YtfflodcapcamcabDoorCards
import Derived.Test.YtfflodcapcamcabDoorTie
import Derived.Test.YtfflodcapcamcabDoorForkTextPack6
import Derived.Test.YtfflodcapcamcabDoorForkTextPack7
import Derived.Test.YtfflodcapcamcabDoorForkTextPack15
import Derived.Test.YtfflodcapcamcabDoorForkTextPack16
import Derived.Test.YtfflodcapcamcabDoorForkTextPack10
import Derived.WalkSmall
import Derived.ChangeOld
import Derived.LaidMore
import Derived.Lib.LaidTab
import Derived.Stop.Joined
import Derived.Stop.LaidErr
import Derived.SevenTiedAt
namespace Go.Proofs.YtfflodcapcamcabDoor.fnExactForkText
open Go.ChangeShapes Go.WideShapes Go.ChangeAt Go.RowKit

theorem own : ownKnob Tryd.prog.godebug = none := by kernel_rfl
theorem gPType : (Tryd.prog.globals[0]?).map (·.type) = some 87 := by kernel_rfl
theorem cellsE : Tryd.prog.cellsOf 80 = 1 := by kernel_rfl
theorem cellsT : Tryd.prog.cellsOf 87 = 20 := by kernel_rfl
theorem tabE : (Rows.laid_internal_strconv_uint64pow10 : DataW Unit) = Lib.tabData .u64 Lib.pow10Tab := by kernel_rfl
theorem laidOut : laidOutB Tryd.prog = true := by kernel_rfl

/-- What the list gives: the table of powers of ten. -/
theorem table {W : World} (h : laidMetH Tryd.prog Rows.fnExactForkTextRow.laid W) : Tab W := by
  rw [MakeChecks.laidMetH_plain _ _ _ (by kernel_rfl)] at h
  have h2 := laidMet.tail (laidMet.tail h)
  rw [tabE] at h2
  have ht := Lib.tabIs_of_head gPw gPType Tryd.underlying87 Tryd.underlying80 cellsE cellsT h2
  refine ⟨ht, ?_⟩
  have hc := ht.cell gPw 0 (by decide)
  rcases Nat.lt_or_ge 0 W.heap.size with h3 | h3
  · exact h3
  · have e : W.heap[0]? = none := Array.getElem?_eq_none h3
    simp [World.cell?, e] at hc


set_option maxRecDepth 100000 in
set_option maxHeartbeats 6400000 in
set_option linter.unusedSimpArgs false in
theorem walk (v0 : Value) (a0 : SchemaD) (a1 : ForkD) (w : World) (ha0 : SchemaAt w v0 a0) (hi0 : inS a0) (_ : -9223372036854775808 ≤ a1.attr ∧ a1.attr ≤ 9223372036854775807) (_ : -9223372036854775808 ≤ a1.pos ∧ a1.pos ≤ 9223372036854775807) (hT : Tab w) :
    Calls Tryd.prog 3 #[v0, forkV a1] w fun e w' => e = .returned (.bool true) ∧ Below w.heap.size w w' := by
  have HTAB : Hid (Tab w) := hT
  clear hT
  have HHA0 : Hid (∀ W, Below w.heap.size w W → SchemaAt W v0 a0) := fun W h => ha0.later h
  obtain ⟨y1, y2, rfl, rr1, rr2⟩ := id ha0
  obtain ⟨o01, c01, rfl, -, -⟩ := id rr1
  obtain ⟨o02, c02, rfl, -, -⟩ := id rr2
  clear rr1 rr2
  have HC0 : Hid (∀ W (r : Int) (_ : 0 ≤ r) (_ : r ≤ 1048576) (_ : Below w.heap.size w W), Calls Tryd.prog 4 #[.agg #[.slice o01 a0.attrs.length c01, .slice o02 a0.classes.length c02], .int .i64 r] W fun e w' => ∃ r' : Int, e = .returned (.int .i64 r') ∧ ((0 ≤ r' ∧ r' ≤ r ∧ fitS a0) ∨ r' = -1) ∧ Below W.heap.size W w') := fun W r h0 h1 hW => szSchema_row _ a0 r W (ha0.later hW) hi0 h0 h1
  unfold forkV
  clear ha0 hi0
  obtain ⟨KA0, KA1, B⟩ := blk_2 25 27 w #[.slice o01 a0.attrs.length c01, .slice o02 a0.classes.length c02] #[.int .i64 a1.attr, .int .i64 a1.pos]
  go_enter Tryd.func3, Tryd.ntmps3
  have kKA00 : ((w.alloc (.cells #[.slice o01 a0.attrs.length c01, .slice o02 a0.classes.length c02] 25)).alloc (.cells #[.int .i64 a1.attr, .int .i64 a1.pos] 27)).cell? ⟨w.heap.size, 0, none⟩ = some (.slice o01 a0.attrs.length c01) := KA0.cell 0
  have kKA01 : ((w.alloc (.cells #[.slice o01 a0.attrs.length c01, .slice o02 a0.classes.length c02] 25)).alloc (.cells #[.int .i64 a1.attr, .int .i64 a1.pos] 27)).cell? ⟨w.heap.size, 1, none⟩ = some (.slice o02 a0.classes.length c02) := KA0.cell 1
  have kKA10 : ((w.alloc (.cells #[.slice o01 a0.attrs.length c01, .slice o02 a0.classes.length c02] 25)).alloc (.cells #[.int .i64 a1.attr, .int .i64 a1.pos] 27)).cell? ⟨w.heap.size + 1, 0, none⟩ = some (.int .i64 a1.attr) := KA1.cell 0
  have kKA11 : ((w.alloc (.cells #[.slice o01 a0.attrs.length c01, .slice o02 a0.classes.length c02] 25)).alloc (.cells #[.int .i64 a1.attr, .int .i64 a1.pos] 27)).cell? ⟨w.heap.size + 1, 1, none⟩ = some (.int .i64 a1.pos) := KA1.cell 1
  go_wp2_with fail
  refine (HC0.out _ 1048576 (by omega) (by omega) B).mono ?_
  clear HC0
  clear kKA00 kKA01 kKA10 kKA11
  rintro e w1 ⟨r0, rfl, hr, hb⟩
  replace B := B.trans (hb.mono B.size)
  replace KA0 := KA0.below hb
  replace KA1 := KA1.below hb
  clear hb
  rcases hr with ⟨r00, r01, hf⟩ | rfl
  rotate_left
  · go_wp2
    go_ret
    exact ⟨rfl, B⟩
  have HF0 : Hid (fitS a0) := hf
  clear hf
  have r0n : ¬ r0 < 0 := by omega
  have HI : Hid (∀ W v0 (_ : Below w.heap.size w W) (_ : SchemaAt W v0 a0), Calls Tryd.prog 8 #[v0, .agg #[.int .i64 a1.attr, .int .i64 a1.pos]] W fun e w' => e = .returned (.string (forkText a0 a1)) ∧ Below W.heap.size W w') := fun W v0 hW h0 => implForkText_any v0 a0 a1 W h0 HF0.out.ok (HTAB.out.later hW)
  have HSP : Hid (∀ W v0 (_ : Below w.heap.size w W) (_ : SchemaAt W v0 a0), Calls Tryd.prog 5 #[v0, .agg #[.int .i64 a1.attr, .int .i64 a1.pos]] W fun e w' => e = .returned (.string (forkText a0 a1)) ∧ Below W.heap.size W w') := fun W v0 hW h0 => specForkText_any v0 a0 a1 W h0 HF0.out.ok
  generalize forkText a0 a1 = G at HI HSP
  have HTL0 : Hid (∀ W, Below w.heap.size w W → Calls Tryd.prog 6 #[.agg #[.slice o01 a0.attrs.length c01, .slice o02 a0.classes.length c02]] W fun e w' => ∃ v, e = .returned v ∧ SchemaAt w' v a0 ∧ Below W.heap.size W w') := fun W hW => (toSchema_row _ a0 W (HHA0.out W hW) HF0.out).mono fun e w' h => by obtain ⟨v, h1, h2, h3⟩ := h; exact ⟨v, h1, h2.at, h3⟩
  have kKA00 : w1.cell? ⟨w.heap.size, 0, none⟩ = some (.slice o01 a0.attrs.length c01) := KA0.cell 0
  have kKA01 : w1.cell? ⟨w.heap.size, 1, none⟩ = some (.slice o02 a0.classes.length c02) := KA0.cell 1
  have kKA10 : w1.cell? ⟨w.heap.size + 1, 0, none⟩ = some (.int .i64 a1.attr) := KA1.cell 0
  have kKA11 : w1.cell? ⟨w.heap.size + 1, 1, none⟩ = some (.int .i64 a1.pos) := KA1.cell 1
  go_wp2_with fail
  clear kKA00 kKA01 kKA10 kKA11
  refine wp_region_held_drew (S := fun w' => Blk 25 w' (w.heap.size) #[.slice o01 a0.attrs.length c01, .slice o02 a0.classes.length c02] ∧ Blk 27 w' (w.heap.size + 1) #[.int .i64 a1.attr, .int .i64 a1.pos]) (by kernel_rfl) ⟨KA0, KA1⟩ ?_
  intro hS
  have bd : Below w1.heap.size w1 w1.drew := below_drewN (Below.refl _ _) 1
  replace B := B.trans (bd.mono B.size)
  clear bd KA0 KA1
  generalize w1.drew = w2 at hS B ⊢
  refine takeL 0 (.agg #[.slice o01 a0.attrs.length c01, .slice o02 a0.classes.length c02]) rfl (by kernel_rfl) (by kernel_rfl) (by kernel_rfl) (fun _ _ _ h => h) (yields_row Tryd.underlying25 (by kernel_rfl) (by rfl) _ rfl _ rfl (fun _ h => h.1)) hS ?_
  try simp only [Act.put, List.setIfInBounds_toArray, List.set_cons_zero, List.set_cons_succ]
  refine takeL 2 (.agg #[.int .i64 a1.attr, .int .i64 a1.pos]) rfl (by kernel_rfl) (by kernel_rfl) (by kernel_rfl) (fun _ _ _ h => h) (yields_row Tryd.underlying27 (by kernel_rfl) (by rfl) _ rfl _ rfl (fun _ h => h.2)) hS ?_
  try simp only [Act.put, List.setIfInBounds_toArray, List.set_cons_zero, List.set_cons_succ]
  refine nextL 1 rfl (by kernel_rfl) (by rfl) fun K hK => ?_
  have dd := HTL0.out w2 B
  go_simp
  refine dd.mono ?_
  clear dd
  rintro e w3 ⟨u1, rfl, hu1, hb⟩
  refine hK _ _ ⟨hS.1.below hb, hS.2.below hb⟩ ?_
  clear hK K hS
  intro hS
  replace B := B.trans (hb.mono B.size)
  clear hb
  refine nextL 3 rfl (by kernel_rfl) (by rfl) fun K hK => ?_
  have dd := toFork_any a1 w3
  go_simp
  refine dd.mono ?_
  clear dd
  rintro e w4 ⟨rfl, hb⟩
  refine hK _ _ ⟨hS.1.below hb, hS.2.below hb⟩ ?_
  clear hK K hS
  intro hS
  replace B := B.trans (hb.mono B.size)
  replace hu1 := hu1.later hb
  clear hb
  refine nextL 4 rfl (by kernel_rfl) (by rfl) fun K hK => ?_
  have dd := HSP.out w4 _ B hu1
  go_simp
  refine dd.mono ?_
  clear dd
  rintro e w5 ⟨rfl, hb⟩
  refine hK _ _ ⟨hS.1.below hb, hS.2.below hb⟩ ?_
  clear hK K hS
  intro hS
  replace B := B.trans (hb.mono B.size)
  replace hu1 := hu1.later hb
  clear hb
  refine takeL 5 (.string G) rfl (by kernel_rfl) (by kernel_rfl) (by kernel_rfl) (fun _ _ _ h => h) (.inl ⟨by rfl, fun w _ => by rfl⟩) hS ?_
  try simp only [Act.put, List.setIfInBounds_toArray, List.set_cons_zero, List.set_cons_succ]
  refine wpAnyH_done (by kernel_rfl) ?_ _
  obtain ⟨KA0, KA1⟩ := hS
  have cc := HTL0.out w5 B
  have kKA00 : w5.cell? ⟨w.heap.size, 0, none⟩ = some (.slice o01 a0.attrs.length c01) := KA0.cell 0
  have kKA01 : w5.cell? ⟨w.heap.size, 1, none⟩ = some (.slice o02 a0.classes.length c02) := KA0.cell 1
  have kKA10 : w5.cell? ⟨w.heap.size + 1, 0, none⟩ = some (.int .i64 a1.attr) := KA1.cell 0
  have kKA11 : w5.cell? ⟨w.heap.size + 1, 1, none⟩ = some (.int .i64 a1.pos) := KA1.cell 1
  go_wp2_with fail
  refine cc.mono ?_
  clear cc
  clear kKA00 kKA01 kKA10 kKA11
  rintro e w6 ⟨u2, rfl, hu2, hb⟩
  replace B := B.trans (hb.mono B.size)
  replace hu1 := hu1.later hb
  replace KA0 := KA0.below hb
  replace KA1 := KA1.below hb
  clear hb
  have HX0 : Hid (SchemaAt w6 u2 a0) := hu2
  clear hu2
  obtain ⟨y1, y2, rfl, rr1, rr2⟩ := id HX0.out
  obtain ⟨p01, d01, rfl, -, -⟩ := id rr1
  obtain ⟨p02, d02, rfl, -, -⟩ := id rr2
  clear rr1 rr2
  have hx0 := HX0.out
  clear HX0
  obtain ⟨KX0, BN⟩ := blk_1 32 w6 #[.slice p01 a0.attrs.length d01, .slice p02 a0.classes.length d02]
  replace B := B.trans (BN.mono B.size)
  replace hu1 := hu1.later BN
  replace hx0 := hx0.later BN
  replace KA0 := KA0.below BN
  replace KA1 := KA1.below BN
  clear BN
  have kKA00 : (w6.alloc (.cells #[.slice p01 a0.attrs.length d01, .slice p02 a0.classes.length d02] 32)).cell? ⟨w.heap.size, 0, none⟩ = some (.slice o01 a0.attrs.length c01) := KA0.cell 0
  have kKA01 : (w6.alloc (.cells #[.slice p01 a0.attrs.length d01, .slice p02 a0.classes.length d02] 32)).cell? ⟨w.heap.size, 1, none⟩ = some (.slice o02 a0.classes.length c02) := KA0.cell 1
  have kKA10 : (w6.alloc (.cells #[.slice p01 a0.attrs.length d01, .slice p02 a0.classes.length d02] 32)).cell? ⟨w.heap.size + 1, 0, none⟩ = some (.int .i64 a1.attr) := KA1.cell 0
  have kKA11 : (w6.alloc (.cells #[.slice p01 a0.attrs.length d01, .slice p02 a0.classes.length d02] 32)).cell? ⟨w.heap.size + 1, 1, none⟩ = some (.int .i64 a1.pos) := KA1.cell 1
  have kKX00 : (w6.alloc (.cells #[.slice p01 a0.attrs.length d01, .slice p02 a0.classes.length d02] 32)).cell? ⟨w6.heap.size, 0, none⟩ = some (.slice p01 a0.attrs.length d01) := KX0.cell 0
  have kKX01 : (w6.alloc (.cells #[.slice p01 a0.attrs.length d01, .slice p02 a0.classes.length d02] 32)).cell? ⟨w6.heap.size, 1, none⟩ = some (.slice p02 a0.classes.length d02) := KX0.cell 1
  go_wp2_with fail
  clear kKA00 kKA01 kKA10 kKA11 kKX00 kKX01
  refine wp_region_held_drew (S := fun w' => Blk 25 w' (w.heap.size) #[.slice o01 a0.attrs.length c01, .slice o02 a0.classes.length c02] ∧ Blk 27 w' (w.heap.size + 1) #[.int .i64 a1.attr, .int .i64 a1.pos] ∧ Blk 32 w' (w6.heap.size) #[.slice p01 a0.attrs.length d01, .slice p02 a0.classes.length d02]) (by kernel_rfl) ⟨KA0, KA1, KX0⟩ ?_
  intro hS
  have bd : Below (w6.alloc (.cells #[.slice p01 a0.attrs.length d01, .slice p02 a0.classes.length d02] 32)).heap.size (w6.alloc (.cells #[.slice p01 a0.attrs.length d01, .slice p02 a0.classes.length d02] 32)) (w6.alloc (.cells #[.slice p01 a0.attrs.length d01, .slice p02 a0.classes.length d02] 32)).drew := below_drewN (Below.refl _ _) 1
  replace B := B.trans (bd.mono B.size)
  replace hu1 := hu1.later bd
  replace hx0 := hx0.later bd
  clear bd KA0 KA1 KX0
  generalize (w6.alloc (.cells #[.slice p01 a0.attrs.length d01, .slice p02 a0.classes.length d02] 32)).drew = w7 at hS B hu1 hx0 ⊢
  refine takeL 0 (.agg #[.slice p01 a0.attrs.length d01, .slice p02 a0.classes.length d02]) rfl (by kernel_rfl) (by kernel_rfl) (by kernel_rfl) (fun _ _ _ h => h) (yields_row Tryd.underlying32 (by kernel_rfl) (by rfl) _ rfl _ rfl (fun _ h => h.2.2)) hS ?_
  try simp only [Act.put, List.setIfInBounds_toArray, List.set_cons_zero, List.set_cons_succ]
  refine takeL 1 (.agg #[.int .i64 a1.attr, .int .i64 a1.pos]) rfl (by kernel_rfl) (by kernel_rfl) (by kernel_rfl) (fun _ _ _ h => h) (yields_row Tryd.underlying27 (by kernel_rfl) (by rfl) _ rfl _ rfl (fun _ h => h.2.1)) hS ?_
  try simp only [Act.put, List.setIfInBounds_toArray, List.set_cons_zero, List.set_cons_succ]
  refine nextL 2 rfl (by kernel_rfl) (by rfl) fun K hK => ?_
  have dd := toFork_any a1 w7
  go_simp
  refine dd.mono ?_
  clear dd
  rintro e w8 ⟨rfl, hb⟩
  refine hK _ _ ⟨hS.1.below hb, hS.2.1.below hb, hS.2.2.below hb⟩ ?_
  clear hK K hS
  intro hS
  replace B := B.trans (hb.mono B.size)
  replace hu1 := hu1.later hb
  replace hx0 := hx0.later hb
  clear hb
  refine nextL 3 rfl (by kernel_rfl) (by rfl) fun K hK => ?_
  have dd := HI.out w8 _ B hx0
  go_simp
  refine dd.mono ?_
  clear dd
  rintro e w9 ⟨rfl, hb⟩
  refine hK _ _ ⟨hS.1.below hb, hS.2.1.below hb, hS.2.2.below hb⟩ ?_
  clear hK K hS
  intro hS
  replace B := B.trans (hb.mono B.size)
  replace hu1 := hu1.later hb
  replace hx0 := hx0.later hb
  clear hb
  refine takeL 4 (.string G) rfl (by kernel_rfl) (by kernel_rfl) (by kernel_rfl) (fun _ _ _ h => h) (.inl ⟨by rfl, fun w _ => by rfl⟩) hS ?_
  try simp only [Act.put, List.setIfInBounds_toArray, List.set_cons_zero, List.set_cons_succ]
  refine wpAnyH_done (by kernel_rfl) ?_ _
  obtain ⟨KA0, KA1, KX0⟩ := hS
  have kKA00 : w9.cell? ⟨w.heap.size, 0, none⟩ = some (.slice o01 a0.attrs.length c01) := KA0.cell 0
  have kKA01 : w9.cell? ⟨w.heap.size, 1, none⟩ = some (.slice o02 a0.classes.length c02) := KA0.cell 1
  have kKA10 : w9.cell? ⟨w.heap.size + 1, 0, none⟩ = some (.int .i64 a1.attr) := KA1.cell 0
  have kKA11 : w9.cell? ⟨w.heap.size + 1, 1, none⟩ = some (.int .i64 a1.pos) := KA1.cell 1
  have kKX00 : w9.cell? ⟨w6.heap.size, 0, none⟩ = some (.slice p01 a0.attrs.length d01) := KX0.cell 0
  have kKX01 : w9.cell? ⟨w6.heap.size, 1, none⟩ = some (.slice p02 a0.classes.length d02) := KX0.cell 1
  go_wp2_with fail
  clear kKA00 kKA01 kKA10 kKA11 kKX00 kKX01
  refine wp_region_held_drew (S := fun w' => Blk 25 w' (w.heap.size) #[.slice o01 a0.attrs.length c01, .slice o02 a0.classes.length c02] ∧ Blk 27 w' (w.heap.size + 1) #[.int .i64 a1.attr, .int .i64 a1.pos] ∧ Blk 32 w' (w6.heap.size) #[.slice p01 a0.attrs.length d01, .slice p02 a0.classes.length d02]) (by kernel_rfl) ⟨KA0, KA1, KX0⟩ ?_
  intro hS
  have bd : Below w9.heap.size w9 w9.drew := below_drewN (Below.refl _ _) 1
  replace B := B.trans (bd.mono B.size)
  replace hu1 := hu1.later bd
  replace hx0 := hx0.later bd
  clear bd KA0 KA1 KX0
  generalize w9.drew = w10 at hS B hu1 hx0 ⊢
  refine takeL 0 (.agg #[.slice p01 a0.attrs.length d01, .slice p02 a0.classes.length d02]) rfl (by kernel_rfl) (by kernel_rfl) (by kernel_rfl) (fun _ _ _ h => h) (yields_row Tryd.underlying32 (by kernel_rfl) (by rfl) _ rfl _ rfl (fun _ h => h.2.2)) hS ?_
  try simp only [Act.put, List.setIfInBounds_toArray, List.set_cons_zero, List.set_cons_succ]
  refine takeL 1 (.agg #[.slice o01 a0.attrs.length c01, .slice o02 a0.classes.length c02]) rfl (by kernel_rfl) (by kernel_rfl) (by kernel_rfl) (fun _ _ _ h => h) (yields_row Tryd.underlying25 (by kernel_rfl) (by rfl) _ rfl _ rfl (fun _ h => h.1)) hS ?_
  try simp only [Act.put, List.setIfInBounds_toArray, List.set_cons_zero, List.set_cons_succ]
  refine nextL 2 rfl (by kernel_rfl) (by rfl) fun K hK => ?_
  have dd := HTL0.out w10 B
  go_simp
  refine dd.mono ?_
  clear dd
  rintro e w11 ⟨u3, rfl, hu3, hb⟩
  refine hK _ _ ⟨hS.1.below hb, hS.2.1.below hb, hS.2.2.below hb⟩ ?_
  clear hK K hS
  intro hS
  replace B := B.trans (hb.mono B.size)
  replace hu1 := hu1.later hb
  replace hx0 := hx0.later hb
  clear hb
  refine nextL 3 rfl (by kernel_rfl) (by rfl) fun K hK => ?_
  have dd := eqSchema_row _ _ a0 w11 hx0 hu3 HF0.out.ok
  go_simp
  refine dd.mono ?_
  clear dd
  rintro e w12 ⟨rfl, hb⟩
  refine hK _ _ ⟨hS.1.below hb, hS.2.1.below hb, hS.2.2.below hb⟩ ?_
  clear hK K hS
  intro hS
  replace B := B.trans (hb.mono B.size)
  replace hu1 := hu1.later hb
  replace hx0 := hx0.later hb
  replace hu3 := hu3.later hb
  clear hb
  refine takeL 4 (.bool false) rfl (by kernel_rfl) (by kernel_rfl) (by kernel_rfl) (fun _ _ _ h => h) (.inl ⟨by rfl, fun w hw => by (unfold execOp; go_simp)⟩) hS ?_
  try simp only [Act.put, List.setIfInBounds_toArray, List.set_cons_zero, List.set_cons_succ]
  refine wpAnyH_done (by kernel_rfl) ?_ _
  obtain ⟨KA0, KA1, KX0⟩ := hS
  go_wp2
  go_ret
  exact ⟨rfl, B⟩

theorem door_met (os : Os) (args : Array Value) : laidMetH Tryd.prog Rows.fnExactForkTextRow.laid ((World.doorLaid Tryd.prog 24 os).forCall (fun _ _ => 0) ⟨#[], args, []⟩).memory :=
  laidMetH_of_parts3 (fuel := 8) (laidMet_of_run' 8 (by kernel_rfl) (by kernel_rfl)) (by kernel_rfl) (by kernel_rfl)

set_option maxRecDepth 100000 in
theorem lifted (os : Os) (started : os.Started) (H : Type) (enc : TypeId × Value → H) :
    ReturnsInHanded {} Tryd.checked os 3 .any (fun w args => (Rows.fnExactForkTextSpec.pre enc Tryd.prog Tryd.f3 [] false w args ∧ laidMetH Tryd.prog Rows.fnExactForkTextRow.laid w) ∧ sizedMet enc Tryd.prog Tryd.f3 (OpenSpec.ofChange Rows.fnExactForkTextSpec) false w args)
      (Rows.fnExactForkTextSpec.post enc Tryd.prog Tryd.f3 false true false false) := by
  refine returnsInHanded_of_change_and (C := Tryd.checked) (X := fun w _ => laidMetH Tryd.prog Rows.fnExactForkTextRow.laid w) (fun _ _ _ hh h => h.of_heap hh) own started (by kernel_rfl) Tryd.func3
    (ChangeSpec.witness_shaped (enc := enc) (C := Tryd.checked) (os := os) (X := fun w _ => laidMetH Tryd.prog Rows.fnExactForkTextRow.laid w) false (World.doorLaid Tryd.prog 24 os) #[.agg #[.slice none 0 0, .slice none 0 0], .agg #[.int .i64 0, .int .i64 0]] 8 rfl (World.shaped_of_RefB (by kernel_rfl) (by kernel_rfl)) (by kernel_rfl) (by kernel_rfl) (by kernel_rfl) (door_met os _)) ?_
  intro W base args ds gs before hval0 hW _ _ hL _
  have hval : ∀ (j : Nat) t v, Tryd.f3.params[j]? = some t → args[j]? = some v → Value.okWide Tryd.prog W .any base t v := hval0
  have hW' := hW
  obtain ⟨p, q, hA0, hV, rfl, hfz, hnd⟩ := hW
  have hA : DataW.TrodAll enc Tryd.prog W 0 (fun _ => true) true Tryd.f3.params.toList args.toList ds p := hA0
  rw [Tryd.params3] at hA hval
  obtain ⟨v0, vs0, d0, ds0, p0, q0, hargs, rfl, rfl, h0, r0⟩ := trodAll_cons hA
  obtain ⟨v1, vs1, d1, ds1, p1, q1, rfl, rfl, rfl, h1, r1⟩ := trodAll_cons r0
  obtain ⟨rfl, rfl, rfl⟩ := trodAll_nil r1
  obtain rfl : args = #[v0, v1] := by cases args; simp_all
  obtain ⟨rfl, rfl⟩ := trodVars_none hV
  have k0 := h0
  have lt0 : ∀ x ∈ p0, x.block < W.heap.size := by obtain ⟨m, hm⟩ := k0; exact DataW.trod_lt m _ _ _ hm
  obtain ⟨a0, R0, I0⟩ := open_schema (hval 0 25 v0 rfl rfl) h0
  have k1 := h1
  have lt1 : ∀ x ∈ p1, x.block < W.heap.size := by obtain ⟨m, hm⟩ := k1; exact DataW.trod_lt m _ _ _ hm
  obtain ⟨n1, m1, rfl, wn1, wm1⟩ := open_fork (hval 1 27 v1 rfl rfl) h1
  have ht := table hL
  clear hA0 hval0
  refine (walk v0 a0 ⟨n1, m1⟩ W R0 I0 (bounds_i64 wn1) (bounds_i64 wm1) ht).mono fun e W' ⟨he, bel⟩ => ?_
  subst he
  exact ⟨_, rfl, _, _, _, [], _, [], hW', trodAll_mk1 (shut_bool Tryd.underlying4 _), (trodAll_cons_mk (Below.trod laidOut (by kernel_rfl) (of_decide_eq_true (by kernel_rfl)) k0 bel lt0) (trodAll_cons_mk (Below.trod laidOut (by kernel_rfl) (of_decide_eq_true (by kernel_rfl)) k1 bel lt1) trodAll_mk0)), rfl, bel.frame _, fun h => by cases h⟩

theorem said : Rows.FnExactForkTextSaid :=
  OpenClaim.holds_of_wide 3 Tryd.f3 rfl rfl rfl rfl rfl rfl rfl ⟨rfl, rfl, rfl, rfl, rfl⟩ rfl rfl rfl rfl rfl (by kernel_rfl) Tryd.func3 (by kernel_rfl)
    (of_decide_eq_true (by kernel_rfl)) (by unfold Func.isWrapper; first | (rw [if_pos (by decide +kernel)]; kernel_rfl) | (rw [if_neg (by decide +kernel)]; exact ⟨rfl, rfl⟩))
    (fun os started H enc _ => lifted os started H enc)

theorem plain (f : FuncId) (fn : Func) (hf : Tryd.pinned.checked.prog.funcNamed "loop.example/g00477/laws.FnExactForkText" = some f) (hfn : Tryd.pinned.checked.prog.funcs[f]? = some fn) :
    true = Tryd.pinned.checked.prog.looks [] ∧ ∀ (j : Nat) t, fn.params[j]? = some t → Tryd.pinned.checked.prog.wantsStandIn t = false := by
  obtain rfl : f = 3 := Option.some.inj ((show Tryd.prog.funcNamed "loop.example/g00477/laws.FnExactForkText" = some 3 by kernel_rfl).symm.trans hf) |>.symm
  obtain rfl : fn = Tryd.f3 := (Option.some.inj (Tryd.func3.symm.trans hfn)).symm
  refine ⟨by kernel_rfl, fun j t ht => ?_⟩
  rw [Tryd.params3] at ht
  have hm : t ∈ [25, 27] := by simpa using Array.mem_of_getElem? ht
  have hall : ([25, 27].all fun u => !Tryd.prog.wantsStandIn u) = true := by kernel_rfl
  exact (show Tryd.prog.wantsStandIn t = false by simpa using List.all_eq_true.1 hall t hm)

theorem card : Rows.FnExactForkTextCardSaid :=
  Claim7.holds_tied_plain_at .later [] _ _ _ _ said (fun _ h => by cases h) (by kernel_rfl) (fun _ h => by cases h) fnExactForkText_row_tie rfl ⟨rfl, rfl⟩ (by kernel_rfl) rfl plain (by kernel_rfl)
end Go.Proofs.YtfflodcapcamcabDoor.fnExactForkText
namespace Go.Proofs.YtfflodcapcamcabDoor
theorem forkText_holds : Rows.FnExactForkTextCardSaid := fnExactForkText.card
#print axioms forkText_holds
end Go.Proofs.YtfflodcapcamcabDoor
