/- For every schema and every list of integers the exact law of AttrsOk returns true: the program and the specification say alike whether they are ascending places of attributes, and nothing is written into either. No condition. -/
import Derived.Test.YtfflodcapcamcaaRows
import Derived.WalkKit
import Derived.ProofKit
import Derived.OpenShut
import Derived.Test.YtfflodcapcamcaaAttrsOkPack6
import Derived.Test.YtfflodcapcamcaaAttrsOkPack7
import Derived.Test.YtfflodcapcamcaaAttrsOkPack13
import Derived.Test.YtfflodcapcamcaaAttrsOkPack12
namespace Go.Proofs.Ytfflodcapcamcaa.fnExactAttrsOk
open Go.ChangeShapes Go.WideShapes Go.ChangeAt Go.RowKit
set_option linter.unusedVariables false

theorem own : ownKnob Try.prog.godebug = none := by kernel_rfl
theorem laidOut : laidOutB Try.prog = true := by kernel_rfl


set_option maxRecDepth 100000 in
set_option maxHeartbeats 6400000 in
set_option linter.unusedSimpArgs false in
theorem walkIn (v0 : Value) (a0 : SchemaD) (oL1 : Option Addr) (len1 cap1 : Nat) (z1 a1 : List Int) (w : World) (ha0 : SchemaAt w v0 a0) (hi0 : inS a0) (ha1 : IsRow .i64 w oL1 len1 cap1 z1) (hlen1 : len1 ≤ 1048576) (hz1 : z1.take len1 = a1) (hl1 : a1.length = len1) :
    Calls Try.prog 7 #[v0, .slice oL1 len1 cap1] w fun e w' => e = .returned (.bool true) ∧ Below w.heap.size w w' := by
  have HHA0 : Hid (∀ W, Below w.heap.size w W → SchemaAt W v0 a0) := fun W h => ha0.later h
  obtain ⟨y1, y2, rfl, rr1, rr2⟩ := id ha0
  obtain ⟨o01, c01, rfl, -, -⟩ := id rr1
  obtain ⟨o02, c02, rfl, -, -⟩ := id rr2
  clear rr1 rr2
  have HC0 : Hid (∀ W (r : Int) (_ : 0 ≤ r) (_ : r ≤ 1048576) (_ : Below w.heap.size w W), Calls Try.prog 18 #[.agg #[.slice o01 a0.attrs.length c01, .slice o02 a0.classes.length c02], .int .i64 r] W fun e w' => ∃ r' : Int, e = .returned (.int .i64 r') ∧ ((0 ≤ r' ∧ r' ≤ r ∧ fitS a0) ∨ r' = -1) ∧ Below W.heap.size W w') := fun W r h0 h1 hW => szSchema_row _ a0 r W (ha0.later hW) hi0 h0 h1
  have HTL1 : Hid (∀ W, Below w.heap.size w W → Calls Try.prog 25 #[.slice oL1 len1 cap1] W fun e w' => ∃ v, e = .returned v ∧ RowI w' v a1 ∧ Below W.heap.size W w') := fun W hW => by have hh := toI_rows oL1 len1 cap1 z1 W (ha1.later hW) hlen1; rwa [hz1] at hh
  clear ha0 hi0 ha1
  obtain ⟨KA0, B⟩ := blk_1 47 w #[.slice o01 a0.attrs.length c01, .slice o02 a0.classes.length c02]
  go_enter Try.func7, Try.ntmps7
  have kKA00 : (w.alloc (.cells #[.slice o01 a0.attrs.length c01, .slice o02 a0.classes.length c02] 47)).cell? ⟨w.heap.size, 0, none⟩ = some (.slice o01 a0.attrs.length c01) := KA0.cell 0
  have kKA01 : (w.alloc (.cells #[.slice o01 a0.attrs.length c01, .slice o02 a0.classes.length c02] 47)).cell? ⟨w.heap.size, 1, none⟩ = some (.slice o02 a0.classes.length c02) := KA0.cell 1
  go_wp2_with fail
  refine (HC0.out _ 1048576 (by omega) (by omega) B).mono ?_
  clear HC0
  clear kKA00 kKA01
  rintro e w1 ⟨r0, rfl, hr, hb⟩
  replace B := B.trans (hb.mono B.size)
  replace KA0 := KA0.below hb
  clear hb
  rcases hr with ⟨r00, r01, hf⟩ | rfl
  rotate_left
  · go_wp2
    go_ret
    exact ⟨rfl, B⟩
  have HF0 : Hid (fitS a0) := hf
  clear hf
  have r0n : ¬ r0 < 0 := by omega
  have HI : Hid (∀ W v0 v1 (_ : Below w.heap.size w W) (_ : SchemaAt W v0 a0) (_ : RowI W v1 a1), Calls Try.prog 26 #[v0, v1] W fun e w' => e = .returned (.bool (placesOk a0 a1)) ∧ Below W.heap.size W w') := fun W v0 v1 hW h0 h1 => implAttrsOk_any v0 v1 a0 a1 W h0 HF0.out.ok h1 (by omega)
  have HSP : Hid (∀ W v0 v1 (_ : Below w.heap.size w W) (_ : SchemaAt W v0 a0) (_ : RowI W v1 a1), Calls Try.prog 24 #[v0, v1] W fun e w' => e = .returned (.bool (placesOk a0 a1)) ∧ Below W.heap.size W w') := fun W v0 v1 hW h0 h1 => specAttrsOk_any v0 v1 a0 a1 W h0 HF0.out.ok h1 (by omega)
  generalize placesOk a0 a1 = G at HI HSP
  have HTL0 : Hid (∀ W, Below w.heap.size w W → Calls Try.prog 19 #[.agg #[.slice o01 a0.attrs.length c01, .slice o02 a0.classes.length c02]] W fun e w' => ∃ v, e = .returned v ∧ SchemaAt w' v a0 ∧ Below W.heap.size W w') := fun W hW => (toSchema_row _ a0 W (HHA0.out W hW) HF0.out).mono fun e w' h => by obtain ⟨v, h1, h2, h3⟩ := h; exact ⟨v, h1, h2.at, h3⟩
  have cc := HTL0.out w1 B
  have kKA00 : w1.cell? ⟨w.heap.size, 0, none⟩ = some (.slice o01 a0.attrs.length c01) := KA0.cell 0
  have kKA01 : w1.cell? ⟨w.heap.size, 1, none⟩ = some (.slice o02 a0.classes.length c02) := KA0.cell 1
  go_wp2_with fail
  refine cc.mono ?_
  clear cc
  clear kKA00 kKA01
  rintro e w2 ⟨u1, rfl, hu1, hb⟩
  replace B := B.trans (hb.mono B.size)
  replace KA0 := KA0.below hb
  clear hb
  have cc := HTL1.out w2 B
  have kKA00 : w2.cell? ⟨w.heap.size, 0, none⟩ = some (.slice o01 a0.attrs.length c01) := KA0.cell 0
  have kKA01 : w2.cell? ⟨w.heap.size, 1, none⟩ = some (.slice o02 a0.classes.length c02) := KA0.cell 1
  go_wp2_with fail
  refine cc.mono ?_
  clear cc
  clear kKA00 kKA01
  rintro e w3 ⟨u2, rfl, hu2, hb⟩
  replace B := B.trans (hb.mono B.size)
  replace hu1 := hu1.later hb
  replace KA0 := KA0.below hb
  clear hb
  have cc := HSP.out w3 _ _ B hu1 hu2
  have kKA00 : w3.cell? ⟨w.heap.size, 0, none⟩ = some (.slice o01 a0.attrs.length c01) := KA0.cell 0
  have kKA01 : w3.cell? ⟨w.heap.size, 1, none⟩ = some (.slice o02 a0.classes.length c02) := KA0.cell 1
  go_wp2_with fail
  refine cc.mono ?_
  clear cc
  clear kKA00 kKA01
  rintro e w4 ⟨rfl, hb⟩
  replace B := B.trans (hb.mono B.size)
  replace hu1 := hu1.later hb
  replace hu2 := hu2.later hb
  replace KA0 := KA0.below hb
  clear hb
  have cc := HTL0.out w4 B
  have kKA00 : w4.cell? ⟨w.heap.size, 0, none⟩ = some (.slice o01 a0.attrs.length c01) := KA0.cell 0
  have kKA01 : w4.cell? ⟨w.heap.size, 1, none⟩ = some (.slice o02 a0.classes.length c02) := KA0.cell 1
  go_wp2_with fail
  refine cc.mono ?_
  clear cc
  clear kKA00 kKA01
  rintro e w5 ⟨u3, rfl, hu3, hb⟩
  replace B := B.trans (hb.mono B.size)
  replace hu1 := hu1.later hb
  replace hu2 := hu2.later hb
  replace KA0 := KA0.below hb
  clear hb
  have HX0 : Hid (SchemaAt w5 u3 a0) := hu3
  clear hu3
  obtain ⟨y1, y2, rfl, rr1, rr2⟩ := id HX0.out
  obtain ⟨p01, d01, rfl, -, -⟩ := id rr1
  obtain ⟨p02, d02, rfl, -, -⟩ := id rr2
  clear rr1 rr2
  have hx0 := HX0.out
  clear HX0
  obtain ⟨KX0, BN⟩ := blk_1 27 w5 #[.slice p01 a0.attrs.length d01, .slice p02 a0.classes.length d02]
  replace B := B.trans (BN.mono B.size)
  replace hu1 := hu1.later BN
  replace hu2 := hu2.later BN
  replace hx0 := hx0.later BN
  replace KA0 := KA0.below BN
  clear BN
  have cc := HTL1.out (w5.alloc (.cells #[.slice p01 a0.attrs.length d01, .slice p02 a0.classes.length d02] 27)) B
  have kKA00 : (w5.alloc (.cells #[.slice p01 a0.attrs.length d01, .slice p02 a0.classes.length d02] 27)).cell? ⟨w.heap.size, 0, none⟩ = some (.slice o01 a0.attrs.length c01) := KA0.cell 0
  have kKA01 : (w5.alloc (.cells #[.slice p01 a0.attrs.length d01, .slice p02 a0.classes.length d02] 27)).cell? ⟨w.heap.size, 1, none⟩ = some (.slice o02 a0.classes.length c02) := KA0.cell 1
  have kKX00 : (w5.alloc (.cells #[.slice p01 a0.attrs.length d01, .slice p02 a0.classes.length d02] 27)).cell? ⟨w5.heap.size, 0, none⟩ = some (.slice p01 a0.attrs.length d01) := KX0.cell 0
  have kKX01 : (w5.alloc (.cells #[.slice p01 a0.attrs.length d01, .slice p02 a0.classes.length d02] 27)).cell? ⟨w5.heap.size, 1, none⟩ = some (.slice p02 a0.classes.length d02) := KX0.cell 1
  go_wp2_with fail
  refine cc.mono ?_
  clear cc
  clear kKA00 kKA01 kKX00 kKX01
  rintro e w6 ⟨u4, rfl, hu4, hb⟩
  replace B := B.trans (hb.mono B.size)
  replace hu1 := hu1.later hb
  replace hu2 := hu2.later hb
  replace hx0 := hx0.later hb
  replace KA0 := KA0.below hb
  replace KX0 := KX0.below hb
  clear hb
  have cc := HI.out w6 _ _ B hx0 hu4
  have kKA00 : w6.cell? ⟨w.heap.size, 0, none⟩ = some (.slice o01 a0.attrs.length c01) := KA0.cell 0
  have kKA01 : w6.cell? ⟨w.heap.size, 1, none⟩ = some (.slice o02 a0.classes.length c02) := KA0.cell 1
  have kKX00 : w6.cell? ⟨w5.heap.size, 0, none⟩ = some (.slice p01 a0.attrs.length d01) := KX0.cell 0
  have kKX01 : w6.cell? ⟨w5.heap.size, 1, none⟩ = some (.slice p02 a0.classes.length d02) := KX0.cell 1
  go_wp2_with fail
  refine cc.mono ?_
  clear cc
  clear kKA00 kKA01 kKX00 kKX01
  rintro e w7 ⟨rfl, hb⟩
  replace B := B.trans (hb.mono B.size)
  replace hu1 := hu1.later hb
  replace hu2 := hu2.later hb
  replace hx0 := hx0.later hb
  replace hu4 := hu4.later hb
  replace KA0 := KA0.below hb
  replace KX0 := KX0.below hb
  clear hb
  have kKA00 : w7.cell? ⟨w.heap.size, 0, none⟩ = some (.slice o01 a0.attrs.length c01) := KA0.cell 0
  have kKA01 : w7.cell? ⟨w.heap.size, 1, none⟩ = some (.slice o02 a0.classes.length c02) := KA0.cell 1
  have kKX00 : w7.cell? ⟨w5.heap.size, 0, none⟩ = some (.slice p01 a0.attrs.length d01) := KX0.cell 0
  have kKX01 : w7.cell? ⟨w5.heap.size, 1, none⟩ = some (.slice p02 a0.classes.length d02) := KX0.cell 1
  go_wp2_with fail
  clear kKA00 kKA01 kKX00 kKX01
  refine wp_region_held_drew (S := fun w' => Blk 47 w' (w.heap.size) #[.slice o01 a0.attrs.length c01, .slice o02 a0.classes.length c02] ∧ Blk 27 w' (w5.heap.size) #[.slice p01 a0.attrs.length d01, .slice p02 a0.classes.length d02]) (by kernel_rfl) ⟨KA0, KX0⟩ ?_
  intro hS
  have bd : Below w7.heap.size w7 w7.drew := below_drewN (Below.refl _ _) 1
  replace B := B.trans (bd.mono B.size)
  replace hu1 := hu1.later bd
  replace hu2 := hu2.later bd
  replace hx0 := hx0.later bd
  replace hu4 := hu4.later bd
  clear bd KA0 KX0
  generalize w7.drew = w8 at hS B hu1 hu2 hx0 hu4 ⊢
  refine takeL 0 (.agg #[.slice p01 a0.attrs.length d01, .slice p02 a0.classes.length d02]) rfl (by kernel_rfl) (by kernel_rfl) (by kernel_rfl) (fun _ _ _ h => h) (yields_row Try.underlying27 (by kernel_rfl) (by rfl) _ rfl _ rfl (fun _ h => h.2)) hS ?_
  try simp only [Act.put, List.setIfInBounds_toArray, List.set_cons_zero, List.set_cons_succ]
  refine takeL 1 (.agg #[.slice o01 a0.attrs.length c01, .slice o02 a0.classes.length c02]) rfl (by kernel_rfl) (by kernel_rfl) (by kernel_rfl) (fun _ _ _ h => h) (yields_row Try.underlying47 (by kernel_rfl) (by rfl) _ rfl _ rfl (fun _ h => h.1)) hS ?_
  try simp only [Act.put, List.setIfInBounds_toArray, List.set_cons_zero, List.set_cons_succ]
  refine nextL 2 rfl (by kernel_rfl) (by rfl) fun K hK => ?_
  have dd := HTL0.out w8 B
  go_simp
  refine dd.mono ?_
  clear dd
  rintro e w9 ⟨u5, rfl, hu5, hb⟩
  refine hK _ _ ⟨hS.1.below hb, hS.2.below hb⟩ ?_
  clear hK K hS
  intro hS
  replace B := B.trans (hb.mono B.size)
  replace hu1 := hu1.later hb
  replace hu2 := hu2.later hb
  replace hx0 := hx0.later hb
  replace hu4 := hu4.later hb
  clear hb
  refine nextL 3 rfl (by kernel_rfl) (by rfl) fun K hK => ?_
  have dd := eqSchema_row _ _ a0 w9 hx0 hu5 HF0.out.ok
  go_simp
  refine dd.mono ?_
  clear dd
  rintro e w10 ⟨rfl, hb⟩
  refine hK _ _ ⟨hS.1.below hb, hS.2.below hb⟩ ?_
  clear hK K hS
  intro hS
  replace B := B.trans (hb.mono B.size)
  replace hu1 := hu1.later hb
  replace hu2 := hu2.later hb
  replace hx0 := hx0.later hb
  replace hu4 := hu4.later hb
  replace hu5 := hu5.later hb
  clear hb
  refine takeL 4 (.bool false) rfl (by kernel_rfl) (by kernel_rfl) (by kernel_rfl) (fun _ _ _ h => h) (.inl ⟨by rfl, fun w hw => by (unfold execOp; go_simp)⟩) hS ?_
  try simp only [Act.put, List.setIfInBounds_toArray, List.set_cons_zero, List.set_cons_succ]
  refine wpAnyH_done (by kernel_rfl) ?_ _
  obtain ⟨KA0, KX0⟩ := hS
  have cc := HTL1.out w10 B
  have kKA00 : w10.cell? ⟨w.heap.size, 0, none⟩ = some (.slice o01 a0.attrs.length c01) := KA0.cell 0
  have kKA01 : w10.cell? ⟨w.heap.size, 1, none⟩ = some (.slice o02 a0.classes.length c02) := KA0.cell 1
  have kKX00 : w10.cell? ⟨w5.heap.size, 0, none⟩ = some (.slice p01 a0.attrs.length d01) := KX0.cell 0
  have kKX01 : w10.cell? ⟨w5.heap.size, 1, none⟩ = some (.slice p02 a0.classes.length d02) := KX0.cell 1
  go_wp2_with fail
  refine cc.mono ?_
  clear cc
  clear kKA00 kKA01 kKX00 kKX01
  rintro e w11 ⟨u6, rfl, hu6, hb⟩
  replace B := B.trans (hb.mono B.size)
  replace hu1 := hu1.later hb
  replace hu2 := hu2.later hb
  replace hx0 := hx0.later hb
  replace hu4 := hu4.later hb
  replace hu5 := hu5.later hb
  replace KA0 := KA0.below hb
  replace KX0 := KX0.below hb
  clear hb
  have cc := eqI_rows (by omega) hu4 hu6
  have kKA00 : w11.cell? ⟨w.heap.size, 0, none⟩ = some (.slice o01 a0.attrs.length c01) := KA0.cell 0
  have kKA01 : w11.cell? ⟨w.heap.size, 1, none⟩ = some (.slice o02 a0.classes.length c02) := KA0.cell 1
  have kKX00 : w11.cell? ⟨w5.heap.size, 0, none⟩ = some (.slice p01 a0.attrs.length d01) := KX0.cell 0
  have kKX01 : w11.cell? ⟨w5.heap.size, 1, none⟩ = some (.slice p02 a0.classes.length d02) := KX0.cell 1
  go_wp2_with fail
  refine cc.mono ?_
  clear cc
  clear kKA00 kKA01 kKX00 kKX01
  rintro e w12 ⟨rfl, hb⟩
  replace B := B.trans (hb.mono B.size)
  replace hu1 := hu1.later hb
  replace hu2 := hu2.later hb
  replace hx0 := hx0.later hb
  replace hu4 := hu4.later hb
  replace hu5 := hu5.later hb
  replace hu6 := hu6.later hb
  replace KA0 := KA0.below hb
  replace KX0 := KX0.below hb
  clear hb
  go_wp2
  go_ret
  exact ⟨rfl, B⟩
theorem walk (v0 : Value) (a0 : SchemaD) (oL1 : Option Addr) (len1 cap1 : Nat) (z1 : List Int) (w : World) (ha0 : SchemaAt w v0 a0) (hi0 : inS a0) (ha1 : IsRow .i64 w oL1 len1 cap1 z1) :
    Calls Try.prog 7 #[v0, .slice oL1 len1 cap1] w fun e w' => e = .returned (.bool true) ∧ Below w.heap.size w w' := by
  by_cases hlen : len1 ≤ 1048576
  · exact walkIn v0 a0 oL1 len1 cap1 z1 (z1.take len1) w ha0 hi0 ha1 hlen rfl ha1.len
  · have hle := ha1.le
    obtain ⟨y1, y2, rfl, -, -⟩ := ha0
    have B : Below w.heap.size w (w.alloc (.cells #[y1, y2] 47)) := (Below.refl _ _).alloc (Nat.le_refl _) _
    go_enter Try.func7, Try.ntmps7
    go_wp2
    go_ret
    exact ⟨rfl, B⟩

/-! ### THE ROW's STEP -/
set_option maxRecDepth 100000 in
theorem lifted (os : Os) (started : os.Started) (H : Type) (enc : TypeId × Value → H) :
    ReturnsInHanded {} Try.checked os 7 .any (Rows.fnExactAttrsOkSpec.pre6 enc Try.prog Try.f7 Rows.fnExactAttrsOkRow.domain false) (Rows.fnExactAttrsOkSpec.post enc Try.prog Try.f7 false true false false) := by
  refine returnsInHanded_of_change (C := Try.checked) own started (by kernel_rfl) Try.func7
    (ChangeSpec.witness6 (enc := enc) (C := Try.checked) false ⟨#[], #[.agg #[.slice none 0 0, .slice none 0 0], .slice none 0 0], []⟩ 8 (by kernel_rfl) (by kernel_rfl) (by kernel_rfl) (by kernel_rfl)) ?_
  intro W base args ds gs before hval0 hW hcnd _
  have hval : ∀ (j : Nat) t v, Try.f7.params[j]? = some t → args[j]? = some v → Value.okWide Try.prog W .any base t v := hval0
  have hW' := hW
  obtain ⟨p, q, hA0, hV, rfl, hfz, hnd⟩ := hW
  have hA : DataW.TrodAll enc Try.prog W 0 (fun _ => true) true Try.f7.params.toList args.toList ds p := hA0
  rw [Try.params7] at hA hval
  obtain ⟨v0, vs0, d0, ds0, p0, q0, hargs, rfl, rfl, h0, r0⟩ := trodAll_cons hA
  obtain ⟨v1, vs1, d1, ds1, p1, q1, rfl, rfl, rfl, h1, r1⟩ := trodAll_cons r0
  obtain ⟨rfl, rfl, rfl⟩ := trodAll_nil r1
  obtain rfl : args = #[v0, v1] := by cases args; simp_all
  obtain ⟨rfl, rfl⟩ := trodVars_none hV
  have k0 := h0
  have lt0 : ∀ x ∈ p0, x.block < W.heap.size := by obtain ⟨m, hm⟩ := k0; exact DataW.trod_lt m _ _ _ hm
  obtain ⟨a0, R0, I0⟩ := open_schema (hval 0 47 v0 rfl rfl) h0
  obtain ⟨a1, len1, cap1, rfl⟩ := okWide_slice Try.underlying28 (hval 1 28 v1 rfl rfl)
  have k1 := h1
  have lt1 : ∀ x ∈ p1, x.block < W.heap.size := by obtain ⟨m, hm⟩ := k1; exact DataW.trod_lt m _ _ _ hm
  obtain ⟨z1, w1⟩ : ∃ zs, IsRow .i64 W a1 len1 cap1 zs := by
    obtain ⟨fuel, hf⟩ := h1
    rcases open_ints Try.underlying28 Try.underlying3 (by kernel_rfl) hf with ⟨hcs, _⟩ | ⟨x, l, c, zs, hcs, _, hl, hm, hz, _, hcell, hwz⟩
    · simp [Value.cells] at hcs
      obtain ⟨rfl, rfl, rfl⟩ := hcs
      exact ⟨[], .inl ⟨rfl, rfl, rfl, rfl⟩⟩
    · simp [Value.cells] at hcs
      obtain ⟨rfl, rfl, rfl⟩ := hcs
      exact ⟨zs, .inr ⟨_, rfl, hl, hm, by simpa using hz, hcell, hwz⟩⟩
  clear hA0 hval0
  refine (walk v0 a0 a1 len1 cap1 z1 W R0 I0 w1).mono fun e W' ⟨he, bel⟩ => ?_
  subst he
  exact ⟨_, rfl, _, _, _, [], _, [], hW', trodAll_mk1 (shut_bool Try.underlying4 _), (trodAll_cons_mk (Below.trod laidOut (by kernel_rfl) (of_decide_eq_true (by kernel_rfl)) k0 bel lt0) (trodAll_cons_mk (Below.trod laidOut (by kernel_rfl) (of_decide_eq_true (by kernel_rfl)) k1 bel lt1) trodAll_mk0)), rfl, bel.frame _, fun h => by cases h⟩

theorem over : Rows.fnExactAttrsOkRow.holds Try.pinned (OpenSpec.ofChange Rows.fnExactAttrsOkSpec) :=
  OpenClaim.holds_of_wide 7 Try.f7 rfl rfl rfl rfl rfl rfl rfl ⟨rfl, rfl, rfl, rfl, rfl⟩ rfl rfl rfl rfl rfl (by kernel_rfl) Try.func7 (by kernel_rfl)
    (of_decide_eq_true (by kernel_rfl)) (by unfold Func.isWrapper; first | (rw [if_pos (by decide +kernel)]; kernel_rfl) | (rw [if_neg (by decide +kernel)]; exact ⟨rfl, rfl⟩))
    (fun os started H enc _ => lifted os started H enc)

theorem proved : Rows.FnExactAttrsOkSaid :=
  over
end Go.Proofs.Ytfflodcapcamcaa.fnExactAttrsOk
namespace Go.Proofs.Ytfflodcapcamcaa
theorem attrsOk_holds : Rows.FnExactAttrsOkSaid := fnExactAttrsOk.proved
#print axioms attrsOk_holds
end Go.Proofs.Ytfflodcapcamcaa
