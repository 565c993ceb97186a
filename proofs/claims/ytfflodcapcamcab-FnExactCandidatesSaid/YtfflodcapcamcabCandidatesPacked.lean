/- For every schema, every list of integers and either answer to whether two branches are wanted, the exact law of Candidates returns true: the program answers the questions that the specification answers, nothing is written into the arguments, the answer is new memory and a second call gives it anew. No condition. -/
import Derived.Test.YtfflodcapcamcabRows
import Derived.WalkKit
import Derived.ProofKit
import Derived.OpenShut
import Derived.Test.YtfflodcapcamcabCandidatesPack6
import Derived.Test.YtfflodcapcamcabCandidatesPack7
import Derived.Test.YtfflodcapcamcabCandidatesPack9
import Derived.Test.YtfflodcapcamcabCandidatesPack10
import Derived.Test.YtfflodcapcamcabCandidatesPack15
import Derived.Test.YtfflodcapcamcabCandidatesPack16
import Derived.Test.YtfflodcapcamcabCandidatesPack17
namespace Go.Proofs.Ytfflodcapcamcab.fnExactCandidates
open Go.ChangeShapes Go.WideShapes Go.ChangeAt Go.RowKit
set_option linter.unusedVariables false

theorem own : ownKnob Try.prog.godebug = none := by kernel_rfl
theorem laidOut : laidOutB Try.prog = true := by kernel_rfl

theorem in_sp {base n c : Nat} {w : World} {va vc : Value} {L : Nat → Value × Value} {ys zs : List Value} {ls : List AttrD} (h : SepL base w va L ys ls n) (hc : w.ownsRow base 9 1 vc c zs) : ∀ k, InS va vc L n k → base ≤ k ∧ k < w.heap.size := by
  intro k hk
  rcases hk with (hk | ⟨j, hj, hk | hk⟩) | hk
  · exact h.row.lt k hk
  · exact (h.ints j hj).lt k hk
  · exact (h.strs j hj).lt k hk
  · exact hc.lt k hk
theorem mkK_bound {k0 M : Nat} {p q : Nat → Nat} : ∀ n, (∀ j, j < n → p j ≤ M ∧ q j ≤ M) → mkK k0 p q n ≤ k0 + n * (1 + 2 * M)
  | 0, _ => by simp [mkK]
  | n + 1, h => by
    have h1 := mkK_bound (k0 := k0) (M := M) (p := p) (q := q) n fun j hj => h j (by omega)
    have h2 := h n (by omega)
    simp only [mkK]
    rw [Nat.add_mul]
    omega
theorem fit_mark {a : SchemaD} (h : fitS a) : mkK 1 (pOf a.attrs) (qOf a.attrs) a.attrs.length ≤ 17592186044416 := by
  have h1 := mkK_bound (k0 := 1) (M := 1048576) (p := pOf a.attrs) (q := qOf a.attrs) a.attrs.length fun j hj => ⟨(h.each _ (ad_mem hj)).cuts, (h.each _ (ad_mem hj)).vals⟩
  have h2 := Nat.mul_le_mul_right (1 + 2 * 1048576) h.attrs
  omega

set_option maxRecDepth 100000 in
set_option maxHeartbeats 6400000 in
set_option linter.unusedSimpArgs false in
theorem walkIn (v0 : Value) (a0 : SchemaD) (oL1 : Option Addr) (len1 cap1 : Nat) (z1 a1 : List Int) (a2 : Bool) (w : World) (ha0 : SchemaAt w v0 a0) (hi0 : inS a0) (ha1 : IsRow .i64 w oL1 len1 cap1 z1) (hlen1 : len1 ≤ 1048576) (hz1 : z1.take len1 = a1) (hl1 : a1.length = len1) :
    Calls Try.prog 3 #[v0, .slice oL1 len1 cap1, .bool a2] w fun e w' => e = .returned (.bool true) ∧ Below w.heap.size w w' := by
  have HTOW1 : Hid (∀ W, Below w.heap.size w W → Calls Try.prog 8 #[.slice oL1 len1 cap1] W fun e w' => ∃ v, e = .returned v ∧ w'.ownsRow W.heap.size 3 1 v a1.length (a1.map (Value.int .i64)) ∧ Below W.heap.size W w') := fun W hW => by have hh := toI_own9 oL1 len1 cap1 z1 W (ha1.later hW) hlen1; rwa [hz1] at hh
  have HHA0 : Hid (∀ W, Below w.heap.size w W → SchemaAt W v0 a0) := fun W h => ha0.later h
  obtain ⟨y1, y2, rfl, rr1, rr2⟩ := id ha0
  obtain ⟨o01, c01, rfl, -, -⟩ := id rr1
  obtain ⟨o02, c02, rfl, -, -⟩ := id rr2
  clear rr1 rr2
  have HC0 : Hid (∀ W (r : Int) (_ : 0 ≤ r) (_ : r ≤ 1048576) (_ : Below w.heap.size w W), Calls Try.prog 5 #[.agg #[.slice o01 a0.attrs.length c01, .slice o02 a0.classes.length c02], .int .i64 r] W fun e w' => ∃ r' : Int, e = .returned (.int .i64 r') ∧ ((0 ≤ r' ∧ r' ≤ r ∧ fitS a0) ∨ r' = -1) ∧ Below W.heap.size W w') := fun W r h0 h1 hW => szSchema_row _ a0 r W (ha0.later hW) hi0 h0 h1
  have HTL1 : Hid (∀ W, Below w.heap.size w W → Calls Try.prog 8 #[.slice oL1 len1 cap1] W fun e w' => ∃ v, e = .returned v ∧ RowI w' v a1 ∧ Below W.heap.size W w') := fun W hW => by have hh := toI_rows oL1 len1 cap1 z1 W (ha1.later hW) hlen1; rwa [hz1] at hh
  clear ha0 hi0 ha1
  obtain ⟨KA0, B⟩ := blk_1 25 w #[.slice o01 a0.attrs.length c01, .slice o02 a0.classes.length c02]
  go_enter Try.func3, Try.ntmps3
  have zA : w.heap.size + 1 ≤ (w.alloc (.cells #[.slice o01 a0.attrs.length c01, .slice o02 a0.classes.length c02] 25)).heap.size := by simp
  have kKA00 : (w.alloc (.cells #[.slice o01 a0.attrs.length c01, .slice o02 a0.classes.length c02] 25)).cell? ⟨w.heap.size, 0, none⟩ = some (.slice o01 a0.attrs.length c01) := KA0.cell 0
  have kKA01 : (w.alloc (.cells #[.slice o01 a0.attrs.length c01, .slice o02 a0.classes.length c02] 25)).cell? ⟨w.heap.size, 1, none⟩ = some (.slice o02 a0.classes.length c02) := KA0.cell 1
  go_wp2_with fail
  refine (HC0.out _ 1048576 (by omega) (by omega) B).mono ?_
  clear HC0
  clear kKA00 kKA01
  rintro e w1 ⟨r0, rfl, hr, hb⟩
  replace B := B.trans (hb.mono B.size)
  replace zA := Nat.le_trans zA hb.size
  replace KA0 := KA0.below hb
  clear hb
  rcases hr with ⟨r00, r01, hf⟩ | rfl
  rotate_left
  · go_wp2
    go_ret
    exact ⟨rfl, B⟩
  have HF0 : Hid (fitS a0) := hf
  clear hf
  have r0n : ¬ r0 < 0 := by omega
  have HI : Hid (∀ W v0 v1 (_ : Below w.heap.size w W) (_ : SchemaAt W v0 a0) (_ : RowI W v1 a1), Calls Try.prog 9 #[v0, v1, .bool a2] W fun e w' => ∃ v, e = .returned v ∧ w'.ownsRow W.heap.size 51 2 v (candidates a0 a1 a2).length (fkC (candidates a0 a1 a2)) ∧ Below W.heap.size W w') := fun W v0 v1 hW h0 h1 => (implCandidates_any v0 v1 a0 a1 a2 W h0 HF0.out.ok h1 (by omega)).mono fun e w' h => by obtain ⟨v, h1, h2⟩ := h; exact ⟨v, h1, h2.1, h2.2⟩
  have HSP : Hid (∀ W v0 v1 (_ : Below w.heap.size w W) (_ : SchemaAt W v0 a0) (_ : RowI W v1 a1), Calls Try.prog 6 #[v0, v1, .bool a2] W fun e w' => ∃ v, e = .returned v ∧ w'.ownsRow W.heap.size 51 2 v (candidates a0 a1 a2).length (fkC (candidates a0 a1 a2)) ∧ Below W.heap.size W w') := fun W v0 v1 hW h0 h1 => (specCandidates_any v0 v1 a0 a1 a2 W h0 HF0.out.ok h1 (by omega)).mono fun e w' h => by obtain ⟨v, h1, h2⟩ := h; exact ⟨v, h1, h2.1, h2.2⟩
  have hfG : (candidates a0 a1 a2).length ≤ 1099511627776 := candidates_len a2
  generalize candidates a0 a1 a2 = G at HI HSP hfG
  have HTL0 : Hid (∀ W, Below w.heap.size w W → Calls Try.prog 7 #[.agg #[.slice o01 a0.attrs.length c01, .slice o02 a0.classes.length c02]] W fun e w' => ∃ v, e = .returned v ∧ SchemaAt w' v a0 ∧ Below W.heap.size W w') := fun W hW => (toSchema_row _ a0 W (HHA0.out W hW) HF0.out).mono fun e w' h => by obtain ⟨v, h1, h2, h3⟩ := h; exact ⟨v, h1, h2.at, h3⟩
  have HTO0 : Hid (∀ W, Below w.heap.size w W → Calls Try.prog 7 #[.agg #[.slice o01 a0.attrs.length c01, .slice o02 a0.classes.length c02]] W fun e w' => ∃ v, e = .returned v ∧ OwnSp W.heap.size w' v a0 ∧ Below W.heap.size W w') := fun W hW => toSchema_sep _ a0 W (HHA0.out W hW) HF0.out
  have HTO1 : Hid (∀ W, Below w.heap.size w W → Calls Try.prog 8 #[.slice oL1 len1 cap1] W fun e w' => ∃ v, e = .returned v ∧ w'.ownsRow W.heap.size 3 1 v a1.length (a1.map (Value.int .i64)) ∧ Below W.heap.size W w') := HTOW1
  have HGL : Hid (G.length ≤ 1099511627776) := hfG
  clear hfG
  have cc := HTL0.out w1 B
  have kKA00 : w1.cell? ⟨w.heap.size, 0, none⟩ = some (.slice o01 a0.attrs.length c01) := KA0.cell 0
  have kKA01 : w1.cell? ⟨w.heap.size, 1, none⟩ = some (.slice o02 a0.classes.length c02) := KA0.cell 1
  go_wp2_with fail
  refine cc.mono ?_
  clear cc
  clear kKA00 kKA01
  rintro e w2 ⟨u1, rfl, hu1, hb⟩
  replace B := B.trans (hb.mono B.size)
  replace zA := Nat.le_trans zA hb.size
  replace KA0 := KA0.below hb
  clear hb
  have cc := HTL1.out w2 B
  have kKA00 : w2.cell? ⟨w.heap.size, 0, none⟩ = some (.slice o01 a0.attrs.length c01) := KA0.cell 0
  have kKA01 : w2.cell? ⟨w.heap.size, 1, none⟩ = some (.slice o02 a0.classes.length c02) := KA0.cell 1
  go_wp2_with fail
  refine cc.mono ?_
  clear cc
  clear kKA00 kKA01
  rintro e w3 ⟨u2, rfl, hu2, hb⟩
  replace B := B.trans (hb.mono B.size)
  replace zA := Nat.le_trans zA hb.size
  replace hu1 := hu1.later hb
  replace KA0 := KA0.below hb
  clear hb
  have cc := HSP.out w3 _ _ B hu1 hu2
  have kKA00 : w3.cell? ⟨w.heap.size, 0, none⟩ = some (.slice o01 a0.attrs.length c01) := KA0.cell 0
  have kKA01 : w3.cell? ⟨w.heap.size, 1, none⟩ = some (.slice o02 a0.classes.length c02) := KA0.cell 1
  go_wp2_with fail
  refine cc.mono ?_
  clear cc
  clear kKA00 kKA01
  rintro e w4 ⟨vW, rfl, oW, hb⟩
  have HO_A_W : Hid (w.heap.size + 1 ≤ w3.heap.size) := zA
  have HLW : Hid (∀ k, vW.ownBlock = some k → w3.heap.size ≤ k ∧ k < w4.heap.size) := oW.lt
  replace B := B.trans (hb.mono B.size)
  replace zA := Nat.le_trans zA hb.size
  replace hu1 := hu1.later hb
  replace hu2 := hu2.later hb
  replace KA0 := KA0.below hb
  clear hb
  have zW : w4.heap.size ≤ w4.heap.size := Nat.le_refl _
  have kKA00 : w4.cell? ⟨w.heap.size, 0, none⟩ = some (.slice o01 a0.attrs.length c01) := KA0.cell 0
  have kKA01 : w4.cell? ⟨w.heap.size, 1, none⟩ = some (.slice o02 a0.classes.length c02) := KA0.cell 1
  have cc := HTO0.out _ B
  go_wp2_with fail
  refine cc.mono ?_
  clear cc
  clear kKA00 kKA01
  rintro e w5 ⟨uX0, rfl, ho, hb⟩
  have HO_A_X0 : Hid (w.heap.size + 1 ≤ w4.heap.size) := zA
  have HO_W_X0 : Hid (w4.heap.size ≤ w4.heap.size) := zW
  have hx0 := ho.own.at
  obtain ⟨y1, y2, LL0, ys0, rfl, sp0, cl0, hod⟩ := ho
  obtain ⟨p01, d01, hp1⟩ := own_form sp0.row
  obtain ⟨p02, d02, hp2⟩ := own_form cl0
  subst hp1 hp2
  have HOD0 : Hid (∀ j c b, j < a0.attrs.length → (Value.slice p02 a0.classes.length d02).ownBlock = some c → (LL0 j).2.ownBlock = some b → c ≠ b) := hod
  clear hod
  have HLX0 : Hid (∀ k, InS (.slice p01 a0.attrs.length d01) (.slice p02 a0.classes.length d02) LL0 a0.attrs.length k → w4.heap.size ≤ k ∧ k < w5.heap.size) := in_sp sp0 cl0
  replace B := B.trans (hb.mono B.size)
  replace zA := Nat.le_trans zA hb.size
  replace hu1 := hu1.later hb
  replace hu2 := hu2.later hb
  replace oW := own_below oW hb
  replace zW := Nat.le_trans zW hb.size
  replace KA0 := KA0.below hb
  clear hb
  have zX0 : w5.heap.size ≤ w5.heap.size := Nat.le_refl _
  obtain ⟨KX0, BN⟩ := blk_1 32 w5 #[.slice p01 a0.attrs.length d01, .slice p02 a0.classes.length d02]
  have HO_A_KX0 : Hid (w.heap.size + 1 ≤ w5.heap.size) := zA
  have HO_W_KX0 : Hid (w4.heap.size ≤ w5.heap.size) := zW
  have HO_X0_KX0 : Hid (w5.heap.size ≤ w5.heap.size) := zX0
  replace B := B.trans (BN.mono B.size)
  replace zA := Nat.le_trans zA BN.size
  replace hu1 := hu1.later BN
  replace hu2 := hu2.later BN
  replace oW := own_below oW BN
  replace zW := Nat.le_trans zW BN.size
  replace sp0 := sp0.below BN
  replace cl0 := own_below cl0 BN
  replace hx0 := hx0.later BN
  replace zX0 := Nat.le_trans zX0 BN.size
  replace KA0 := KA0.below BN
  clear BN
  have zKX0 : w5.heap.size + 1 ≤ (w5.alloc (.cells #[.slice p01 a0.attrs.length d01, .slice p02 a0.classes.length d02] 32)).heap.size := by simp
  have kKA00 : (w5.alloc (.cells #[.slice p01 a0.attrs.length d01, .slice p02 a0.classes.length d02] 32)).cell? ⟨w.heap.size, 0, none⟩ = some (.slice o01 a0.attrs.length c01) := KA0.cell 0
  have kKA01 : (w5.alloc (.cells #[.slice p01 a0.attrs.length d01, .slice p02 a0.classes.length d02] 32)).cell? ⟨w.heap.size, 1, none⟩ = some (.slice o02 a0.classes.length c02) := KA0.cell 1
  have kKX00 : (w5.alloc (.cells #[.slice p01 a0.attrs.length d01, .slice p02 a0.classes.length d02] 32)).cell? ⟨w5.heap.size, 0, none⟩ = some (.slice p01 a0.attrs.length d01) := KX0.cell 0
  have kKX01 : (w5.alloc (.cells #[.slice p01 a0.attrs.length d01, .slice p02 a0.classes.length d02] 32)).cell? ⟨w5.heap.size, 1, none⟩ = some (.slice p02 a0.classes.length d02) := KX0.cell 1
  have cc := HTO1.out _ B
  go_wp2_with fail
  refine cc.mono ?_
  clear cc
  clear kKA00 kKA01 kKX00 kKX01
  rintro e w6 ⟨uX1, rfl, ho, hb⟩
  have HO_A_X1 : Hid (w.heap.size + 1 ≤ (w5.alloc (.cells #[.slice p01 a0.attrs.length d01, .slice p02 a0.classes.length d02] 32)).heap.size) := zA
  have HO_W_X1 : Hid (w4.heap.size ≤ (w5.alloc (.cells #[.slice p01 a0.attrs.length d01, .slice p02 a0.classes.length d02] 32)).heap.size) := zW
  have HO_X0_X1 : Hid (w5.heap.size ≤ (w5.alloc (.cells #[.slice p01 a0.attrs.length d01, .slice p02 a0.classes.length d02] 32)).heap.size) := zX0
  have HO_KX0_X1 : Hid (w5.heap.size + 1 ≤ (w5.alloc (.cells #[.slice p01 a0.attrs.length d01, .slice p02 a0.classes.length d02] 32)).heap.size) := zKX0
  have hx1 := RowI.of_own ho rfl
  have oX1 := ho
  clear ho
  have HLX1 : Hid (∀ k, uX1.ownBlock = some k → (w5.alloc (.cells #[.slice p01 a0.attrs.length d01, .slice p02 a0.classes.length d02] 32)).heap.size ≤ k ∧ k < w6.heap.size) := oX1.lt
  replace B := B.trans (hb.mono B.size)
  replace zA := Nat.le_trans zA hb.size
  replace hu1 := hu1.later hb
  replace hu2 := hu2.later hb
  replace oW := own_below oW hb
  replace zW := Nat.le_trans zW hb.size
  replace sp0 := sp0.below hb
  replace cl0 := own_below cl0 hb
  replace hx0 := hx0.later hb
  replace zX0 := Nat.le_trans zX0 hb.size
  replace zKX0 := Nat.le_trans zKX0 hb.size
  replace KA0 := KA0.below hb
  replace KX0 := KX0.below hb
  clear hb
  have zX1 : w6.heap.size ≤ w6.heap.size := Nat.le_refl _
  have cc := HI.out w6 _ _ B hx0 hx1
  have kKA00 : w6.cell? ⟨w.heap.size, 0, none⟩ = some (.slice o01 a0.attrs.length c01) := KA0.cell 0
  have kKA01 : w6.cell? ⟨w.heap.size, 1, none⟩ = some (.slice o02 a0.classes.length c02) := KA0.cell 1
  have kKX00 : w6.cell? ⟨w5.heap.size, 0, none⟩ = some (.slice p01 a0.attrs.length d01) := KX0.cell 0
  have kKX01 : w6.cell? ⟨w5.heap.size, 1, none⟩ = some (.slice p02 a0.classes.length d02) := KX0.cell 1
  go_wp2_with fail
  refine cc.mono ?_
  clear cc
  clear kKA00 kKA01 kKX00 kKX01
  rintro e w7 ⟨vG, rfl, oG, hb⟩
  have HO_A_G : Hid (w.heap.size + 1 ≤ w6.heap.size) := zA
  have HO_W_G : Hid (w4.heap.size ≤ w6.heap.size) := zW
  have HO_X0_G : Hid (w5.heap.size ≤ w6.heap.size) := zX0
  have HO_KX0_G : Hid (w5.heap.size + 1 ≤ w6.heap.size) := zKX0
  have HO_X1_G : Hid (w6.heap.size ≤ w6.heap.size) := zX1
  have HLG : Hid (∀ k, vG.ownBlock = some k → w6.heap.size ≤ k ∧ k < w7.heap.size) := oG.lt
  replace B := B.trans (hb.mono B.size)
  replace zA := Nat.le_trans zA hb.size
  replace hu1 := hu1.later hb
  replace hu2 := hu2.later hb
  replace oW := own_below oW hb
  replace zW := Nat.le_trans zW hb.size
  replace sp0 := sp0.below hb
  replace cl0 := own_below cl0 hb
  replace hx0 := hx0.later hb
  replace zX0 := Nat.le_trans zX0 hb.size
  replace zKX0 := Nat.le_trans zKX0 hb.size
  replace oX1 := own_below oX1 hb
  replace hx1 := hx1.later hb
  replace zX1 := Nat.le_trans zX1 hb.size
  replace KA0 := KA0.below hb
  replace KX0 := KX0.below hb
  clear hb
  have zG : w7.heap.size ≤ w7.heap.size := Nat.le_refl _
  have cc := eqF_any HGL.out oG oW
  have kKA00 : w7.cell? ⟨w.heap.size, 0, none⟩ = some (.slice o01 a0.attrs.length c01) := KA0.cell 0
  have kKA01 : w7.cell? ⟨w.heap.size, 1, none⟩ = some (.slice o02 a0.classes.length c02) := KA0.cell 1
  have kKX00 : w7.cell? ⟨w5.heap.size, 0, none⟩ = some (.slice p01 a0.attrs.length d01) := KX0.cell 0
  have kKX01 : w7.cell? ⟨w5.heap.size, 1, none⟩ = some (.slice p02 a0.classes.length d02) := KX0.cell 1
  go_wp2_with fail
  refine cc.mono ?_
  clear cc
  clear kKA00 kKA01 kKX00 kKX01
  rintro e w8 ⟨rfl, hb⟩
  replace B := B.trans (hb.mono B.size)
  replace zA := Nat.le_trans zA hb.size
  replace hu1 := hu1.later hb
  replace hu2 := hu2.later hb
  replace oW := own_below oW hb
  replace zW := Nat.le_trans zW hb.size
  replace sp0 := sp0.below hb
  replace cl0 := own_below cl0 hb
  replace hx0 := hx0.later hb
  replace zX0 := Nat.le_trans zX0 hb.size
  replace zKX0 := Nat.le_trans zKX0 hb.size
  replace oX1 := own_below oX1 hb
  replace hx1 := hx1.later hb
  replace zX1 := Nat.le_trans zX1 hb.size
  replace oG := own_below oG hb
  replace zG := Nat.le_trans zG hb.size
  replace KA0 := KA0.below hb
  replace KX0 := KX0.below hb
  clear hb
  have kKA00 : w8.cell? ⟨w.heap.size, 0, none⟩ = some (.slice o01 a0.attrs.length c01) := KA0.cell 0
  have kKA01 : w8.cell? ⟨w.heap.size, 1, none⟩ = some (.slice o02 a0.classes.length c02) := KA0.cell 1
  have kKX00 : w8.cell? ⟨w5.heap.size, 0, none⟩ = some (.slice p01 a0.attrs.length d01) := KX0.cell 0
  have kKX01 : w8.cell? ⟨w5.heap.size, 1, none⟩ = some (.slice p02 a0.classes.length d02) := KX0.cell 1
  go_wp2_with fail
  clear kKA00 kKA01 kKX00 kKX01
  refine wp_region_held_drew (S := fun w' => Blk 25 w' (w.heap.size) #[.slice o01 a0.attrs.length c01, .slice o02 a0.classes.length c02] ∧ Blk 32 w' (w5.heap.size) #[.slice p01 a0.attrs.length d01, .slice p02 a0.classes.length d02]) (by kernel_rfl) ⟨KA0, KX0⟩ ?_
  intro hS
  have bd : Below w8.heap.size w8 w8.drew := below_drewN (Below.refl _ _) 1
  replace B := B.trans (bd.mono B.size)
  replace zA := Nat.le_trans zA bd.size
  replace hu1 := hu1.later bd
  replace hu2 := hu2.later bd
  replace oW := own_below oW bd
  replace zW := Nat.le_trans zW bd.size
  replace sp0 := sp0.below bd
  replace cl0 := own_below cl0 bd
  replace hx0 := hx0.later bd
  replace zX0 := Nat.le_trans zX0 bd.size
  replace zKX0 := Nat.le_trans zKX0 bd.size
  replace oX1 := own_below oX1 bd
  replace hx1 := hx1.later bd
  replace zX1 := Nat.le_trans zX1 bd.size
  replace oG := own_below oG bd
  replace zG := Nat.le_trans zG bd.size
  clear bd KA0 KX0
  generalize w8.drew = w9 at hS B zA hu1 hu2 oW zW sp0 cl0 hx0 zX0 zKX0 oX1 hx1 zX1 oG zG ⊢
  refine takeL 0 (.agg #[.slice p01 a0.attrs.length d01, .slice p02 a0.classes.length d02]) rfl (by kernel_rfl) (by kernel_rfl) (by kernel_rfl) (fun _ _ _ h => h) (yields_row Try.underlying32 (by kernel_rfl) (by rfl) _ rfl _ rfl (fun _ h => h.2)) hS ?_
  try simp only [Act.put, List.setIfInBounds_toArray, List.set_cons_zero, List.set_cons_succ]
  refine takeL 1 (.agg #[.slice o01 a0.attrs.length c01, .slice o02 a0.classes.length c02]) rfl (by kernel_rfl) (by kernel_rfl) (by kernel_rfl) (fun _ _ _ h => h) (yields_row Try.underlying25 (by kernel_rfl) (by rfl) _ rfl _ rfl (fun _ h => h.1)) hS ?_
  try simp only [Act.put, List.setIfInBounds_toArray, List.set_cons_zero, List.set_cons_succ]
  refine nextL 2 rfl (by kernel_rfl) (by rfl) fun K hK => ?_
  have dd := HTL0.out w9 B
  go_simp
  refine dd.mono ?_
  clear dd
  rintro e w10 ⟨u3, rfl, hu3, hb⟩
  refine hK _ _ ⟨hS.1.below hb, hS.2.below hb⟩ ?_
  clear hK K hS
  intro hS
  replace B := B.trans (hb.mono B.size)
  replace zA := Nat.le_trans zA hb.size
  replace hu1 := hu1.later hb
  replace hu2 := hu2.later hb
  replace oW := own_below oW hb
  replace zW := Nat.le_trans zW hb.size
  replace sp0 := sp0.below hb
  replace cl0 := own_below cl0 hb
  replace hx0 := hx0.later hb
  replace zX0 := Nat.le_trans zX0 hb.size
  replace zKX0 := Nat.le_trans zKX0 hb.size
  replace oX1 := own_below oX1 hb
  replace hx1 := hx1.later hb
  replace zX1 := Nat.le_trans zX1 hb.size
  replace oG := own_below oG hb
  replace zG := Nat.le_trans zG hb.size
  clear hb
  refine nextL 3 rfl (by kernel_rfl) (by rfl) fun K hK => ?_
  have dd := eqSchema_row _ _ a0 w10 hx0 hu3 HF0.out.ok
  go_simp
  refine dd.mono ?_
  clear dd
  rintro e w11 ⟨rfl, hb⟩
  refine hK _ _ ⟨hS.1.below hb, hS.2.below hb⟩ ?_
  clear hK K hS
  intro hS
  replace B := B.trans (hb.mono B.size)
  replace zA := Nat.le_trans zA hb.size
  replace hu1 := hu1.later hb
  replace hu2 := hu2.later hb
  replace oW := own_below oW hb
  replace zW := Nat.le_trans zW hb.size
  replace sp0 := sp0.below hb
  replace cl0 := own_below cl0 hb
  replace hx0 := hx0.later hb
  replace zX0 := Nat.le_trans zX0 hb.size
  replace zKX0 := Nat.le_trans zKX0 hb.size
  replace oX1 := own_below oX1 hb
  replace hx1 := hx1.later hb
  replace zX1 := Nat.le_trans zX1 hb.size
  replace oG := own_below oG hb
  replace zG := Nat.le_trans zG hb.size
  replace hu3 := hu3.later hb
  clear hb
  refine takeL 4 (.bool false) rfl (by kernel_rfl) (by kernel_rfl) (by kernel_rfl) (fun _ _ _ h => h) (.inl ⟨by rfl, fun w hw => by (unfold execOp; go_simp)⟩) hS ?_
  try simp only [Act.put, List.setIfInBounds_toArray, List.set_cons_zero, List.set_cons_succ]
  refine wpAnyH_done (by kernel_rfl) ?_ _
  obtain ⟨KA0, KX0⟩ := hS
  have cc := HTL1.out w11 B
  have kKA00 : w11.cell? ⟨w.heap.size, 0, none⟩ = some (.slice o01 a0.attrs.length c01) := KA0.cell 0
  have kKA01 : w11.cell? ⟨w.heap.size, 1, none⟩ = some (.slice o02 a0.classes.length c02) := KA0.cell 1
  have kKX00 : w11.cell? ⟨w5.heap.size, 0, none⟩ = some (.slice p01 a0.attrs.length d01) := KX0.cell 0
  have kKX01 : w11.cell? ⟨w5.heap.size, 1, none⟩ = some (.slice p02 a0.classes.length d02) := KX0.cell 1
  go_wp2_with fail
  refine cc.mono ?_
  clear cc
  clear kKA00 kKA01 kKX00 kKX01
  rintro e w12 ⟨u4, rfl, hu4, hb⟩
  replace B := B.trans (hb.mono B.size)
  replace zA := Nat.le_trans zA hb.size
  replace hu1 := hu1.later hb
  replace hu2 := hu2.later hb
  replace oW := own_below oW hb
  replace zW := Nat.le_trans zW hb.size
  replace sp0 := sp0.below hb
  replace cl0 := own_below cl0 hb
  replace hx0 := hx0.later hb
  replace zX0 := Nat.le_trans zX0 hb.size
  replace zKX0 := Nat.le_trans zKX0 hb.size
  replace oX1 := own_below oX1 hb
  replace hx1 := hx1.later hb
  replace zX1 := Nat.le_trans zX1 hb.size
  replace oG := own_below oG hb
  replace zG := Nat.le_trans zG hb.size
  replace hu3 := hu3.later hb
  replace KA0 := KA0.below hb
  replace KX0 := KX0.below hb
  clear hb
  have cc := eqI_rows (by omega) hx1 hu4
  have kKA00 : w12.cell? ⟨w.heap.size, 0, none⟩ = some (.slice o01 a0.attrs.length c01) := KA0.cell 0
  have kKA01 : w12.cell? ⟨w.heap.size, 1, none⟩ = some (.slice o02 a0.classes.length c02) := KA0.cell 1
  have kKX00 : w12.cell? ⟨w5.heap.size, 0, none⟩ = some (.slice p01 a0.attrs.length d01) := KX0.cell 0
  have kKX01 : w12.cell? ⟨w5.heap.size, 1, none⟩ = some (.slice p02 a0.classes.length d02) := KX0.cell 1
  go_wp2_with fail
  refine cc.mono ?_
  clear cc
  clear kKA00 kKA01 kKX00 kKX01
  rintro e w13 ⟨rfl, hb⟩
  replace B := B.trans (hb.mono B.size)
  replace zA := Nat.le_trans zA hb.size
  replace hu1 := hu1.later hb
  replace hu2 := hu2.later hb
  replace oW := own_below oW hb
  replace zW := Nat.le_trans zW hb.size
  replace sp0 := sp0.below hb
  replace cl0 := own_below cl0 hb
  replace hx0 := hx0.later hb
  replace zX0 := Nat.le_trans zX0 hb.size
  replace zKX0 := Nat.le_trans zKX0 hb.size
  replace oX1 := own_below oX1 hb
  replace hx1 := hx1.later hb
  replace zX1 := Nat.le_trans zX1 hb.size
  replace oG := own_below oG hb
  replace zG := Nat.le_trans zG hb.size
  replace hu3 := hu3.later hb
  replace hu4 := hu4.later hb
  replace KA0 := KA0.below hb
  replace KX0 := KX0.below hb
  clear hb
  clear hu1
  clear hu2
  clear hx0
  clear hx1
  clear hu3
  clear hu4
  have hK0 := fit_mark HF0.out
  have hfc := HF0.out.classes
  have cM := markSchema_any _ _ LL0 ys0 _ a0.attrs a0.attrs.length a0.classes.length (_) 1 w13 sp0 cl0 (fun j x y hj hx hy => HOD0.out j x y hj hx hy) HF0.out.attrs HF0.out.classes (by omega) (by omega)
  generalize hZ0 : mkK 1 (pOf a0.attrs) (qOf a0.attrs) a0.attrs.length = KN0 at cM hK0
  clear hZ0
  obtain ⟨Z0, hZ0⟩ : ∃ Z, Z = KN0 + a0.classes.length := ⟨_, rfl⟩
  rw [← hZ0] at cM
  have hb0 : Z0 ≤ 17592186044416 + 1048576 := by omega
  clear hZ0
  have kKA00 : w13.cell? ⟨w.heap.size, 0, none⟩ = some (.slice o01 a0.attrs.length c01) := KA0.cell 0
  have kKA01 : w13.cell? ⟨w.heap.size, 1, none⟩ = some (.slice o02 a0.classes.length c02) := KA0.cell 1
  have kKX00 : w13.cell? ⟨w5.heap.size, 0, none⟩ = some (.slice p01 a0.attrs.length d01) := KX0.cell 0
  have kKX01 : w13.cell? ⟨w5.heap.size, 1, none⟩ = some (.slice p02 a0.classes.length d02) := KX0.cell 1
  go_wp2_with fail
  refine cM.mono ?_
  rintro e w14 ⟨rfl, -, hg⟩
  clear cM
  clear kKA00 kKA01 kKX00 kKX01
  clear sp0 cl0 KX0 zX0 zKX0 hfc hK0
  replace B := hg.below B B.size (fun k hk => by have h := HLX0.out k hk; have o := HO_A_X0.out; omega)
  replace zA := Nat.le_trans zA hg.size
  replace oW := own_keptS oW hg (fun k hk e => by have h := HLX0.out _ e; have h2 := HLW.out k (hk); have o := HO_W_X0.out; omega)
  replace zW := Nat.le_trans zW hg.size
  replace oX1 := own_keptS oX1 hg (fun k hk e => by have h := HLX0.out _ e; have h2 := HLX1.out k (hk); have o := HO_X0_X1.out; omega)
  replace zX1 := Nat.le_trans zX1 hg.size
  replace oG := own_keptS oG hg (fun k hk e => by have h := HLX0.out _ e; have h2 := HLG.out k (hk); have o := HO_X0_G.out; omega)
  replace zG := Nat.le_trans zG hg.size
  replace KA0 := hg.blk KA0 (fun e => by have h := HLX0.out _ e; have o := HO_A_X0.out; omega)
  clear hg

  have cM := markI_any a1.length _ uX1 Z0 _ w14 (by omega) (by omega) (by omega) oX1
  obtain ⟨Z1, hZ1⟩ : ∃ Z, Z = Z0 + a1.length := ⟨_, rfl⟩
  have hZ1c : ((Z0 : Nat) : Int) + (a1.length : Int) = (Z1 : Int) := by omega
  rw [hZ1c] at cM
  clear hZ1c hZ1
  have kKA00 : w14.cell? ⟨w.heap.size, 0, none⟩ = some (.slice o01 a0.attrs.length c01) := KA0.cell 0
  have kKA01 : w14.cell? ⟨w.heap.size, 1, none⟩ = some (.slice o02 a0.classes.length c02) := KA0.cell 1
  go_wp2_with fail
  refine cM.mono ?_
  rintro e w15 ⟨rfl, -, hg⟩
  clear cM
  clear kKA00 kKA01
  clear oX1 zX1
  replace B := B.grown hg B.size (fun k hk => by have h := HLX1.out k hk; have o := HO_A_X1.out; omega)
  replace zA := Nat.le_trans zA hg.size
  replace oW := oW.kept hg (ne_of_ord fun x y hx hy => by have h := HLX1.out y hy; have h2 := HLW.out x (hx); have o := HO_W_X1.out; omega)
  replace zW := Nat.le_trans zW hg.size
  replace oG := oG.kept hg (ne_of_ord fun x y hx hy => by have h := HLX1.out y hy; have h2 := HLG.out x (hx); have o := HO_X1_G.out; omega)
  replace zG := Nat.le_trans zG hg.size
  replace KA0 := KA0.kept hg (fun e => by have h := HLX1.out _ e; have o := HO_A_X1.out; omega)
  clear hg
  have kn0 : ¬ (Z1 : Int) < 0 := by omega
  have cc := eqF_any HGL.out oG oW
  have kKA00 : w15.cell? ⟨w.heap.size, 0, none⟩ = some (.slice o01 a0.attrs.length c01) := KA0.cell 0
  have kKA01 : w15.cell? ⟨w.heap.size, 1, none⟩ = some (.slice o02 a0.classes.length c02) := KA0.cell 1
  go_wp2_with fail
  refine cc.mono ?_
  clear cc
  clear kKA00 kKA01
  rintro e w16 ⟨rfl, hb⟩
  replace B := B.trans (hb.mono B.size)
  replace zA := Nat.le_trans zA hb.size
  replace oW := own_below oW hb
  replace zW := Nat.le_trans zW hb.size
  replace oG := own_below oG hb
  replace zG := Nat.le_trans zG hb.size
  replace KA0 := KA0.below hb
  clear hb
  clear kn0
  have hZG : (0 : Int) ≤ 1 + 2 * (G.length : Int) := by omega
  have cM := markF_any G.length _ vG 1 _ w16 HGL.out (by omega) (by omega) oG
  have HHH : Hid (∀ b W, MarkedF b W vG G.length 1 → Calls Try.prog 16 #[vG, .int .i64 1] W fun e w' => e = .returned (.int .i64 (1 + 2 * (G.length : Int))) ∧ w' = W) := fun b W h => heldF_any G.length b vG 1 W HGL.out (by omega) (by omega) h
  generalize (1 : Int) + 2 * (G.length : Int) = ZG at cM HHH hZG
  have kKA00 : w16.cell? ⟨w.heap.size, 0, none⟩ = some (.slice o01 a0.attrs.length c01) := KA0.cell 0
  have kKA01 : w16.cell? ⟨w.heap.size, 1, none⟩ = some (.slice o02 a0.classes.length c02) := KA0.cell 1
  go_wp2_with fail
  refine cM.mono ?_
  rintro e w17 ⟨rfl, hm, hg⟩
  clear cM oG zG
  clear kKA00 kKA01
  replace B := B.grown hg B.size (fun k hk => by have h := HLG.out k hk; have o := HO_A_G.out; omega)
  replace zA := Nat.le_trans zA hg.size
  replace oW := oW.kept hg (ne_of_ord fun x y hx hy => by have h := HLG.out y hy; have h2 := HLW.out x (hx); have o := HO_W_G.out; omega)
  replace zW := Nat.le_trans zW hg.size
  replace KA0 := KA0.kept hg (fun e => by have h := HLG.out _ e; have o := HO_A_G.out; omega)
  clear hg
  have zn0 : ¬ ZG < 0 := by omega
  have kKA00 : w17.cell? ⟨w.heap.size, 0, none⟩ = some (.slice o01 a0.attrs.length c01) := KA0.cell 0
  have kKA01 : w17.cell? ⟨w.heap.size, 1, none⟩ = some (.slice o02 a0.classes.length c02) := KA0.cell 1
  have cc := HHH.out _ _ hm
  go_wp2_with fail
  refine cc.mono ?_
  clear cc
  clear kKA00 kKA01
  rintro e w18 ⟨rfl, ew⟩
  rw [ew]
  clear ew w18
  have cc := HTL0.out w17 B
  have kKA00 : w17.cell? ⟨w.heap.size, 0, none⟩ = some (.slice o01 a0.attrs.length c01) := KA0.cell 0
  have kKA01 : w17.cell? ⟨w.heap.size, 1, none⟩ = some (.slice o02 a0.classes.length c02) := KA0.cell 1
  go_wp2_with fail
  refine cc.mono ?_
  clear cc
  clear kKA00 kKA01
  rintro e w19 ⟨u5, rfl, hu5, hb⟩
  replace B := B.trans (hb.mono B.size)
  replace zA := Nat.le_trans zA hb.size
  replace oW := own_below oW hb
  replace zW := Nat.le_trans zW hb.size
  replace hm := hm.below hb
  replace KA0 := KA0.below hb
  clear hb
  have cc := HTL1.out w19 B
  have kKA00 : w19.cell? ⟨w.heap.size, 0, none⟩ = some (.slice o01 a0.attrs.length c01) := KA0.cell 0
  have kKA01 : w19.cell? ⟨w.heap.size, 1, none⟩ = some (.slice o02 a0.classes.length c02) := KA0.cell 1
  go_wp2_with fail
  refine cc.mono ?_
  clear cc
  clear kKA00 kKA01
  rintro e w20 ⟨u6, rfl, hu6, hb⟩
  replace B := B.trans (hb.mono B.size)
  replace zA := Nat.le_trans zA hb.size
  replace oW := own_below oW hb
  replace zW := Nat.le_trans zW hb.size
  replace hm := hm.below hb
  replace hu5 := hu5.later hb
  replace KA0 := KA0.below hb
  clear hb
  have cc := HI.out w20 _ _ B hu5 hu6
  have kKA00 : w20.cell? ⟨w.heap.size, 0, none⟩ = some (.slice o01 a0.attrs.length c01) := KA0.cell 0
  have kKA01 : w20.cell? ⟨w.heap.size, 1, none⟩ = some (.slice o02 a0.classes.length c02) := KA0.cell 1
  go_wp2_with fail
  refine cc.mono ?_
  clear cc
  clear kKA00 kKA01
  rintro e w21 ⟨vH, rfl, oH, hb⟩
  have HLH : Hid (∀ k, vH.ownBlock = some k → w20.heap.size ≤ k ∧ k < w21.heap.size) := oH.lt
  replace B := B.trans (hb.mono B.size)
  replace zA := Nat.le_trans zA hb.size
  replace oW := own_below oW hb
  replace zW := Nat.le_trans zW hb.size
  replace hm := hm.below hb
  replace hu5 := hu5.later hb
  replace hu6 := hu6.later hb
  replace KA0 := KA0.below hb
  clear hb
  have cc := eqF_any HGL.out oH oW
  have kKA00 : w21.cell? ⟨w.heap.size, 0, none⟩ = some (.slice o01 a0.attrs.length c01) := KA0.cell 0
  have kKA01 : w21.cell? ⟨w.heap.size, 1, none⟩ = some (.slice o02 a0.classes.length c02) := KA0.cell 1
  go_wp2_with fail
  refine cc.mono ?_
  clear cc
  clear kKA00 kKA01
  rintro e w22 ⟨rfl, hb⟩
  replace B := B.trans (hb.mono B.size)
  replace zA := Nat.le_trans zA hb.size
  replace oW := own_below oW hb
  replace zW := Nat.le_trans zW hb.size
  replace hm := hm.below hb
  replace hu5 := hu5.later hb
  replace hu6 := hu6.later hb
  replace oH := own_below oH hb
  replace KA0 := KA0.below hb
  clear hb
  have kKA00 : w22.cell? ⟨w.heap.size, 0, none⟩ = some (.slice o01 a0.attrs.length c01) := KA0.cell 0
  have kKA01 : w22.cell? ⟨w.heap.size, 1, none⟩ = some (.slice o02 a0.classes.length c02) := KA0.cell 1
  have cc := HHH.out _ _ hm
  go_wp2_with fail
  refine cc.mono ?_
  clear cc
  clear kKA00 kKA01
  rintro e w23 ⟨rfl, ew⟩
  rw [ew]
  clear ew w23
  go_wp2
  go_ret
  exact ⟨rfl, B⟩
theorem walk (v0 : Value) (a0 : SchemaD) (oL1 : Option Addr) (len1 cap1 : Nat) (z1 : List Int) (a2 : Bool) (w : World) (ha0 : SchemaAt w v0 a0) (hi0 : inS a0) (ha1 : IsRow .i64 w oL1 len1 cap1 z1) :
    Calls Try.prog 3 #[v0, .slice oL1 len1 cap1, .bool a2] w fun e w' => e = .returned (.bool true) ∧ Below w.heap.size w w' := by
  by_cases hlen : len1 ≤ 1048576
  · exact walkIn v0 a0 oL1 len1 cap1 z1 (z1.take len1) a2 w ha0 hi0 ha1 hlen rfl ha1.len
  · have hle := ha1.le
    obtain ⟨y1, y2, rfl, -, -⟩ := ha0
    have B : Below w.heap.size w (w.alloc (.cells #[y1, y2] 25)) := (Below.refl _ _).alloc (Nat.le_refl _) _
    go_enter Try.func3, Try.ntmps3
    go_wp2
    go_ret
    exact ⟨rfl, B⟩

/-! ### THE ROW's STEP -/
set_option maxRecDepth 100000 in
theorem lifted (os : Os) (started : os.Started) (H : Type) (enc : TypeId × Value → H) :
    ReturnsInHanded {} Try.checked os 3 .any (Rows.fnExactCandidatesSpec.pre6 enc Try.prog Try.f3 Rows.fnExactCandidatesRow.domain false) (Rows.fnExactCandidatesSpec.post enc Try.prog Try.f3 false true false false) := by
  refine returnsInHanded_of_change (C := Try.checked) own started (by kernel_rfl) Try.func3
    (ChangeSpec.witness6 (enc := enc) (C := Try.checked) false ⟨#[], #[.agg #[.slice none 0 0, .slice none 0 0], .slice none 0 0, .bool false], []⟩ 8 (by kernel_rfl) (by kernel_rfl) (by kernel_rfl) (by kernel_rfl)) ?_
  intro W base args ds gs before hval0 hW hcnd _
  have hval : ∀ (j : Nat) t v, Try.f3.params[j]? = some t → args[j]? = some v → Value.okWide Try.prog W .any base t v := hval0
  have hW' := hW
  obtain ⟨p, q, hA0, hV, rfl, hfz, hnd⟩ := hW
  have hA : DataW.TrodAll enc Try.prog W 0 (fun _ => true) true Try.f3.params.toList args.toList ds p := hA0
  rw [Try.params3] at hA hval
  obtain ⟨v0, vs0, d0, ds0, p0, q0, hargs, rfl, rfl, h0, r0⟩ := trodAll_cons hA
  obtain ⟨v1, vs1, d1, ds1, p1, q1, rfl, rfl, rfl, h1, r1⟩ := trodAll_cons r0
  obtain ⟨v2, vs2, d2, ds2, p2, q2, rfl, rfl, rfl, h2, r2⟩ := trodAll_cons r1
  obtain ⟨rfl, rfl, rfl⟩ := trodAll_nil r2
  obtain rfl : args = #[v0, v1, v2] := by cases args; simp_all
  obtain ⟨rfl, rfl⟩ := trodVars_none hV
  have k0 := h0
  have lt0 : ∀ x ∈ p0, x.block < W.heap.size := by obtain ⟨m, hm⟩ := k0; exact DataW.trod_lt m _ _ _ hm
  obtain ⟨a0, R0, I0⟩ := open_schema (hval 0 25 v0 rfl rfl) h0
  obtain ⟨a1, len1, cap1, rfl⟩ := okWide_slice Try.underlying26 (hval 1 26 v1 rfl rfl)
  have k1 := h1
  have lt1 : ∀ x ∈ p1, x.block < W.heap.size := by obtain ⟨m, hm⟩ := k1; exact DataW.trod_lt m _ _ _ hm
  obtain ⟨z1, w1⟩ : ∃ zs, IsRow .i64 W a1 len1 cap1 zs := by
    obtain ⟨fuel, hf⟩ := h1
    rcases open_ints Try.underlying26 Try.underlying3 (by kernel_rfl) hf with ⟨hcs, _⟩ | ⟨x, l, c, zs, hcs, _, hl, hm, hz, _, hcell, hwz⟩
    · simp [Value.cells] at hcs
      obtain ⟨rfl, rfl, rfl⟩ := hcs
      exact ⟨[], .inl ⟨rfl, rfl, rfl, rfl⟩⟩
    · simp [Value.cells] at hcs
      obtain ⟨rfl, rfl, rfl⟩ := hcs
      exact ⟨zs, .inr ⟨_, rfl, hl, hm, by simpa using hz, hcell, hwz⟩⟩
  obtain ⟨a2, rfl, rfl, rfl⟩ := open_bool Try.underlying4 (hval 2 4 v2 rfl rfl) h2
  clear hA0 hval0
  refine (walk v0 a0 a1 len1 cap1 z1 a2 W R0 I0 w1).mono fun e W' ⟨he, bel⟩ => ?_
  subst he
  exact ⟨_, rfl, _, _, _, [], _, [], hW', trodAll_mk1 (shut_bool Try.underlying4 _), (trodAll_cons_mk (Below.trod laidOut (by kernel_rfl) (of_decide_eq_true (by kernel_rfl)) k0 bel lt0) (trodAll_cons_mk (Below.trod laidOut (by kernel_rfl) (of_decide_eq_true (by kernel_rfl)) k1 bel lt1) (trodAll_cons_mk (shut_bool Try.underlying4 _) trodAll_mk0))), rfl, bel.frame _, fun h => by cases h⟩

theorem over : Rows.fnExactCandidatesRow.holds Try.pinned (OpenSpec.ofChange Rows.fnExactCandidatesSpec) :=
  OpenClaim.holds_of_wide 3 Try.f3 rfl rfl rfl rfl rfl rfl rfl ⟨rfl, rfl, rfl, rfl, rfl⟩ rfl rfl rfl rfl rfl (by kernel_rfl) Try.func3 (by kernel_rfl)
    (of_decide_eq_true (by kernel_rfl)) (by unfold Func.isWrapper; first | (rw [if_pos (by decide +kernel)]; kernel_rfl) | (rw [if_neg (by decide +kernel)]; exact ⟨rfl, rfl⟩))
    (fun os started H enc _ => lifted os started H enc)

theorem proved : Rows.FnExactCandidatesSaid :=
  over
end Go.Proofs.Ytfflodcapcamcab.fnExactCandidates
namespace Go.Proofs.Ytfflodcapcamcab
theorem candidates_holds : Rows.FnExactCandidatesSaid := fnExactCandidates.proved
#print axioms candidates_holds
end Go.Proofs.Ytfflodcapcamcab
