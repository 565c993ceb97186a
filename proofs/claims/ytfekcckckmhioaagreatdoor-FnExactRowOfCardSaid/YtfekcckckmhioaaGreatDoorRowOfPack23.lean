/- Texts of this claim, put together: part 23. -/
import Derived.Test.YtfekcckckmhioaaGreatDoorRowOfPack11
import Derived.Test.YtfekcckckmhioaaGreatDoorRowOfPack17
import Derived.Test.YtfekcckckmhioaaGreatDoorRowOfPack19
import Derived.Test.YtfekcckckmhioaaGreatDoorRowOfPack21
import Derived.Test.YtfekcckckmhioaaGreatDoorRowOfPack22
import Derived.ChangeSame
import Derived.Deep.Strs
/- The exact law of RowOf: the walk. -/
namespace Go.Proofs.YtfekcckckmhioaaGreatDoor
open Go.RowKit
set_option maxRecDepth 100000
set_option linter.unusedSimpArgs false
theorem row_len (s : SchemaD) (row : ByteArray) : (rowOf s row).1.bins.length ≤ 5 := by
  rcases row_total s row with ⟨_, h, _⟩ | ⟨_, _, h, _⟩
  · have h1 := (exOk_parts h).2.1
    have h2 := (sch_parts (exOk_parts h).1).1.2
    omega
  · rw [h]; simp [noEx]
theorem in_sp {base n c : Nat} {w : World} {va vc : Value} {L : Nat → Value × Value} {ys zs : List Value} {ls : List AttrD} (h : SepL base w va L ys ls n) (hc : w.ownsRow base 9 1 vc c zs) : ∀ k, InS va vc L n k → base ≤ k ∧ k < w.heap.size := by
  intro k hk
  rcases hk with (hk | ⟨j, hj, hk | hk⟩) | hk
  · exact h.row.lt k hk
  · exact (h.ints j hj).lt k hk
  · exact (h.strs j hj).lt k hk
  · exact hc.lt k hk
theorem mkK_bound {k0 M : Nat} {p q : Nat → Nat} : ∀ n, (∀ j, j < n → p j ≤ M ∧ q j ≤ M) → mkK k0 p q n ≤ k0 + n * (1 + 2 * M)
  | 0, _ => by simp [mkK]
  | n + 1, h => by
    have h1 := mkK_bound (k0 := k0) (M := M) (p := p) (q := q) n fun j hj => h j (by omega)
    have h2 := h n (by omega)
    simp only [mkK]
    rw [Nat.add_mul]
    omega
theorem fit_mark {a : SchemaD} (h : fitS a) : mkK 1 (pOf a.attrs) (qOf a.attrs) a.attrs.length ≤ 17592186044416 := by
  have h1 := mkK_bound (k0 := 1) (M := 1048576) (p := pOf a.attrs) (q := qOf a.attrs) a.attrs.length fun j hj => ⟨(h.each _ (ad_mem hj)).cuts, (h.each _ (ad_mem hj)).vals⟩
  have h2 := Nat.mul_le_mul_right (1 + 2 * 1048576) h.attrs
  omega
set_option maxHeartbeats 6400000 in
theorem rowOf_walk (v : Value) (a : SchemaD) (a0 : Option Addr) (len cap : Nat) (zs : List Int) (u : TypeId) (ev : Value) (m : Int) (w : World) (ha : SchemaAt w v a) (hia : inS a) (hr : IsRow .u8 w a0 len cap zs) (hlen : len ≤ 1048576) (hE : Env u ev m w) (hg : EtAt w) :
    Calls Tryz.prog 3 #[v, .slice a0 len cap] w fun e w' => e = .returned (.bool true) ∧ Below w.heap.size w w' := by
  have HHA : Hid (∀ W, Below w.heap.size w W → SchemaAt W v a) := fun W h => ha.later h
  obtain ⟨y1, y2, rfl, rr1, rr2⟩ := id ha
  obtain ⟨o1, c1, rfl, -, -⟩ := id rr1
  obtain ⟨o2, c2, rfl, -, -⟩ := id rr2
  clear rr1 rr2
  have HR : Hid (∀ W, Below w.heap.size w W → IsRow .u8 W a0 len cap zs) := fun W h => hr.later h
  have HENV : Hid (∀ W, Below w.heap.size w W → Env u ev m W ∧ EtAt W) := fun W h => ⟨hE.later h, hg.later h⟩
  have hzl := hr.len
  have HZL : Hid ((zs.take len).length = len) := hzl
  obtain ⟨row, hrow⟩ : ∃ row, row = strOfNums (zs.take len) := ⟨_, rfl⟩
  have hrs : row.size = len := by rw [hrow, strOfNums_size, hzl]
  have HRS : Hid (row.size = len) := hrs
  have HROW : Hid (row = strOfNums (zs.take len)) := hrow
  have c0 := fun W (hW : Below w.heap.size w W) => szSchema_row _ a 1048576 W (ha.later hW) hia (by omega) (by omega)
  clear ha hr hE hg hia hrow hzl hrs
  obtain ⟨KA, B⟩ := blk_1 25 w #[.slice o1 a.attrs.length c1, .slice o2 a.classes.length c2]
  go_enter Tryz.func3, Tryz.ntmps3
  go_wp2_with fail
  refine (c0 _ B).mono ?_
  rintro e w1 ⟨r, rfl, hr, hb1⟩
  clear c0
  replace KA := KA.below hb1
  replace B := B.trans (hb1.mono B.size)
  clear hb1
  rcases hr with ⟨r0, r1, hf⟩ | rfl
  rotate_left
  · go_wp2
    go_ret
    exact ⟨rfl, B⟩
  have HF : Hid (fitS a) := hf
  clear hf
  have r0n : ¬ r < 0 := by omega
  have HT : Hid (∀ W, Below w.heap.size w W → Calls Tryz.prog 7 #[.agg #[.slice o1 a.attrs.length c1, .slice o2 a.classes.length c2]] W fun e w' => ∃ v', e = .returned v' ∧ OwnSp W.heap.size w' v' a ∧ Below W.heap.size W w') := fun W hW => toSchema_sep _ a W (HHA.out W hW) HF.out
  have HTB : Hid (∀ W, Below w.heap.size w W → Calls Tryz.prog 8 #[.slice a0 len cap] W fun e w' => ∃ g, e = .returned (.slice (some ⟨g, 0, none⟩) len len) ∧ w'.ownsRow W.heap.size 5 1 (.slice (some ⟨g, 0, none⟩) len len) len ((zs.take len).map (Value.int .u8)) ∧ Below W.heap.size W w') := fun W hW => to_any a0 len cap zs W (HR.out W hW) hlen
  have hGl := row_len a row
  have HI : Hid (∀ W v3 v4 (_ : Below w.heap.size w W) (_ : SchemaAt W v3 a) (_ : BytesAt W v4 row), Calls Tryz.prog 9 #[v3, v4] W fun e w' => ∃ v, e = .returned (.tuple #[v, .int .i64 (rowOf a row).2.1, .int .i64 (rowOf a row).2.2]) ∧ OwnE W.heap.size w' v (rowOf a row).1 ∧ Below W.heap.size W w') := fun W v3 v4 hW h3 h4 => implRowOf_any v3 v4 a row u ev m W h3 h4 HF.out.ok (by have := HRS.out; omega) (HENV.out W hW).1 (HENV.out W hW).2
  have HSP : Hid (∀ W v3 v4 (_ : SchemaAt W v3 a) (_ : BytesAt W v4 row), Calls Tryz.prog 6 #[v3, v4] W fun e w' => ∃ v, e = .returned (.tuple #[v, .int .i64 (rowOf a row).2.1, .int .i64 (rowOf a row).2.2]) ∧ OwnE W.heap.size w' v (rowOf a row).1 ∧ Below W.heap.size W w') := fun W v3 v4 h3 h4 => specRowOf_any v3 v4 a row W h3 h4 HF.out.ok (by have := HRS.out; omega)
  generalize (rowOf a row).1 = G at HI HSP hGl
  generalize (rowOf a row).2.1 = G1 at HI HSP
  generalize (rowOf a row).2.2 = G2 at HI HSP
  have k0 : w1.cell? ⟨w.heap.size, 0, none⟩ = some (.slice o1 a.attrs.length c1) := KA.cell 0
  have k1 : w1.cell? ⟨w.heap.size, 1, none⟩ = some (.slice o2 a.classes.length c2) := KA.cell 1
  have cc := HT.out _ B
  go_wp2_with fail
  refine cc.mono ?_
  clear cc
  rintro e w2 ⟨v2, rfl, ho2, hb⟩
  clear k0 k1
  replace KA := KA.below hb
  replace B := B.trans (hb.mono B.size)
  have hx2 := ho2.own.at
  clear hb ho2
  have cc := HTB.out _ B
  go_wp2_with fail
  refine cc.mono ?_
  clear cc
  rintro e w3 ⟨g3, rfl, ho3, hb⟩
  replace KA := KA.below hb
  replace B := B.trans (hb.mono B.size)
  have hx3 := hx2.later hb
  have hy3 : BytesAt w3 (.slice (some ⟨g3, 0, none⟩) len len) row := by rw [HROW.out]; exact BytesAt.of_own ho3 HZL.out
  clear hb ho3 hx2
  have hA3 := KA.lt
  have cc := HSP.out _ _ _ hx3 hy3
  go_wp2_with fail
  refine cc.mono ?_
  clear cc
  rintro e w4 ⟨v4, rfl, ⟨vw, rfl, oW⟩, hb⟩
  obtain ⟨ow, kw, rfl⟩ := own_slice oW
  replace KA := KA.below hb
  replace B := B.trans (hb.mono B.size)
  have h34 := hb.size
  have HB4 : Hid (w.heap.size < w3.heap.size ∧ w3.heap.size ≤ w4.heap.size) := ⟨hA3, h34⟩
  clear hb hx3 hy3 hA3 h34
  have HLW : Hid (∀ k, (Value.slice ow G.bins.length kw).ownBlock = some k → w3.heap.size ≤ k ∧ k < w4.heap.size) := oW.lt
  obtain ⟨KW, BN⟩ := blk_1 30 w4 #[.slice ow G.bins.length kw, .int .i64 G.cls]
  replace KA := KA.below BN
  replace B := B.trans (BN.mono B.size)
  replace oW := own_below oW BN
  clear BN
  have k0 : (w4.alloc (.cells #[.slice ow G.bins.length kw, .int .i64 G.cls] 30)).cell? ⟨w.heap.size, 0, none⟩ = some (.slice o1 a.attrs.length c1) := KA.cell 0
  have k1 : (w4.alloc (.cells #[.slice ow G.bins.length kw, .int .i64 G.cls] 30)).cell? ⟨w.heap.size, 1, none⟩ = some (.slice o2 a.classes.length c2) := KA.cell 1
  have cc := HT.out _ B
  go_wp2_with fail
  refine cc.mono ?_
  clear cc
  rintro e w5 ⟨v5, rfl, ho5, hb⟩
  clear k0 k1
  replace KA := KA.below hb
  replace B := B.trans (hb.mono B.size)
  replace oW := own_below oW hb
  replace KW := KW.below hb
  have hs5 := hb.size
  rw [World.size_alloc] at hs5 ho5
  have hx5 := ho5.own.at
  obtain ⟨y1, y2, LL, ys, rfl, sp, cl, hod⟩ := ho5
  obtain ⟨p1, d1, hp1⟩ := own_form sp.row
  obtain ⟨p2, d2, hp2⟩ := own_form cl
  subst hp1 hp2
  have HOD : Hid (∀ j c b, j < a.attrs.length → (Value.slice p2 a.classes.length d2).ownBlock = some c → (LL j).2.ownBlock = some b → c ≠ b) := hod
  have HLT : Hid (∀ k, InS (.slice p1 a.attrs.length d1) (.slice p2 a.classes.length d2) LL a.attrs.length k → w4.heap.size + 1 ≤ k ∧ k < w5.heap.size) := in_sp sp cl
  clear hb hod
  obtain ⟨KX, BN⟩ := blk_1 35 w5 #[.slice p1 a.attrs.length d1, .slice p2 a.classes.length d2]
  replace hx5 := hx5.later BN
  replace KA := KA.below BN
  replace B := B.trans (BN.mono B.size)
  replace oW := own_below oW BN
  replace KW := KW.below BN
  replace sp := sp.below BN
  replace cl := own_below cl BN
  clear BN
  have cc := HTB.out _ B
  go_wp2_with fail
  refine cc.mono ?_
  clear cc
  rintro e w6 ⟨g6, rfl, o1x, hb⟩
  replace hx5 := hx5.later hb
  replace KA := KA.below hb
  replace B := B.trans (hb.mono B.size)
  replace oW := own_below oW hb
  replace KW := KW.below hb
  replace sp := sp.below hb
  replace cl := own_below cl hb
  replace KX := KX.below hb
  have hs6 := hb.size
  rw [World.size_alloc] at hs6 o1x
  have HL1 : Hid (∀ k, (Value.slice (some ⟨g6, 0, none⟩) len len).ownBlock = some k → w5.heap.size + 1 ≤ k ∧ k < w6.heap.size) := o1x.lt
  clear hb
  have k0 : w6.cell? ⟨w5.heap.size, 0, none⟩ = some (.slice p1 a.attrs.length d1) := KX.cell 0
  have k1 : w6.cell? ⟨w5.heap.size, 1, none⟩ = some (.slice p2 a.classes.length d2) := KX.cell 1
  have hy6 : BytesAt w6 (.slice (some ⟨g6, 0, none⟩) len len) row := by rw [HROW.out]; exact BytesAt.of_own o1x HZL.out
  have cc := HI.out _ _ _ B hx5 hy6
  go_wp2_with fail
  refine cc.mono ?_
  clear cc
  rintro e w7 ⟨v7, rfl, ⟨vg, rfl, oG⟩, hb⟩
  clear k0 k1
  obtain ⟨og, kg, rfl⟩ := own_slice oG
  replace hx5 := hx5.later hb
  replace KA := KA.below hb
  replace B := B.trans (hb.mono B.size)
  replace oW := own_below oW hb
  replace KW := KW.below hb
  replace sp := sp.below hb
  replace cl := own_below cl hb
  replace KX := KX.below hb
  replace o1x := own_below o1x hb
  have hs7 := hb.size
  have HLG : Hid (∀ k, (Value.slice og G.bins.length kg).ownBlock = some k → w6.heap.size ≤ k ∧ k < w7.heap.size) := oG.lt
  clear hb hy6
  obtain ⟨KG, BN⟩ := blk_1 30 w7 #[.slice og G.bins.length kg, .int .i64 G.cls]
  replace hx5 := hx5.later BN
  replace KA := KA.below BN
  replace B := B.trans (BN.mono B.size)
  replace oW := own_below oW BN
  replace KW := KW.below BN
  replace sp := sp.below BN
  replace cl := own_below cl BN
  replace KX := KX.below BN
  replace o1x := own_below o1x BN
  replace oG := own_below oG BN
  clear BN
  have kw0 : (w7.alloc (.cells #[.slice og G.bins.length kg, .int .i64 G.cls] 30)).cell? ⟨w4.heap.size, 0, none⟩ = some (.slice ow G.bins.length kw) := KW.cell 0
  have kw1 : (w7.alloc (.cells #[.slice og G.bins.length kg, .int .i64 G.cls] 30)).cell? ⟨w4.heap.size, 1, none⟩ = some (.int .i64 G.cls) := KW.cell 1
  have kg0 : (w7.alloc (.cells #[.slice og G.bins.length kg, .int .i64 G.cls] 30)).cell? ⟨w7.heap.size, 0, none⟩ = some (.slice og G.bins.length kg) := KG.cell 0
  have kg1 : (w7.alloc (.cells #[.slice og G.bins.length kg, .int .i64 G.cls] 30)).cell? ⟨w7.heap.size, 1, none⟩ = some (.int .i64 G.cls) := KG.cell 1
  have cc := eqEx_row (.agg #[.slice og G.bins.length kg, .int .i64 G.cls]) (.agg #[.slice ow G.bins.length kw, .int .i64 G.cls]) G (w7.alloc (.cells #[.slice og G.bins.length kg, .int .i64 G.cls] 30)) ⟨_, rfl, RowI.of_own oG rfl⟩ ⟨_, rfl, RowI.of_own oW rfl⟩ (by omega)
  go_wp2_with fail
  refine cc.mono ?_
  clear cc
  rintro e w8 ⟨rfl, hb⟩
  clear kw0 kw1
  clear kg0 kg1
  replace hx5 := hx5.later hb
  replace KA := KA.below hb
  replace B := B.trans (hb.mono B.size)
  replace oW := own_below oW hb
  replace KW := KW.below hb
  replace sp := sp.below hb
  replace cl := own_below cl hb
  replace KX := KX.below hb
  replace o1x := own_below o1x hb
  replace oG := own_below oG hb
  replace KG := KG.below hb
  clear hb
  go_wp2_with fail
  refine wp_region_held_drew (S := fun w' => Blk 25 w' w.heap.size #[.slice o1 a.attrs.length c1, .slice o2 a.classes.length c2] ∧ Blk 35 w' w5.heap.size #[.slice p1 a.attrs.length d1, .slice p2 a.classes.length d2]) (by kernel_rfl) ⟨KA, KX⟩ ?_
  intro hS
  have bd : Below w8.heap.size w8 w8.drew := below_drewN (Below.refl _ _) 1
  replace hx5 := hx5.later bd
  replace KA := KA.below bd
  replace B := B.trans (bd.mono B.size)
  replace oW := own_below oW bd
  replace KW := KW.below bd
  replace sp := sp.below bd
  replace cl := own_below cl bd
  replace KX := KX.below bd
  replace o1x := own_below o1x bd
  replace oG := own_below oG bd
  replace KG := KG.below bd
  clear bd
  generalize w8.drew = w9 at hS KA B oW KW sp cl hx5 KX o1x oG KG
  refine takeL 0 (.agg #[.slice p1 a.attrs.length d1, .slice p2 a.classes.length d2]) rfl (by kernel_rfl) (by kernel_rfl) (by kernel_rfl) (fun _ _ _ h => h) (yields_row Tryz.underlying35 (by kernel_rfl) (by rfl) _ rfl _ rfl (fun _ h => h.2)) hS ?_
  simp only [Act.put, List.setIfInBounds_toArray, List.set_cons_zero, List.set_cons_succ]
  refine takeL 1 (.agg #[.slice o1 a.attrs.length c1, .slice o2 a.classes.length c2]) rfl (by kernel_rfl) (by kernel_rfl) (by kernel_rfl) (fun _ _ _ h => h) (yields_row Tryz.underlying25 (by kernel_rfl) (by rfl) _ rfl _ rfl (fun _ h => h.1)) hS ?_
  simp only [Act.put, List.setIfInBounds_toArray, List.set_cons_zero, List.set_cons_succ]
  refine nextL 2 rfl (by kernel_rfl) (by rfl) fun K hK => ?_
  have dd := HT.out w9 B
  go_simp
  refine dd.mono ?_
  rintro e w10 ⟨z10, rfl, hz10, hb⟩
  refine hK _ _ ⟨hS.1.below hb, hS.2.below hb⟩ ?_
  clear hK K dd
  intro hS
  replace hx5 := hx5.later hb
  replace KA := KA.below hb
  replace B := B.trans (hb.mono B.size)
  replace oW := own_below oW hb
  replace KW := KW.below hb
  replace sp := sp.below hb
  replace cl := own_below cl hb
  replace KX := KX.below hb
  replace o1x := own_below o1x hb
  replace oG := own_below oG hb
  replace KG := KG.below hb
  clear hb
  refine nextL 3 rfl (by kernel_rfl) (by rfl) fun K hK => ?_
  have dd := eqSchema_row _ z10 a w10 hx5 hz10.own.at HF.out.ok
  go_simp
  refine dd.mono ?_
  rintro e w11 ⟨rfl, hb⟩
  refine hK _ _ ⟨hS.1.below hb, hS.2.below hb⟩ ?_
  clear hK K dd hz10
  intro hS
  replace hx5 := hx5.later hb
  replace KA := KA.below hb
  replace B := B.trans (hb.mono B.size)
  replace oW := own_below oW hb
  replace KW := KW.below hb
  replace sp := sp.below hb
  replace cl := own_below cl hb
  replace KX := KX.below hb
  replace o1x := own_below o1x hb
  replace oG := own_below oG hb
  replace KG := KG.below hb
  clear hb
  refine takeL 4 (.bool false) rfl (by kernel_rfl) (by kernel_rfl) (by kernel_rfl) (fun _ _ _ h => h) (.inl ⟨by rfl, fun w _ => by rfl⟩) hS ?_
  simp only [Act.put, List.setIfInBounds_toArray, List.set_cons_zero, List.set_cons_succ]
  refine wpAnyH_done (by kernel_rfl) ?_ _
  clear hS
  have cc := HTB.out _ B
  go_wp2_with fail
  refine cc.mono ?_
  clear cc
  rintro e w12 ⟨g12, rfl, o12, hb⟩
  replace hx5 := hx5.later hb
  replace KA := KA.below hb
  replace B := B.trans (hb.mono B.size)
  replace oW := own_below oW hb
  replace KW := KW.below hb
  replace sp := sp.below hb
  replace cl := own_below cl hb
  replace KX := KX.below hb
  replace o1x := own_below o1x hb
  replace oG := own_below oG hb
  replace KG := KG.below hb
  clear hb
  have cc := eq_at HZL.out (by omega) o1x o12
  go_wp2_with fail
  refine cc.mono ?_
  clear cc
  rintro e w13 ⟨rfl, hb⟩
  replace hx5 := hx5.later hb
  replace KA := KA.below hb
  replace B := B.trans (hb.mono B.size)
  replace oW := own_below oW hb
  replace KW := KW.below hb
  replace sp := sp.below hb
  replace cl := own_below cl hb
  replace KX := KX.below hb
  replace o1x := own_below o1x hb
  replace oG := own_below oG hb
  replace KG := KG.below hb
  clear hb o12 hx5
  have hK2 := fit_mark HF.out
  have k0 : w13.cell? ⟨w5.heap.size, 0, none⟩ = some (.slice p1 a.attrs.length d1) := KX.cell 0
  have k1 : w13.cell? ⟨w5.heap.size, 1, none⟩ = some (.slice p2 a.classes.length d2) := KX.cell 1
  have cM := markSchema_any _ _ LL ys _ a.attrs a.attrs.length a.classes.length (w4.heap.size + 1) 1 w13 sp cl (fun j x y hj hx hy => HOD.out j x y hj hx hy) HF.out.attrs HF.out.classes (by omega) (by omega)
  have hfc := HF.out.classes
  generalize mkK 1 (pOf a.attrs) (qOf a.attrs) a.attrs.length = KN at cM hK2
  have hsum : ((KN + a.classes.length : Nat) : Int) = (KN : Int) + (a.classes.length : Int) := by omega
  rw [hsum] at cM
  clear sp cl hsum
  go_wp2_with fail
  refine cM.mono ?_
  rintro e w14 ⟨rfl, -, hg⟩
  clear cM
  clear k0 k1
  have hWX := KW.lt
  replace KA := hg.blk KA (fun e => by have := (HLT.out _ e).1; have := (HLT.out _ e).2; have := HB4.out; omega)
  replace KW := hg.blk KW (fun e => by have := (HLT.out _ e).1; omega)
  replace KG := hg.blk KG (fun e => by have := (HLT.out _ e).2; omega)
  replace oW := own_keptS oW hg (fun k hk e => by have := (HLT.out _ e).1; have := (HLW.out k hk).2; omega)
  replace o1x := own_keptS o1x hg (fun k hk e => by have := (HLT.out _ e).2; have := (HL1.out k hk).1; omega)
  replace oG := own_keptS oG hg (fun k hk e => by have := (HLT.out _ e).2; have := (HLG.out k hk).1; omega)
  replace B := hg.below B B.size (fun k hk => by have := (HLT.out k hk).1; have := HB4.out; omega)
  clear hg hWX KX
  have cc := mark_any len _ (.slice (some ⟨g6, 0, none⟩) len len) ((KN : Int) + (a.classes.length : Int)) _ w14 (by omega) (by omega) (by omega) o1x
  go_wp2_with fail
  refine cc.mono ?_
  clear cc
  rintro e w15 ⟨rfl, -, hg⟩
  replace KA := KA.kept hg (fun e => by have := (HL1.out _ e).1; have := HB4.out; omega)
  replace KW := KW.kept hg (fun e => by have := (HL1.out _ e).1; omega)
  replace KG := KG.kept hg (fun e => by have := (HL1.out _ e).2; omega)
  replace oW := oW.kept hg (ne_of_ord fun x y hx hy => by have := (HLW.out x hx).2; have := (HL1.out y hy).1; omega)
  replace oG := oG.kept hg (ne_of_ord fun x y hx hy => by have := (HLG.out x hx).1; have := (HL1.out y hy).2; omega)
  replace B := B.grown hg B.size (fun k hk => by have := (HL1.out k hk).1; have := HB4.out; omega)
  clear hg o1x
  have kn0 : ¬ (KN : Int) + (a.classes.length : Int) + (len : Int) < 0 := by omega
  have kw0 : w15.cell? ⟨w4.heap.size, 0, none⟩ = some (.slice ow G.bins.length kw) := KW.cell 0
  have kw1 : w15.cell? ⟨w4.heap.size, 1, none⟩ = some (.int .i64 G.cls) := KW.cell 1
  have kg0 : w15.cell? ⟨w7.heap.size, 0, none⟩ = some (.slice og G.bins.length kg) := KG.cell 0
  have kg1 : w15.cell? ⟨w7.heap.size, 1, none⟩ = some (.int .i64 G.cls) := KG.cell 1
  have cc := eqEx_row (.agg #[.slice og G.bins.length kg, .int .i64 G.cls]) (.agg #[.slice ow G.bins.length kw, .int .i64 G.cls]) G w15 ⟨_, rfl, RowI.of_own oG rfl⟩ ⟨_, rfl, RowI.of_own oW rfl⟩ (by omega)
  go_wp2_with fail
  refine cc.mono ?_
  clear cc
  rintro e w16 ⟨rfl, hb⟩
  clear kw0 kw1
  clear kg0 kg1
  replace KA := KA.below hb
  replace B := B.trans (hb.mono B.size)
  replace oW := own_below oW hb
  replace KW := KW.below hb
  replace oG := own_below oG hb
  replace KG := KG.below hb
  clear hb
  have kg0 : w16.cell? ⟨w7.heap.size, 0, none⟩ = some (.slice og G.bins.length kg) := KG.cell 0
  have kg1 : w16.cell? ⟨w7.heap.size, 1, none⟩ = some (.int .i64 G.cls) := KG.cell 1
  have cc := markEx_any (.slice og G.bins.length kg) G.cls G.bins.length 1 _ _ w16 oG (by omega) (by omega)
  go_wp2_with fail
  refine cc.mono ?_
  clear cc
  rintro e w17 ⟨rfl, hm, hg⟩
  clear kg0 kg1
  replace KA := KA.kept hg (fun e => by have := (HLG.out _ e).1; have := HB4.out; omega)
  replace KW := KW.kept hg (fun e => by have := (HLG.out _ e).1; omega)
  replace KG := KG.kept hg (fun e => by have := (HLG.out _ e).2; omega)
  replace oW := oW.kept hg (ne_of_ord fun x y hx hy => by have := (HLW.out x hx).2; have := (HLG.out y hy).1; omega)
  replace B := B.grown hg B.size (fun k hk => by have := (HLG.out k hk).1; have := HB4.out; omega)
  clear hg oG
  have m0 : ¬ (1 : Int) + (G.bins.length : Int) < 0 := by omega
  have kg0 : w17.cell? ⟨w7.heap.size, 0, none⟩ = some (.slice og G.bins.length kg) := KG.cell 0
  have kg1 : w17.cell? ⟨w7.heap.size, 1, none⟩ = some (.int .i64 G.cls) := KG.cell 1
  have cc := heldEx_any (.slice og G.bins.length kg) G.cls G.bins.length 1 _ w17 hm (by omega) (by omega)
  go_wp2_with fail
  refine cc.mono ?_
  clear cc
  rintro e w18 ⟨rfl, hb⟩
  clear kg0 kg1
  replace KA := KA.below hb
  replace B := B.trans (hb.mono B.size)
  replace oW := own_below oW hb
  replace KW := KW.below hb
  replace KG := KG.below hb
  replace hm := hm.below hb
  clear hb
  have k0 : w18.cell? ⟨w.heap.size, 0, none⟩ = some (.slice o1 a.attrs.length c1) := KA.cell 0
  have k1 : w18.cell? ⟨w.heap.size, 1, none⟩ = some (.slice o2 a.classes.length c2) := KA.cell 1
  have cc := HT.out _ B
  go_wp2_with fail
  refine cc.mono ?_
  clear cc
  rintro e w19 ⟨v19, rfl, ho19, hb⟩
  clear k0 k1
  replace KA := KA.below hb
  replace B := B.trans (hb.mono B.size)
  replace oW := own_below oW hb
  replace KW := KW.below hb
  replace KG := KG.below hb
  replace hm := hm.below hb
  have hx19 := ho19.own.at
  clear hb ho19
  have cc := HTB.out _ B
  go_wp2_with fail
  refine cc.mono ?_
  clear cc
  rintro e w20 ⟨g20, rfl, ho20, hb⟩
  replace KA := KA.below hb
  replace B := B.trans (hb.mono B.size)
  replace oW := own_below oW hb
  replace KW := KW.below hb
  replace KG := KG.below hb
  replace hm := hm.below hb
  have hx20 := hx19.later hb
  have hy20 : BytesAt w20 (.slice (some ⟨g20, 0, none⟩) len len) row := by rw [HROW.out]; exact BytesAt.of_own ho20 HZL.out
  clear hb ho20 hx19
  have cc := HI.out _ _ _ B hx20 hy20
  go_wp2_with fail
  refine cc.mono ?_
  clear cc
  rintro e w21 ⟨v21, rfl, ⟨vh, rfl, oH⟩, hb⟩
  obtain ⟨oh, kh, rfl⟩ := own_slice oH
  replace KA := KA.below hb
  replace B := B.trans (hb.mono B.size)
  replace oW := own_below oW hb
  replace KW := KW.below hb
  replace KG := KG.below hb
  replace hm := hm.below hb
  clear hb hx20 hy20
  obtain ⟨KH, BN⟩ := blk_1 30 w21 #[.slice oh G.bins.length kh, .int .i64 G.cls]
  replace KA := KA.below BN
  replace B := B.trans (BN.mono B.size)
  replace oW := own_below oW BN
  replace KW := KW.below BN
  replace KG := KG.below BN
  replace hm := hm.below BN
  replace oH := own_below oH BN
  clear BN
  have kw0 : (w21.alloc (.cells #[.slice oh G.bins.length kh, .int .i64 G.cls] 30)).cell? ⟨w4.heap.size, 0, none⟩ = some (.slice ow G.bins.length kw) := KW.cell 0
  have kw1 : (w21.alloc (.cells #[.slice oh G.bins.length kh, .int .i64 G.cls] 30)).cell? ⟨w4.heap.size, 1, none⟩ = some (.int .i64 G.cls) := KW.cell 1
  have kg0 : (w21.alloc (.cells #[.slice oh G.bins.length kh, .int .i64 G.cls] 30)).cell? ⟨w21.heap.size, 0, none⟩ = some (.slice oh G.bins.length kh) := KH.cell 0
  have kg1 : (w21.alloc (.cells #[.slice oh G.bins.length kh, .int .i64 G.cls] 30)).cell? ⟨w21.heap.size, 1, none⟩ = some (.int .i64 G.cls) := KH.cell 1
  have cc := eqEx_row (.agg #[.slice oh G.bins.length kh, .int .i64 G.cls]) (.agg #[.slice ow G.bins.length kw, .int .i64 G.cls]) G (w21.alloc (.cells #[.slice oh G.bins.length kh, .int .i64 G.cls] 30)) ⟨_, rfl, RowI.of_own oH rfl⟩ ⟨_, rfl, RowI.of_own oW rfl⟩ (by omega)
  go_wp2_with fail
  refine cc.mono ?_
  clear cc
  rintro e w22 ⟨rfl, hb⟩
  clear kw0 kw1
  clear kg0 kg1
  replace KA := KA.below hb
  replace B := B.trans (hb.mono B.size)
  replace oW := own_below oW hb
  replace KW := KW.below hb
  replace KG := KG.below hb
  replace hm := hm.below hb
  replace oH := own_below oH hb
  replace KH := KH.below hb
  clear hb
  have kg0 : w22.cell? ⟨w7.heap.size, 0, none⟩ = some (.slice og G.bins.length kg) := KG.cell 0
  have kg1 : w22.cell? ⟨w7.heap.size, 1, none⟩ = some (.int .i64 G.cls) := KG.cell 1
  have cc := heldEx_any (.slice og G.bins.length kg) G.cls G.bins.length 1 _ w22 hm (by omega) (by omega)
  go_wp2_with fail
  refine cc.mono ?_
  clear cc
  rintro e w23 ⟨rfl, hb⟩
  clear kg0 kg1
  replace KA := KA.below hb
  replace B := B.trans (hb.mono B.size)
  replace oW := own_below oW hb
  replace KW := KW.below hb
  replace KG := KG.below hb
  replace hm := hm.below hb
  replace oH := own_below oH hb
  replace KH := KH.below hb
  clear hb
  go_wp2
  go_ret
  exact ⟨rfl, B⟩
end Go.Proofs.YtfekcckckmhioaaGreatDoor
/- An attribute that comes in to a law: what its reading says of its cells. -/
namespace Go.Proofs.YtfekcckckmhioaaGreatDoor
open Go.ChangeShapes Go.WideShapes Go.ChangeAt Go.RowKit Go.Deep
set_option maxRecDepth 100000

theorem RowI.of_isRow {w : World} {a : Option Addr} {len cap : Nat} {zs : List Int} (h : IsRow .i64 w a len cap zs) : RowI w (.slice a len cap) (zs.take len) := by
  have hl := h.len
  refine ⟨a, cap, by rw [hl], ?_, fun h0 => ?_⟩
  · rcases h with ⟨_, rfl, _, _⟩ | ⟨_, _, h1, _⟩
    · simp
    · omega
  · obtain ⟨b, o, rfl, hb, hc⟩ := h.at (by omega)
    exact ⟨b, o, rfl, hb, fun j hj => hc j (by omega)⟩
theorem small_len {n : Nat} (h : n ≤ maxLen) : n ≤ 9223372036854775807 := by unfold maxLen at h; omega

theorem attr_cells : Tryz.prog.cellsOf 78 = 3 := by kernel_rfl
theorem cells1_int : Tryz.prog.cellsOf 3 = 1 := by kernel_rfl
theorem cells1_str : Tryz.prog.cellsOf 9 = 1 := by kernel_rfl
theorem cells1_ints : Tryz.prog.cellsOf 28 = 1 := by kernel_rfl
theorem cells1_strs : Tryz.prog.cellsOf 23 = 1 := by kernel_rfl

theorem row_ints {H : Type} {enc : TypeId × Value → H} {W : World} {base fuel : Nat} {hd : Bool} {cs : List Value} {x : DataW H × List MemPlace}
    (h : DataW.trod enc Tryz.prog W base (fun _ => true) hd fuel 28 cs = some x) : ∃ v zs, cs = [v] ∧ RowI W v zs ∧ zs.length ≤ 9223372036854775807 := by
  rcases open_ints Tryz.underlying28 Tryz.underlying3 (by kernel_rfl) h with ⟨hcs, _⟩ | ⟨x, l, c, zs, hcs, _, hl, hm, hz, _, hcell, hwz⟩
  · exact ⟨_, [], hcs, ⟨none, 0, rfl, Nat.le_refl _, fun h0 => absurd h0 (by simp)⟩, by simp⟩
  · have R : IsRow .i64 W (some x) l c zs := .inr ⟨_, rfl, hl, hm, by simpa using hz, hcell, hwz⟩
    exact ⟨_, zs.take l, hcs, RowI.of_isRow R, by have := R.len; have := small_len hm; omega⟩

theorem row_strs {H : Type} {enc : TypeId × Value → H} {W : World} {base fuel : Nat} {hd : Bool} {cs : List Value} {x : DataW H × List MemPlace}
    (h : DataW.trod enc Tryz.prog W base (fun _ => true) hd fuel 23 cs = some x) : ∃ v ss, cs = [v] ∧ RowS W v ss ∧ ss.length ≤ 9223372036854775807 ∧ ∀ s ∈ ss, s.size ≤ 9223372036854775807 := by
  rcases open_strs Tryz.underlying23 Tryz.underlying9 (by kernel_rfl) h with ⟨hcs, _⟩ | ⟨x, l, c, m, Sx, hcs, _, hl, hm, hmm, _, hcell⟩
  · exact ⟨_, [], hcs, ⟨none, 0, rfl, Nat.le_refl _, fun h0 => absurd h0 (by simp)⟩, by simp, fun s hs => by cases hs⟩
  · have hmc : m = c := by simpa using hmm
    subst hmc
    refine ⟨_, (List.range l).map Sx, hcs, ⟨some x, m, by simp, by simpa using hl, fun h0 => ?_⟩, by simpa using Nat.le_trans hl (small_len hm), fun s hs => ?_⟩
    · have hl0 : 0 < l := by simpa using h0
      obtain ⟨b, o, sp⟩ := x
      have hc0 := (hcell 0 (by omega)).1
      have hsp : sp = none := by simpa [Addr.add] using World.cell?_spot hc0
      subst hsp
      refine ⟨b, o, rfl, lt_of_cell (a := ⟨b, o, none⟩) (by simpa [Addr.add] using hc0), fun j hj => ?_⟩
      have hj' : j < l := by simpa using hj
      have e : (⟨b, o, none⟩ : Addr).add j = ⟨b, o + j, none⟩ := by cases j <;> simp [Addr.add]
      rw [← e, (hcell j (by omega)).1, tx_eq hj]
      simp
    · obtain ⟨j, hj, rfl⟩ := List.mem_map.1 hs
      exact small_len (hcell j (by have := List.mem_range.1 hj; omega)).2

theorem row_attr {H : Type} {enc : TypeId × Value → H} {W : World} {base fuel : Nat} {hd : Bool} {cs : List Value} {x : DataW H × List MemPlace}
    (h : DataW.trod enc Tryz.prog W base (fun _ => true) hd fuel 78 cs = some x) : ∃ (a : AttrD) (vc vv : Value), cs = [.string a.name, vc, vv] ∧ RowI W vc a.cuts ∧ RowS W vv a.vals ∧ inA a := by
  obtain ⟨y0, y1, y2, n, -, hl, t0, t1, t2⟩ := trod_struct3 Tryz.underlying78 h
  rw [attr_cells] at hl
  match cs, hl with
  | [c0, c1, c2], _ =>
    obtain ⟨s, hs, -, ws⟩ := DataW.trod_string Tryz.underlying9 t0
    obtain ⟨vc, zs, hc, rc, lc⟩ := row_ints t1
    obtain ⟨vv, ss, hv, rv, lv, ev⟩ := row_strs t2
    simp [cells1_str, cells1_ints, cells1_strs] at hs hc hv
    exact ⟨⟨s, zs, ss⟩, vc, vv, by rw [hs, hc, hv], rc, rv, small_len ws, lc, lv, ev⟩

theorem open_attr {H : Type} {enc : TypeId × Value → H} {W : World} {r : Reach} {b0 base : Nat} {hd : Bool} {v : Value} {d : DataW H} {ps : List MemPlace}
    (hval : Value.okWide Tryz.prog W r b0 78 v) (h : DataW.Trod enc Tryz.prog W base (fun _ => true) hd 78 v d ps) : ∃ a : AttrD, AttrAt W v a ∧ inA a := by
  obtain ⟨cs, rfl, hs⟩ := okWide_struct Tryz.underlying78 hval
  obtain ⟨fuel, hf⟩ := h
  obtain ⟨a, vc, vv, hc, h1, h2, h3⟩ := row_attr hf
  refine ⟨a, ⟨vc, vv, ?_, h1, h2⟩, h3⟩
  obtain ⟨l⟩ := cs
  simp [Value.cells] at hc
  rw [hc]
end Go.Proofs.YtfekcckckmhioaaGreatDoor
/- A schema that comes in to a law: what its reading says of its cells. -/
namespace Go.Proofs.YtfekcckckmhioaaGreatDoor
open Go.ChangeShapes Go.WideShapes Go.ChangeAt Go.RowKit Go.Deep
set_option maxRecDepth 100000

theorem sch_cells : Tryz.prog.cellsOf 25 = 2 := by kernel_rfl
theorem cells1_attrs : Tryz.prog.cellsOf 22 = 1 := by kernel_rfl

theorem row_attrs {H : Type} {enc : TypeId × Value → H} {W : World} {base fuel : Nat} {hd : Bool} {cs : List Value} {x : DataW H × List MemPlace}
    (h : DataW.trod enc Tryz.prog W base (fun _ => true) hd fuel 22 cs = some x) : ∃ v ls, cs = [v] ∧ RowA W v ls ∧ ls.length ≤ 9223372036854775807 ∧ ∀ a ∈ ls, inA a := by
  rcases open_slice Tryz.underlying22 h with ⟨hcs, _⟩ | ⟨x, l, c, m, n, D, Pl, hcs, _, hl, hm, hmm, _, hcell⟩
  · exact ⟨_, [], hcs, ⟨none, 0, rfl, Nat.le_refl _, fun h0 => absurd h0 (by simp)⟩, by simp, fun s hs => by cases hs⟩
  · have hmc : m = c := by simpa using hmm
    subst hmc
    have key : ∀ i, i < m → ∃ (a : AttrD), inA a ∧ ∃ vc vv, W.cell? (x.add (i * 3)) = some (.string a.name) ∧ W.cell? (x.add (i * 3 + 1)) = some vc ∧ W.cell? (x.add (i * 3 + 2)) = some vv ∧ RowI W vc a.cuts ∧ RowS W vv a.vals := by
      intro i hi
      obtain ⟨cs', hc', ht'⟩ := hcell i hi
      obtain ⟨a, vc, vv, hcs', h1, h2, h3⟩ := row_attr ht'
      rw [attr_cells, hcs'] at hc'
      have hS := World.cells?_some hc'
      have e : ∀ j, (x.add (i * 3)).add j = x.add (i * 3 + j) := fun j => add_add _ _ _
      refine ⟨a, h3, vc, vv, ?_, ?_, ?_, h1, h2⟩
      · have := hS.2.2 0 (by omega); rw [e] at this; simpa using this
      · have := hS.2.2 1 (by omega); rw [e] at this; simpa using this
      · have := hS.2.2 2 (by omega); rw [e] at this; simpa using this
    haveI : Inhabited AttrD := ⟨⟨ByteArray.empty, [], []⟩⟩
    obtain ⟨F, hF⟩ := choose_lt key
    refine ⟨_, (List.range l).map F, hcs, ⟨some x, m, by simp, by simpa using hl, fun h0 => ?_⟩, by simpa using Nat.le_trans hl (small_len hm), fun a ha => ?_⟩
    · have hl0 : 0 < l := by simpa using h0
      obtain ⟨b, o, sp⟩ := x
      obtain ⟨_, _, _, hc0, _⟩ := hF 0 (by omega)
      have hsp : sp = none := by simpa [Addr.add] using World.cell?_spot hc0
      subst hsp
      refine ⟨b, o, rfl, lt_of_cell (a := ⟨b, o, none⟩) (by simpa [Addr.add] using hc0), fun j hj => ?_⟩
      have hj' : j < l := by simpa using hj
      have e : ∀ i, (⟨b, o, none⟩ : Addr).add i = ⟨b, o + i, none⟩ := by intro i; cases i <;> simp [Addr.add]
      have ea : ad ((List.range l).map F) j = F j := by rw [ad_eq hj]; simp
      obtain ⟨_, vc, vv, h1, h2, h3, h4, h5⟩ := hF j (by omega)
      rw [ea]
      rw [e] at h1 h2 h3
      exact ⟨vc, vv, h1, by rw [Nat.add_assoc]; exact h2, by rw [Nat.add_assoc]; exact h3, h4, h5⟩
    · obtain ⟨j, hj, rfl⟩ := List.mem_map.1 ha
      exact (hF j (by have := List.mem_range.1 hj; omega)).1

theorem open_schema {H : Type} {enc : TypeId × Value → H} {W : World} {r : Reach} {b0 base : Nat} {hd : Bool} {v : Value} {d : DataW H} {ps : List MemPlace}
    (hval : Value.okWide Tryz.prog W r b0 25 v) (h : DataW.Trod enc Tryz.prog W base (fun _ => true) hd 25 v d ps) : ∃ a : SchemaD, SchemaAt W v a ∧ inS a := by
  obtain ⟨cs, rfl, hs⟩ := okWide_struct Tryz.underlying25 hval
  obtain ⟨fuel, hf⟩ := h
  obtain ⟨y0, y1, n, -, hl, t0, t1⟩ := trod_struct2 Tryz.underlying25 hf
  rw [sch_cells] at hl
  obtain ⟨l⟩ := cs
  simp [Value.cells] at hl t0 t1
  match l, hl with
  | [c0, c1], _ =>
    obtain ⟨va, ls, ha, ra, la, ea⟩ := row_attrs t0
    obtain ⟨vv, ss, hv, rv, lv, ev⟩ := row_strs t1
    simp [cells1_attrs, cells1_strs] at ha hv
    exact ⟨⟨ls, ss⟩, ⟨va, vv, by rw [ha, hv], ra, rv⟩, la, ea, lv, ev⟩
end Go.Proofs.YtfekcckckmhioaaGreatDoor
