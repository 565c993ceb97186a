/- Texts of this claim, put together: part 21. -/
import Derived.Test.YtmdmplphendpcaaFnAnyOrderPack20
import Derived.Test.YtmdmplphendpcaaFnAnyOrderPack8
import Derived.Test.YtmdmplphendpcaaFnAnyOrderPack6
/- What the laws' own helpers do with counts as a whole. -/
namespace Go.Proofs.Ytmdmplphendpcaa
open Go.RowKit
set_option maxRecDepth 100000
set_option linter.unusedSimpArgs false
structure inSt (t : StatsD) : Prop where
  totals : t.totals.length ≤ 9223372036854775807
  cells : t.cells.length ≤ 9223372036854775807
  each : ∀ c ∈ t.cells, c.length ≤ 9223372036854775807
structure fitSt (t : StatsD) : Prop where
  totals : t.totals.length ≤ 1048576
  cells : t.cells.length ≤ 1048576
  each : ∀ c ∈ t.cells, c.length ≤ 1048576
theorem fitSt.ok {t : StatsD} (h : fitSt t) : okSt t := ⟨by have := h.totals; omega, by have := h.cells; omega, fun c hc => by have := h.each c hc; omega⟩
set_option maxHeartbeats 800000 in
theorem toStats_row (v : Value) (a : StatsD) (w : World) (h : StatsAt w v a) (hf : fitSt a) :
    Calls Try.prog 33 #[v] w fun e w' => ∃ v', e = .returned v' ∧ OwnSt w.heap.size w' v' a ∧ Below w.heap.size w w' := by
  obtain ⟨vc, vv, rfl, hc, hv⟩ := h
  have HC : Hid (RowI w vc a.totals) := hc
  have HV : Hid (RowII w vv a.cells) := hv
  clear hc hv
  go_enter Try.func33, Try.ntmps33
  go_wp2_with fail
  obtain ⟨K1, K2, K3, B0⟩ := blk_3 57 31 31 w #[vc, vv] #[.slice none 0 0, .slice none 0 0] #[.slice none 0 0, .slice none 0 0]
  refine (toI_row vc a.totals _ (HC.out.later B0) hf.totals).mono ?_
  rintro e w1 ⟨g1, rfl, ho1, hb1⟩
  replace K1 := K1.below hb1
  replace K2 := K2.below hb1
  replace K3 := K3.below hb1
  have hsz := hb1.size
  simp at hsz
  have ho1 := own_base ho1 (b' := w.heap.size + 3) (by simp)
  have HLB : Hid (∀ b, (Value.slice (some ⟨g1, 0, none⟩) a.totals.length a.totals.length).ownBlock = some b → b < w1.heap.size) := fun b hb => (ho1.lt b hb).2
  have B1 : Below w.heap.size w w1 := B0.trans (hb1.mono (by simp; omega))
  clear hb1 B0
  generalize hV1 : Value.slice (some ⟨g1, 0, none⟩) a.totals.length a.totals.length = V1 at ho1 HLB
  have c3 : w1.cell? ⟨w.heap.size + 1 + 1, 0, none⟩ = some (.slice none 0 0) := K3.cell 0
  have f3 := K3.frozen 0
  have S1 := K1.setCell_other ⟨w.heap.size + 1 + 1, 0, none⟩ V1 (by simp; omega)
  have S2 := K2.setCell_other ⟨w.heap.size + 1 + 1, 0, none⟩ V1 (by simp)
  have S3 := K3.setCell 0 V1
  have B2 : Below w.heap.size w (w1.setCell ⟨w.heap.size + 1 + 1, 0, none⟩ V1) := B1.setCell (p := ⟨w.heap.size + 1 + 1, 0, none⟩) (by simp; omega) _
  have hsz2 : (w1.setCell ⟨w.heap.size + 1 + 1, 0, none⟩ V1).heap.size = w1.heap.size := by simp [World.setCell]
  have O1 := own_setCell ho1 ⟨w.heap.size + 1 + 1, 0, none⟩ V1 (by simp)
  have cS : (w1.setCell ⟨w.heap.size + 1 + 1, 0, none⟩ V1).cell? ⟨w.heap.size, 1, none⟩ = some vv := S1.cell 1
  subst hV1
  have HO1 : Hid ((w1.setCell ⟨w.heap.size + 1 + 1, 0, none⟩ (.slice (some ⟨g1, 0, none⟩) a.totals.length a.totals.length)).ownsRow (w.heap.size + 3) 3 1 (.slice (some ⟨g1, 0, none⟩) a.totals.length a.totals.length) a.totals.length (a.totals.map (Value.int .i64))) := O1
  have HS : Hid (Blk 31 (w1.setCell ⟨w.heap.size + 1 + 1, 0, none⟩ (.slice (some ⟨g1, 0, none⟩) a.totals.length a.totals.length)) (w.heap.size + 1) #[.slice none 0 0, .slice none 0 0] ∧ Blk 31 (w1.setCell ⟨w.heap.size + 1 + 1, 0, none⟩ (.slice (some ⟨g1, 0, none⟩) a.totals.length a.totals.length)) (w.heap.size + 1 + 1) #[(.slice (some ⟨g1, 0, none⟩) a.totals.length a.totals.length), .slice none 0 0] ∧ Below w.heap.size w (w1.setCell ⟨w.heap.size + 1 + 1, 0, none⟩ (.slice (some ⟨g1, 0, none⟩) a.totals.length a.totals.length))) := ⟨S2, S3, B2⟩
  clear K1 K2 K3 S1 S2 S3 B2 O1 ho1 B1
  go_wp2_with fail
  clear c3 f3
  refine (toII_row vv a.cells _ (HV.out.later HS.out.2.2) hf.cells hf.each).mono ?_
  rintro e w2 ⟨g2, L, ys, rfl, ho2, hb2⟩
  have O1 := own_below HO1.out hb2
  obtain ⟨S2, S3, B2⟩ := HS.out
  replace S2 := S2.below hb2
  replace S3 := S3.below hb2
  have B3 := B2.trans (hb2.mono B2.size)
  have hsz3 := hb2.size
  have HO2B : Hid (∀ j, j < a.cells.length → ∀ b, (L j).ownBlock = some b → w1.heap.size ≤ b) := fun j hj b hb => by have := ((ho2.ints j hj).lt b hb).1; rw [hsz2] at this; exact this
  have ho2 := ho2.base (b' := w.heap.size + 3) (by omega)
  clear HS HO1 HC HV hb2 B2
  have c3 : w2.cell? ⟨w.heap.size + 1 + 1, 1, none⟩ = some (.slice none 0 0) := S3.cell 1
  have f3 := S3.frozen 1
  have T2 := S2.setCell_other ⟨w.heap.size + 1 + 1, 1, none⟩ (.slice (some ⟨g2, 0, none⟩) a.cells.length a.cells.length) (by simp)
  have T3 := S3.setCell 1 (.slice (some ⟨g2, 0, none⟩) a.cells.length a.cells.length)
  have B4 : Below w.heap.size w (w2.setCell ⟨w.heap.size + 1 + 1, 1, none⟩ (.slice (some ⟨g2, 0, none⟩) a.cells.length a.cells.length)) := B3.setCell (p := ⟨w.heap.size + 1 + 1, 1, none⟩) (by simp; omega) _
  have O1 := own_setCell O1 ⟨w.heap.size + 1 + 1, 1, none⟩ (.slice (some ⟨g2, 0, none⟩) a.cells.length a.cells.length) (by simp)
  have O2 := ho2.setCell ⟨w.heap.size + 1 + 1, 1, none⟩ (.slice (some ⟨g2, 0, none⟩) a.cells.length a.cells.length) (by simp)
  have HT : Hid (Below w.heap.size w (w2.setCell ⟨w.heap.size + 1 + 1, 1, none⟩ (.slice (some ⟨g2, 0, none⟩) a.cells.length a.cells.length)) ∧ (w2.setCell ⟨w.heap.size + 1 + 1, 1, none⟩ (.slice (some ⟨g2, 0, none⟩) a.cells.length a.cells.length)).ownsRow (w.heap.size + 3) 3 1 (.slice (some ⟨g1, 0, none⟩) a.totals.length a.totals.length) a.totals.length (a.totals.map (Value.int .i64)) ∧ SepII (w.heap.size + 3) (w2.setCell ⟨w.heap.size + 1 + 1, 1, none⟩ (.slice (some ⟨g2, 0, none⟩) a.cells.length a.cells.length)) (.slice (some ⟨g2, 0, none⟩) a.cells.length a.cells.length) L ys a.cells a.cells.length) := ⟨B4, O1, O2⟩
  have HT2 : Hid (Blk 31 (w2.setCell ⟨w.heap.size + 1 + 1, 1, none⟩ (.slice (some ⟨g2, 0, none⟩) a.cells.length a.cells.length)) (w.heap.size + 1) #[.slice none 0 0, .slice none 0 0] ∧ Blk 31 (w2.setCell ⟨w.heap.size + 1 + 1, 1, none⟩ (.slice (some ⟨g2, 0, none⟩) a.cells.length a.cells.length)) (w.heap.size + 1 + 1) #[(.slice (some ⟨g1, 0, none⟩) a.totals.length a.totals.length), (.slice (some ⟨g2, 0, none⟩) a.cells.length a.cells.length)]) := ⟨T2, T3⟩
  clear S2 S3 T2 T3 B4 O1 O2 ho2 B3
  go_wp2_with (first | (with_reducible refine wp_st_load rfl _ rfl ?_; refine ⟨_, rfl, _, _, HT2.out.2, ?_⟩) | (with_reducible refine wp_st_store rfl _ _ rfl ?_; refine ⟨_, rfl, _, _, _, _, _, _, rfl, _, _, HT2.out.1, ?_⟩))
  refine bodyPost_ret (res_st Try.results33 _ _ _ _ _ rfl (HT2.out.1.setRow _)) rfl ⟨_, rfl, ⟨_, _, L, ys, rfl, ?_, ?_, fun j c b hj hc hb => ?_⟩, ?_⟩
  · exact own_base (own_setRow HT.out.2.1 _ _ (by omega)) (by omega)
  · exact (HT.out.2.2.setRow _ _ (by omega)).base (by omega)
  · have h1 := HO2B.out j hj b hb
    have h2 := HLB.out c hc
    omega
  · exact below_row HT.out.1 (by omega) _
theorem eqStats_row (va vb : Value) (a : StatsD) (w : World) (ha : StatsAt w va a) (hb : StatsAt w vb a) (hn : okSt a) :
    Calls Try.prog 27 #[va, vb] w fun e w' => e = .returned (.bool true) ∧ Below w.heap.size w w' := by
  obtain ⟨ca, sa, rfl, ha1, ha2⟩ := ha
  obtain ⟨cb, sb, rfl, hb1, hb2⟩ := hb
  have HA : Hid (RowI w ca a.totals ∧ RowII w sa a.cells ∧ RowI w cb a.totals ∧ RowII w sb a.cells ∧ okSt a) := ⟨ha1, ha2, hb1, hb2, hn⟩
  clear ha1 ha2 hb1 hb2 hn
  go_enter Try.func27, Try.ntmps27
  go_wp2_with fail
  obtain ⟨K1, K2, B0⟩ := blk_2 31 31 w #[ca, sa] #[cb, sb]
  obtain ⟨h1, h2, h3, h4, hn⟩ := HA.out
  refine (eqI_row ca cb a.totals _ (h1.later B0) (h3.later B0) hn.totals).mono ?_
  rintro e w1 ⟨rfl, hb1⟩
  have B1 := B0.trans (hb1.mono (by simp; omega))
  have k1 : w1.cell? ⟨w.heap.size, 1, none⟩ = some sa := (K1.below hb1).cell 1
  have k2 : w1.cell? ⟨w.heap.size + 1, 1, none⟩ = some sb := (K2.below hb1).cell 1
  have h2 := h2.later B1
  have h4 := h4.later B1
  clear HA h1 h3 K1 K2 B0 hb1
  go_wp2_with fail
  refine (eqII_row sa sb a.cells _ h2 h4 hn.cells hn.each).mono ?_
  rintro e w2 ⟨rfl, hb2⟩
  clear h2 h4 k1 k2 hn
  go_wp2
  go_ret
  exact ⟨rfl, B1.trans (hb2.mono B1.size)⟩
set_option maxHeartbeats 400000 in
theorem szStats_row (v : Value) (a : StatsD) (left : Int) (w : World) (h : StatsAt w v a) (hn : inSt a) (h0 : 0 ≤ left) (h1 : left ≤ 1048576) :
    Calls Try.prog 32 #[v, .int .i64 left] w fun e w' => ∃ r : Int, e = .returned (.int .i64 r) ∧ ((0 ≤ r ∧ r ≤ left ∧ fitSt a) ∨ r = -1) ∧ Below w.heap.size w w' := by
  obtain ⟨vc, vv, rfl, hc, hv⟩ := h
  obtain ⟨oc, cc, rfl, hcc, hcr⟩ := hc
  have HO : Hid (inSt a) := hn
  have HV : Hid (RowII w vv a.cells) := hv
  clear hv hcr hn
  go_enter Try.func32, Try.ntmps32
  go_wp2_with fail
  obtain ⟨K, B0⟩ := blk_1 57 w #[.slice oc a.totals.length cc, vv]
  refine (szI_any oc a.totals.length cc _ _ HO.out.totals (by omega) (by omega)).mono ?_
  rintro e w1 ⟨r, rfl, hr, hb1⟩
  have B1 := B0.trans (hb1.mono (by simp))
  have k2 : w1.cell? ⟨w.heap.size, 1, none⟩ = some vv := (K.below hb1).cell 1
  clear K B0 hb1
  rcases hr with ⟨r0, r1, r2⟩ | rfl
  · go_wp2_with fail
    refine (szII_row vv a.cells r w1 (HV.out.later B1) HO.out.cells HO.out.each (by omega) (by omega)).mono ?_
    rintro e w2 ⟨r', rfl, hr', hb2⟩
    clear k2
    have B2 := B1.trans (hb2.mono B1.size)
    rcases hr' with ⟨q0, q1, q2, q3⟩ | rfl
    · have HQ : Hid (∀ s ∈ a.cells, (s.length : Int) ≤ r) := q3
      clear q3
      go_wp2
      go_ret
      refine ⟨_, rfl, .inl ⟨q0, by omega, ⟨by omega, by omega, fun s hs => ?_⟩⟩, B2⟩
      have := HQ.out s hs
      omega
    · go_wp2
      go_ret
      exact ⟨_, rfl, .inr rfl, B2⟩
  · go_wp2
    go_ret
    exact ⟨_, rfl, .inr rfl, B1⟩
end Go.Proofs.Ytmdmplphendpcaa
/- What the law writes over a list of integers, and looks at again. -/
namespace Go.Proofs.Ytmdmplphendpcaa
open Go.RowKit
set_option maxRecDepth 100000

def mkI (k : Int) : Value := .int .i64 (k)

set_option maxHeartbeats 400000 in
theorem markI_pos (g n cap base : Nat) (k0 : Int) (xs : List Value) (w : World) (hn : n ≤ 140737488351232) (h0 : 0 ≤ k0) (h1 : k0 ≤ 140737488351232)
    (ho : w.ownsRow base 3 1 (.slice (some ⟨g, 0, none⟩) n cap) n xs) :
    Calls Try.prog 73 #[.slice (some ⟨g, 0, none⟩) n cap, .int .i64 k0] w fun e w' => e = .returned (.int .i64 (k0 + n)) ∧ (∃ ys, w'.ownsRow base 3 1 (.slice (some ⟨g, 0, none⟩) n cap) n ys ∧ ∀ j, j < n → ys[j]? = some (mkI (k0 + j))) ∧ w.grownBy w' (some g) := by
  go_enter Try.func73, Try.ntmps73
  go_wp2
  go_loopw [1, 5] (fun kk i wr => ∃ (k : Nat) (ys : List Value), i = .int .i64 k ∧ kk = .int .i64 (k0 + k) ∧ k ≤ n ∧ wr.ownsRow base 3 1 (.slice (some ⟨g, 0, none⟩) n cap) n ys ∧ (∀ j, j < k → ys[j]? = some (mkI (k0 + j))) ∧ w.grownBy wr (some g)) (fun _ i _ => n - (intOf i).toNat)
  case atStart => exact ⟨0, xs, rfl, by simp, by omega, ho, by omega, World.grownBy.refl _ _⟩
  case round =>
    obtain ⟨k, ys, rfl, rfl, hk, hown, hys, hgr⟩ := hrel
    by_cases hlt : k < n
    · have hlen : ys.length = n := by have := hown.1; omega
      have hc : wr.cell? ⟨g, k, none⟩ = some (ys[k]'(by omega)) := by rw [hown.cellAt k (by omega)]; exact List.getElem?_eq_getElem _
      have hf : wr.frozen? ⟨g, k, none⟩ = false := hown.frozenAt k
      go_wp2
      go_roundw
      case rel =>
        have hs := hown.stored k (mkI (k0 + k))
        refine ⟨k + 1, _, by go_num, by go_num, by omega, hs.1, ?_, grownBy_trans hgr hs.2⟩
        intro j hj
        rw [List.getElem?_set]
        by_cases e : k = j
        · subst e; rw [if_pos rfl, if_pos (by omega)]
        · rw [if_neg e]; exact hys j (by omega)
      case measure => simp [intOf]; omega
    · go_wp2
      go_ret
      exact ⟨ret_int (by omega), ⟨ys, hown, fun j hj => hys j (by omega)⟩, hgr⟩

set_option maxHeartbeats 400000 in
theorem heldI_pos (g n cap base : Nat) (k0 : Int) (ys : List Value) (w : World) (hn : n ≤ 140737488351232) (h0 : 0 ≤ k0) (h1 : k0 ≤ 140737488351232)
    (ho : w.ownsRow base 3 1 (.slice (some ⟨g, 0, none⟩) n cap) n ys) (hys : ∀ j, j < n → ys[j]? = some (mkI (k0 + j))) :
    Calls Try.prog 75 #[.slice (some ⟨g, 0, none⟩) n cap, .int .i64 k0] w fun e w' => e = .returned (.int .i64 (k0 + n)) ∧ w' = w := by
  go_enter Try.func75, Try.ntmps75
  go_wp2
  go_loop [1, 5] (fun kk i => ∃ k : Nat, i = .int .i64 k ∧ kk = .int .i64 (k0 + k) ∧ k ≤ n) (fun _ i => n - (intOf i).toNat)
  case atStart => exact ⟨0, rfl, by simp, by omega⟩
  case round =>
    obtain ⟨k, rfl, rfl, hk⟩ := hrel
    by_cases hlt : k < n
    · have hc : w.cell? ⟨g, k, none⟩ = some (.int .i64 ((k0 + k))) := by rw [ho.cellAt k (by omega)]; exact hys k hlt
      clear hys
      go_wp2
      go_round
      case rel => exact ⟨k + 1, by go_num, by go_num, by omega⟩
      case measure => simp [intOf]; omega
    · go_wp2
      go_ret
      exact ⟨ret_int (by omega), rfl⟩

theorem markI_zero (k0 : Int) (w : World) : Calls Try.prog 73 #[.slice none 0 0, .int .i64 k0] w fun e w' => e = .returned (.int .i64 k0) ∧ w' = w := by
  go_enter Try.func73, Try.ntmps73
  go_wp2
  refine wp_loop_rounds 1 ?_
  rw [rounds_succ]
  go_wp2
  go_ret
  exact ⟨rfl, rfl⟩

theorem heldI_zero (k0 : Int) (w : World) : Calls Try.prog 75 #[.slice none 0 0, .int .i64 k0] w fun e w' => e = .returned (.int .i64 k0) ∧ w' = w := by
  go_enter Try.func75, Try.ntmps75
  go_wp2
  refine wp_loop_rounds 1 ?_
  rw [rounds_succ]
  go_wp2
  go_ret
  exact ⟨rfl, rfl⟩

theorem markI_any (n base : Nat) (v : Value) (k0 : Int) (xs : List Value) (w : World) (hn : n ≤ 140737488351232) (h0 : 0 ≤ k0) (h1 : k0 ≤ 140737488351232) (ho : w.ownsRow base 3 1 v n xs) :
    Calls Try.prog 73 #[v, .int .i64 k0] w fun e w' => e = .returned (.int .i64 (k0 + n)) ∧ (∃ ys, w'.ownsRow base 3 1 v n ys ∧ ∀ j, j < n → ys[j]? = some (mkI (k0 + j))) ∧ w.grownBy w' v.ownBlock := by
  rcases ho.2 with ⟨rfl, rfl⟩ | ⟨g, cap, cur, rfl, _⟩
  · refine (markI_zero k0 w).mono fun e w' ⟨he, hw⟩ => ?_
    subst he hw
    exact ⟨ret_int (by omega), ⟨xs, ho, by omega⟩, World.grownBy.refl _ _⟩
  · exact markI_pos g n cap base k0 xs w hn h0 h1 ho

theorem heldI_any (n base : Nat) (v : Value) (k0 : Int) (ys : List Value) (w : World) (hn : n ≤ 140737488351232) (h0 : 0 ≤ k0) (h1 : k0 ≤ 140737488351232) (ho : w.ownsRow base 3 1 v n ys) (hys : ∀ j, j < n → ys[j]? = some (mkI (k0 + j))) :
    Calls Try.prog 75 #[v, .int .i64 k0] w fun e w' => e = .returned (.int .i64 (k0 + n)) ∧ w' = w := by
  rcases ho.2 with ⟨rfl, rfl⟩ | ⟨g, cap, cur, rfl, _⟩
  · refine (heldI_zero k0 w).mono fun e w' ⟨he, hw⟩ => ?_
    subst he hw
    exact ⟨ret_int (by omega), rfl⟩
  · exact heldI_pos g n cap base k0 ys w hn h0 h1 ho hys
/-- Two rows apart: the one was there ahead of the other's memory; the other way round. -/
theorem apart' {w : World} {v v' : Value} {b b' n n' e e' B : Nat} {xs xs' : List Value} (_h : w.ownsRow b e 1 v n xs) (h' : w.ownsRow b' e' 1 v' n' xs') (hb : ∀ k, v.ownBlock = some k → k < B) (hB : B ≤ b' := by omega) : v.ownBlock = none ∨ v.ownBlock ≠ v'.ownBlock :=
  apart _h h' fun k hk => Nat.lt_of_lt_of_le (hb k hk) hB
theorem apart2 {w : World} {v v' : Value} {b b' n n' e e' B : Nat} {xs xs' : List Value} (h : w.ownsRow b e 1 v n xs) (_h' : w.ownsRow b' e' 1 v' n' xs') (hb : ∀ k, v'.ownBlock = some k → k < B) (hB : B ≤ b := by omega) : v.ownBlock = none ∨ v.ownBlock ≠ v'.ownBlock := by
  cases ev : v.ownBlock with
  | none => exact .inl rfl
  | some k =>
    refine .inr fun e' => ?_
    have h1 := hb k e'.symm
    have h2 := (h.lt k ev).1
    omega
end Go.Proofs.Ytmdmplphendpcaa
/- What the laws' own helpers write over counts, and look at again. -/
namespace Go.Proofs.Ytmdmplphendpcaa
open Go.RowKit
set_option maxRecDepth 100000
set_option linter.unusedSimpArgs false
/-- The number of the first mark of the j-th list. -/
def mkC (k0 : Nat) (p : Nat → Nat) : Nat → Nat
  | 0 => k0
  | j + 1 => mkC k0 p j + p j
theorem mkC_mono {k0 : Nat} {p : Nat → Nat} {i j : Nat} (h : i ≤ j) : mkC k0 p i ≤ mkC k0 p j := by
  induction j with
  | zero => obtain rfl : i = 0 := by omega
            exact Nat.le_refl _
  | succ j ih =>
    by_cases e : i = j + 1
    · subst e; exact Nat.le_refl _
    · have := ih (by omega); simp only [mkC]; omega
def lenL (cs : List (List Int)) (j : Nat) : Nat := (il cs j).length
/-- Lists of numbers, the first i of them marked. -/
structure RowsM (base : Nat) (w : World) (L : Nat → Value) (p K : Nat → Nat) (n i : Nat) : Prop where
  ints : ∀ j, j < n → ∃ xs, w.ownsRow base 3 1 (L j) (p j) xs ∧ (j < i → ∀ t, t < p j → xs[t]? = some (mkI ((K j : Int) + t)))
theorem RowsM.below {base : Nat} {w w' : World} {L : Nat → Value} {p K : Nat → Nat} {n i : Nat} (h : RowsM base w L p K n i) (hb : Below w.heap.size w w') : RowsM base w' L p K n i :=
  ⟨fun j hj => by obtain ⟨xs, a, b⟩ := h.ints j hj; exact ⟨xs, own_below a hb, b⟩⟩
theorem RowsM.kept {base : Nat} {w w' : World} {L : Nat → Value} {p K : Nat → Nat} {n i : Nat} {r : Option Nat} (h : RowsM base w L p K n i) (hg : w.grownBy w' r) (h1 : ∀ j, j < n → (L j).ownBlock = none ∨ (L j).ownBlock ≠ r) : RowsM base w' L p K n i :=
  ⟨fun j hj => by obtain ⟨xs, a, b⟩ := h.ints j hj; exact ⟨xs, a.kept hg (h1 j hj), b⟩⟩
def OrdL (L : Nat → Value) (n : Nat) : Prop := ∀ i j, i < n → j < n → i ≠ j → (L i).ownBlock = none ∨ (L i).ownBlock ≠ (L j).ownBlock
theorem SepII.ordL {base : Nat} {w : World} {v : Value} {L : Nat → Value} {ys : List Value} {cs : List (List Int)} {n : Nat} (h : SepII base w v L ys cs n) : OrdL L n := fun i j hi hj hne => ne_of_ord fun a b ha hb => by
  rcases Nat.lt_or_gt_of_ne hne with h1 | h1
  · have := h.ord i j a b h1 hj ha hb; omega
  · have := h.ord j i b a h1 hi hb ha; omega
theorem RowsM.mark {base : Nat} {w w' : World} {L : Nat → Value} {p K : Nat → Nat} {n i : Nat} (h : RowsM base w L p K n i) (hO : OrdL L n) (hi : i < n) (hg : w.grownBy w' (L i).ownBlock)
    {ys : List Value} (ho : w'.ownsRow base 3 1 (L i) (p i) ys) (hys : ∀ t, t < p i → ys[t]? = some (mkI ((K i : Int) + t))) : RowsM base w' L p K n (i + 1) := by
  refine ⟨fun j hj => ?_⟩
  by_cases e : j = i
  · subst e; exact ⟨ys, ho, fun _ => hys⟩
  · obtain ⟨xs, a, b⟩ := h.ints j hj
    exact ⟨xs, a.kept hg (hO j i hj hi e), fun hlt => b (by omega)⟩
/-- The blocks that the marks may turn. -/
def InII (L : Nat → Value) (n : Nat) (k : Nat) : Prop := ∃ j, j < n ∧ (L j).ownBlock = some k
set_option maxHeartbeats 800000 in
theorem markII_pos (g cap n base k0 : Nat) (L : Nat → Value) (p : Nat → Nat) (ys : List Value) (w : World) (hrow : w.ownsRow base 28 1 (.slice (some ⟨g, 0, none⟩) n cap) n ys) (hcells : ∀ j, j < n → ys[j]? = some (L j)) (hR : RowsM base w L p (mkC k0 p) n 0) (hO : OrdL L n)
    (hn : n ≤ 1048576) (hK : mkC k0 p n ≤ 35184372088832) :
    Calls Try.prog 74 #[.slice (some ⟨g, 0, none⟩) n cap, .int .i64 (k0 : Int)] w fun e w' => e = .returned (.int .i64 ((mkC k0 p n : Nat) : Int)) ∧ w'.ownsRow base 28 1 (.slice (some ⟨g, 0, none⟩) n cap) n ys ∧ RowsM base w' L p (mkC k0 p) n n ∧ GrownS w w' (InII L n) := by
  have HO : Hid (OrdL L n) := hO
  have HC : Hid (∀ j, j < n → ys[j]? = some (L j)) := hcells
  have HM : Hid (∀ i, i < n → mkC k0 p i + p i ≤ 35184372088832) := fun i hi => by
    have := mkC_mono (k0 := k0) (p := p) (show i + 1 ≤ n by omega)
    simp only [mkC] at this
    omega
  have HW : Hid (w.ownsRow base 28 1 (.slice (some ⟨g, 0, none⟩) n cap) n ys ∧ RowsM base w L p (mkC k0 p) n 0) := ⟨hrow, hR⟩
  clear hO hcells hrow hR
  go_enter Try.func74, Try.ntmps74
  go_wp2
  go_loopw [1, 5] (fun kv i wr => ∃ q : Nat, i = .int .i64 q ∧ q ≤ n ∧ kv = .int .i64 ((mkC k0 p q : Nat) : Int) ∧ wr.ownsRow base 28 1 (.slice (some ⟨g, 0, none⟩) n cap) n ys ∧ RowsM base wr L p (mkC k0 p) n q ∧ GrownS w wr (InII L n)) (fun _ i _ => n - (intOf i).toNat)
  case atStart => exact ⟨0, rfl, by omega, rfl, HW.out.1, HW.out.2, GrownS.refl _ _⟩
  case round =>
    obtain ⟨q, rfl, hq, rfl, hown, hrows, hgr⟩ := hrel
    by_cases hlt : q < n
    · obtain ⟨xs, hx, -⟩ := hrows.ints q hlt
      obtain ⟨ol, cl, hL⟩ := own_slice hx
      have hcell : wr.cell? ⟨g, q, none⟩ = some (.slice ol (p q) cl) := by rw [hown.cellAt q (by omega), HC.out q hlt, hL]
      have hmq := HM.out q hlt
      have e1 := markI_any (p q) base (L q) ((mkC k0 p q : Nat) : Int) xs wr (by omega) (by omega) (by omega) hx
      rw [hL] at e1
      have HX : Hid (wr.ownsRow base 28 1 (.slice (some ⟨g, 0, none⟩) n cap) n ys ∧ RowsM base wr L p (mkC k0 p) n q ∧ GrownS w wr (InII L n) ∧ wr.ownsRow base 3 1 (L q) (p q) xs) := ⟨hown, hrows, hgr, hx⟩
      have HL : Hid (L q = .slice ol (p q) cl) := hL
      clear hown hrows hgr hx hL
      go_wp2_with fail
      refine e1.mono ?_
      clear e1
      rintro e w1 ⟨rfl, ⟨zs, hz, hzs⟩, hg1⟩
      obtain ⟨hown, hrows, hgr, hx⟩ := HX.out
      rw [← HL.out] at hz hg1
      have own1 := hown.kept hg1 (apart_ty hown hx (by decide))
      have rows1 := hrows.mark HO.out hlt hg1 hz hzs
      have gr1 := hgr.grown hg1 (fun j hj => .inl ⟨q, hlt, hj⟩)
      have HY : Hid (w1.ownsRow base 28 1 (.slice (some ⟨g, 0, none⟩) n cap) n ys ∧ RowsM base w1 L p (mkC k0 p) n (q + 1) ∧ GrownS w w1 (InII L n)) := ⟨own1, rows1, gr1⟩
      have HK2 : Hid (((mkC k0 p (q + 1) : Nat) : Int) = ((mkC k0 p q : Nat) : Int) + (p q : Int)) := by simp only [mkC]; exact Int.natCast_add _ _
      clear own1 rows1 gr1 hown hrows hgr hx hz hzs hg1 HX
      go_wp2
      go_roundw
      case rel => exact ⟨q + 1, by go_num, by omega, by rw [HK2.out], HY.out.1, HY.out.2.1, HY.out.2.2⟩
      case measure => simp [intOf]; omega
    · obtain rfl : q = n := by omega
      have HX : Hid (wr.ownsRow base 28 1 (.slice (some ⟨g, 0, none⟩) q cap) q ys ∧ RowsM base wr L p (mkC k0 p) q q ∧ GrownS w wr (InII L q)) := ⟨hown, hrows, hgr⟩
      clear hown hrows hgr
      go_wp2
      go_ret
      exact ⟨rfl, HX.out.1, HX.out.2.1, HX.out.2.2⟩
end Go.Proofs.Ytmdmplphendpcaa
/- What the laws' own helpers look at again over counts. -/
namespace Go.Proofs.Ytmdmplphendpcaa
open Go.RowKit
set_option maxRecDepth 100000
set_option linter.unusedSimpArgs false
set_option maxHeartbeats 800000 in
theorem heldII_pos (g cap n base k0 : Nat) (L : Nat → Value) (p : Nat → Nat) (ys : List Value) (w : World) (hrow : w.ownsRow base 28 1 (.slice (some ⟨g, 0, none⟩) n cap) n ys) (hcells : ∀ j, j < n → ys[j]? = some (L j)) (hR : RowsM base w L p (mkC k0 p) n n)
    (hn : n ≤ 1048576) (hK : mkC k0 p n ≤ 35184372088832) :
    Calls Try.prog 76 #[.slice (some ⟨g, 0, none⟩) n cap, .int .i64 (k0 : Int)] w fun e w' => e = .returned (.int .i64 ((mkC k0 p n : Nat) : Int)) ∧ w' = w := by
  have HM : Hid (∀ i, i < n → mkC k0 p i + p i ≤ 35184372088832) := fun i hi => by
    have := mkC_mono (k0 := k0) (p := p) (show i + 1 ≤ n by omega)
    simp only [mkC] at this
    omega
  have HW : Hid (w.ownsRow base 28 1 (.slice (some ⟨g, 0, none⟩) n cap) n ys ∧ RowsM base w L p (mkC k0 p) n n ∧ ∀ j, j < n → ys[j]? = some (L j)) := ⟨hrow, hR, hcells⟩
  clear hcells hrow hR
  go_enter Try.func76, Try.ntmps76
  go_wp2
  go_loop [1, 5] (fun kv i => ∃ q : Nat, i = .int .i64 q ∧ q ≤ n ∧ kv = .int .i64 ((mkC k0 p q : Nat) : Int)) (fun _ i => n - (intOf i).toNat)
  case atStart => exact ⟨0, rfl, by omega, rfl⟩
  case round =>
    obtain ⟨q, rfl, hq, rfl⟩ := hrel
    by_cases hlt : q < n
    · obtain ⟨hown, hrows, hcs⟩ := HW.out
      obtain ⟨xs, hx, hm⟩ := hrows.ints q hlt
      obtain ⟨ol, cl, hL⟩ := own_slice hx
      have hcell : w.cell? ⟨g, q, none⟩ = some (.slice ol (p q) cl) := by rw [hown.cellAt q (by omega), hcs q hlt, hL]
      have hmq := HM.out q hlt
      have e1 := heldI_any (p q) base (L q) ((mkC k0 p q : Nat) : Int) xs w (by omega) (by omega) (by omega) hx (hm hlt)
      rw [hL] at e1
      have HK2 : Hid (((mkC k0 p (q + 1) : Nat) : Int) = ((mkC k0 p q : Nat) : Int) + (p q : Int)) := by simp only [mkC]; exact Int.natCast_add _ _
      have n1 : ¬ ((mkC k0 p q : Nat) : Int) + (p q : Int) < 0 := by omega
      clear hown hrows hcs hx hm hL
      go_wp2_with fail
      refine e1.mono ?_
      clear e1
      rintro e w1 ⟨rfl, rfl⟩
      go_wp2
      go_round
      case rel => exact ⟨q + 1, by go_num, by omega, by rw [HK2.out]⟩
      case measure => simp [intOf]; omega
    · obtain rfl : q = n := by omega
      go_wp2
      go_ret
      exact ⟨rfl, rfl⟩
theorem markII_zero (k0 : Int) (w : World) : Calls Try.prog 74 #[.slice none 0 0, .int .i64 k0] w fun e w' => e = .returned (.int .i64 k0) ∧ w' = w := by
  go_enter Try.func74, Try.ntmps74
  go_wp2
  refine wp_loop_rounds 1 ?_
  rw [rounds_succ]
  go_wp2
  go_ret
  exact ⟨rfl, rfl⟩
theorem heldII_zero (k0 : Int) (w : World) : Calls Try.prog 76 #[.slice none 0 0, .int .i64 k0] w fun e w' => e = .returned (.int .i64 k0) ∧ w' = w := by
  go_enter Try.func76, Try.ntmps76
  go_wp2
  refine wp_loop_rounds 1 ?_
  rw [rounds_succ]
  go_wp2
  go_ret
  exact ⟨rfl, rfl⟩
theorem markII_any (v : Value) (n base k0 : Nat) (L : Nat → Value) (p : Nat → Nat) (ys : List Value) (w : World) (hrow : w.ownsRow base 28 1 v n ys) (hcells : ∀ j, j < n → ys[j]? = some (L j)) (hR : RowsM base w L p (mkC k0 p) n 0) (hO : OrdL L n)
    (hn : n ≤ 1048576) (hK : mkC k0 p n ≤ 35184372088832) :
    Calls Try.prog 74 #[v, .int .i64 (k0 : Int)] w fun e w' => e = .returned (.int .i64 ((mkC k0 p n : Nat) : Int)) ∧ w'.ownsRow base 28 1 v n ys ∧ RowsM base w' L p (mkC k0 p) n n ∧ GrownS w w' (InII L n) := by
  rcases id hrow.2 with ⟨rfl, rfl⟩ | ⟨g, cap, cur, rfl, _⟩
  · refine (markII_zero k0 w).mono fun e w' ⟨he, hw⟩ => ?_
    subst he hw
    exact ⟨rfl, hrow, hR, GrownS.refl _ _⟩
  · exact markII_pos g cap n base k0 L p ys w hrow hcells hR hO hn hK
theorem heldII_any (v : Value) (n base k0 : Nat) (L : Nat → Value) (p : Nat → Nat) (ys : List Value) (w : World) (hrow : w.ownsRow base 28 1 v n ys) (hcells : ∀ j, j < n → ys[j]? = some (L j)) (hR : RowsM base w L p (mkC k0 p) n n)
    (hn : n ≤ 1048576) (hK : mkC k0 p n ≤ 35184372088832) :
    Calls Try.prog 76 #[v, .int .i64 (k0 : Int)] w fun e w' => e = .returned (.int .i64 ((mkC k0 p n : Nat) : Int)) ∧ w' = w := by
  rcases id hrow.2 with ⟨rfl, rfl⟩ | ⟨g, cap, cur, rfl, _⟩
  · exact heldII_zero k0 w
  · exact heldII_pos g cap n base k0 L p ys w hrow hcells hR hn hK
/-- Counts that bear the law's marks from k0 on. -/
structure MarkSt (base : Nat) (w : World) (vt vc : Value) (L : Nat → Value) (p : Nat → Nat) (c n k0 : Nat) : Prop where
  tot : ∃ xs, w.ownsRow base 3 1 vt c xs ∧ ∀ t, t < c → xs[t]? = some (mkI ((k0 : Int) + t))
  cells : ∃ ys, w.ownsRow base 28 1 vc n ys ∧ ∀ j, j < n → ys[j]? = some (L j)
  rows : RowsM base w L p (mkC (k0 + c) p) n n
theorem MarkSt.below {base : Nat} {w w' : World} {vt vc : Value} {L : Nat → Value} {p : Nat → Nat} {c n k0 : Nat} (h : MarkSt base w vt vc L p c n k0) (hb : Below w.heap.size w w') : MarkSt base w' vt vc L p c n k0 := by
  obtain ⟨⟨xs, a1, a2⟩, ⟨ys, b1, b2⟩, r⟩ := h
  exact ⟨⟨xs, own_below a1 hb, a2⟩, ⟨ys, own_below b1 hb, b2⟩, r.below hb⟩
set_option maxHeartbeats 400000 in
theorem heldStats_any (vt vc : Value) (L : Nat → Value) (p : Nat → Nat) (c n k0 base : Nat) (w : World) (h : MarkSt base w vt vc L p c n k0) (hc : c ≤ 1048576) (hn : n ≤ 1048576) (hK : mkC (k0 + c) p n ≤ 35184372088832) :
    Calls Try.prog 31 #[.agg #[vt, vc], .int .i64 (k0 : Int)] w fun e w' => e = .returned (.int .i64 ((mkC (k0 + c) p n : Nat) : Int)) ∧ Below w.heap.size w w' := by
  obtain ⟨K, B0⟩ := blk_1 31 w #[vt, vc]
  have hk := mkC_mono (k0 := k0 + c) (p := p) (Nat.zero_le n)
  simp only [mkC] at hk
  obtain ⟨⟨xs, a1, a2⟩, ⟨ys, b1, b2⟩, r⟩ := h.below B0
  have cI := heldI_any c base vt k0 xs _ (by omega) (by omega) (by omega) a1 a2
  have cS := heldII_any vc n base (k0 + c) L p ys _ b1 b2 r hn hK
  rw [Int.natCast_add] at cS
  have k1 : (w.alloc (.cells #[vt, vc] 31)).cell? ⟨w.heap.size, 1, none⟩ = some vc := K.cell 1
  have n1 : ¬ (k0 : Int) + (c : Int) < 0 := by omega
  have n2 : ¬ ((mkC (k0 + c) p n : Nat) : Int) < 0 := by omega
  clear h a1 a2 b1 b2 r K
  go_enter Try.func31, Try.ntmps31
  go_wp2_with fail
  refine cI.mono ?_
  rintro e w1 ⟨rfl, e1⟩
  rw [e1]
  clear cI
  go_wp2_with fail
  refine cS.mono ?_
  rintro e w2 ⟨rfl, e2⟩
  rw [e2]
  clear cS
  go_wp2
  go_ret
  exact ⟨rfl, B0⟩
end Go.Proofs.Ytmdmplphendpcaa
