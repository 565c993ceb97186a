/- Texts of this claim, put together: part 20. -/
import Derived.Test.YteadkdllmeeocaaRows
import Derived.WalkKit
import Derived.ProofKit
import Derived.OrdersHeld
import Derived.Test.YteadkdllmeeocaaFnBestPack15
import Derived.Test.YteadkdllmeeocaaFnBestPack13
import Derived.Test.YteadkdllmeeocaaFnBestPack14
import Derived.Test.YteadkdllmeeocaaFnBestPack3
import Derived.Test.YteadkdllmeeocaaFnBestPack6
import Derived.Test.YteadkdllmeeocaaFnBestPack5
import Derived.Laws.AppendOwn
import Derived.Test.YteadkdllmeeocaaFnBestPack11
import Derived.Deep.RegionLaw
/- A region that draws its order: what may be taken first where the last operation alone turns what is read. -/
namespace Go.Proofs.Yteadkdllmeeocaa
section
variable {P : Program} {ops : Array Oper} {Q : Exit → Act → World → Prop} {md : Region.Mode} {S : World → Prop} {last : Nat}
/-- Whatever order is picked from here on, and S holds behind every operation but the last one. -/
def AnyL (P : Program) (md : Region.Mode) (ops : Array Oper) (Q : Exit → Act → World → Prop) (S : World → Prop) (last : Nat) : Nat → Array Bool → Act → World → Prop
  | 0, listed, a, w => Region.ready md ops listed = [] ∧ Q .normal a w
  | fuel + 1, listed, a, w =>
    (Region.ready md ops listed = [] → Q .normal a w) ∧
    ∀ i ∈ Region.ready md ops listed, wpOp P ops Q i (fun a' w' => (i ≠ last → listed.getD last true = false → S w') ∧ AnyL P md ops Q S last fuel (listed.setIfInBounds i true) a' w') a w
theorem wpAny_of_L : ∀ (fuel : Nat) (listed : Array Bool) (a : Act) (w : World), AnyL P md ops Q S last fuel listed a w → wpAny P md ops Q fuel listed a w
  | 0, _, _, _, h => h
  | fuel + 1, _, _, _, h => ⟨h.1, fun i hi => wpOp_mono (fun a' w' h' => wpAny_of_L fuel _ a' w' h'.2) (h.2 i hi)⟩
/-- Does operation k wait for operation i? -/
def waitsFor (md : Region.Mode) (ops : Array Oper) (k i : Nat) : Bool :=
  match ops[k]? with
  | some o => o.after.any fun e => Region.binds md e && e.on == i
  | none => false
theorem not_ready {k i : Nat} (h : waitsFor md ops k i = true) {listed : Array Bool} (hl : listed.getD i false = false) : k ∉ Region.ready md ops listed := by
  intro hk
  obtain ⟨-, o, ho, hall⟩ := mem_ready.1 hk
  unfold waitsFor at h
  rw [ho] at h
  obtain ⟨e, he, hb⟩ := Array.any_eq_true'.1 h
  rw [Bool.and_eq_true] at hb
  have := hall e he hb.1
  rw [eq_of_beq hb.2, hl] at this
  cases this
theorem unlisted {i : Nat} {listed : Array Bool} (hr : i ∈ Region.ready md ops listed) : listed.getD i false = false := by
  have h0 := (mem_ready.1 hr).1
  rcases Nat.lt_or_ge i listed.size with h' | h'
  · simp [h'] at h0 ⊢; exact h0
  · simp [Array.getElem?_eq_none h'] at h0
theorem AnyL_first {i : Nat} {oi : Oper} {v : Value} (hi : ops[i]? = some oi) (hsel : ∀ (j : Nat) (o : Oper) cs b, ops[j]? = some o → o.op ≠ .select cs b)
    (hQ : ∀ c a w, Q (.panic c) (a.put oi.dst v) w → Q (.panic c) a w) (hw : waitsFor md ops last i = true) :
    ∀ (fuel : Nat) (listed : Array Bool) (a : Act) (w : World), listed.getD last true = false →
      (∀ j oj, ops[j]? = some oj → j ≠ i → listed.getD j true = false → (∀ e ∈ oj.after, Region.binds md e = true → e.on ≠ i) → oi.apart ops oj = true) →
      i ∈ Region.ready md ops listed → YieldsIf P ops S oi v a → S w →
      AnyL P md ops Q S last fuel (listed.setIfInBounds i true) (a.put oi.dst v) w → AnyL P md ops Q S last (fuel + 1) listed a w := by
  intro fuel
  induction fuel with
  | zero =>
    intro listed a w hlu _ hr hy hS H
    refine ⟨fun h => (by rw [h] at hr; cases hr), fun j hj => ?_⟩
    by_cases hji : j = i
    · subst hji; exact hy.wpOp hi hS ⟨fun _ _ => hS, H⟩
    · have := ready_mono hj hji
      rw [H.1] at this
      cases this
  | succ fuel ih =>
    intro listed a w hlu hfree hr hy hS H
    refine ⟨fun h => (by rw [h] at hr; cases hr), fun j hj => ?_⟩
    by_cases hji : j = i
    · subst hji; exact hy.wpOp hi hS ⟨fun _ _ => hS, H⟩
    · have h1 := H.2 j (ready_mono hj hji)
      have hjl : j ≠ last := fun e => not_ready hw (unlisted hr) (e ▸ hj)
      obtain ⟨hjun, oj, hoj, hall⟩ := mem_ready.1 hj
      have hnot : ∀ e ∈ oj.after, Region.binds md e = true → e.on ≠ i := fun e he hb heq => by
        have h1 := hall e he hb
        rw [heq, unlisted hr] at h1
        cases h1
      have h2 := wpOp_putIf hoj (hfree j oj hoj hji hjun hnot) (fun cs b => hsel i oi cs b hi) (fun cs b => hsel j oj cs b hoj) hQ hy h1
      have hfree' : ∀ k ok, ops[k]? = some ok → k ≠ i → (listed.setIfInBounds j true).getD k true = false →
          (∀ e ∈ ok.after, Region.binds md e = true → e.on ≠ i) → oi.apart ops ok = true := fun k ok hk hki hun hno => by
        refine hfree k ok hk hki ?_ hno
        by_cases hjk : j = k
        · subst hjk; exact hjun
        · rw [Go.getD_set_ne true hjk] at hun; exact hun
      have hil : i ≠ last := fun e => by
        subst e
        exact not_ready hw (unlisted hr) hr
      have hl2 : (listed.setIfInBounds i true).getD last true = false := by rw [Go.getD_set_ne true hil]; exact hlu
      have hl3 : (listed.setIfInBounds j true).getD last true = false := by rw [Go.getD_set_ne true hjl]; exact hlu
      refine wpOp_mono (fun a' w' h3 => ⟨fun _ _ => h3.2.1 hjl hl2, ih (listed.setIfInBounds j true) a' w' hl3 hfree' (ready_mono hr (Ne.symm hji)) h3.1 (h3.2.1 hjl hl2) ?_⟩) h2
      rw [Array.setIfInBounds_comm _ _ hji]
      exact h3.2.2
/-- Number i may come up now and reads what S says: it is taken first. -/
theorem firstL (i : Nat) {oi : Oper} (v : Value) {fuel : Nat} {listed : Array Bool} {a : Act} {w : World} (hi : ops.toList[i]? = some oi)
    (hs : Region.noSelect ops = true) (hf : Region.free md ops listed i = true) (hr : (Region.ready md ops listed).contains i = true)
    (hQ : ∀ c a w, Q (.panic c) (a.put oi.dst v) w → Q (.panic c) a w) (hw : (waitsFor md ops last i && !listed.getD last true) = true) (hy : YieldsIf P ops S oi v a) (hS : S w)
    (h : AnyL P md ops Q S last fuel (listed.setIfInBounds i true) (a.put oi.dst v) w) : AnyL P md ops Q S last (fuel + 1) listed a w := by
  have hi' : ops[i]? = some oi := by simpa using hi
  rw [Bool.and_eq_true, Bool.not_eq_true'] at hw
  exact AnyL_first hi' (Region.noSelect_spec hs) hQ hw.1 fuel listed a w hw.2 (Region.free_spec hi' hf) (by simpa using hr) hy hS h
theorem AnyL_pure {i : Nat} {oi : Oper} {v : Value} (hi : ops[i]? = some oi) (hsel : ∀ (j : Nat) (o : Oper) cs b, ops[j]? = some o → o.op ≠ .select cs b)
    (hQ : ∀ c a w, Q (.panic c) (a.put oi.dst v) w → Q (.panic c) a w) (hil : i ≠ last) :
    ∀ (fuel : Nat) (listed : Array Bool) (a : Act) (w : World),
      (∀ j oj, ops[j]? = some oj → j ≠ i → listed.getD j true = false → (∀ e ∈ oj.after, Region.binds md e = true → e.on ≠ i) → oi.apart ops oj = true) →
      i ∈ Region.ready md ops listed → YieldsIf P ops (fun _ => True) oi v a → (listed.getD last true = false → S w) →
      AnyL P md ops Q S last fuel (listed.setIfInBounds i true) (a.put oi.dst v) w → AnyL P md ops Q S last (fuel + 1) listed a w := by
  intro fuel
  induction fuel with
  | zero =>
    intro listed a w _ hr hy hS H
    refine ⟨fun h => (by rw [h] at hr; cases hr), fun j hj => ?_⟩
    by_cases hji : j = i
    · subst hji; exact hy.wpOp hi trivial ⟨fun _ => hS, H⟩
    · have := ready_mono hj hji
      rw [H.1] at this
      cases this
  | succ fuel ih =>
    intro listed a w hfree hr hy hS H
    refine ⟨fun h => (by rw [h] at hr; cases hr), fun j hj => ?_⟩
    by_cases hji : j = i
    · subst hji; exact hy.wpOp hi trivial ⟨fun _ => hS, H⟩
    · have h1 := H.2 j (ready_mono hj hji)
      obtain ⟨hjun, oj, hoj, hall⟩ := mem_ready.1 hj
      have hnot : ∀ e ∈ oj.after, Region.binds md e = true → e.on ≠ i := fun e he hb heq => by
        have h1 := hall e he hb
        rw [heq, unlisted hr] at h1
        cases h1
      have h2 := wpOp_putIf hoj (hfree j oj hoj hji hjun hnot) (fun cs b => hsel i oi cs b hi) (fun cs b => hsel j oj cs b hoj) hQ hy h1
      have hfree' : ∀ k ok, ops[k]? = some ok → k ≠ i → (listed.setIfInBounds j true).getD k true = false →
          (∀ e ∈ ok.after, Region.binds md e = true → e.on ≠ i) → oi.apart ops ok = true := fun k ok hk hki hun hno => by
        refine hfree k ok hk hki ?_ hno
        by_cases hjk : j = k
        · subst hjk; exact hjun
        · rw [Go.getD_set_ne true hjk] at hun; exact hun
      have hl2 : (listed.setIfInBounds i true).getD last true = listed.getD last true := Go.getD_set_ne true hil
      refine wpOp_mono (fun a' w' h3 => ⟨fun e1 e2 => h3.2.1 e1 (by rw [hl2]; exact e2), ih (listed.setIfInBounds j true) a' w' hfree' (ready_mono hr (Ne.symm hji)) h3.1 (fun e3 => ?_) ?_⟩) h2
      · by_cases hjl : j = last
        · subst hjl
          have := (mem_ready.1 hj).1
          exfalso
          rcases Nat.lt_or_ge j listed.size with h' | h'
          · simp [h'] at e3
          · simp [Array.getElem?_eq_none h'] at hjun
        · rw [Go.getD_set_ne true hjl] at e3
          exact h3.2.1 hjl (by rw [hl2]; exact e3)
      · rw [Array.setIfInBounds_comm _ _ hji]
        exact h3.2.2
/-- Number i may come up now and reads no world: it is taken first, whether the last one waits for it or not. -/
theorem pureL (i : Nat) {oi : Oper} (v : Value) {fuel : Nat} {listed : Array Bool} {a : Act} {w : World} (hi : ops.toList[i]? = some oi)
    (hs : Region.noSelect ops = true) (hf : Region.free md ops listed i = true) (hr : (Region.ready md ops listed).contains i = true)
    (hQ : ∀ c a w, Q (.panic c) (a.put oi.dst v) w → Q (.panic c) a w) (hil : i ≠ last) (hy : YieldsIf P ops (fun _ => True) oi v a) (hS : S w)
    (h : AnyL P md ops Q S last fuel (listed.setIfInBounds i true) (a.put oi.dst v) w) : AnyL P md ops Q S last (fuel + 1) listed a w := by
  have hi' : ops[i]? = some oi := by simpa using hi
  exact AnyL_pure hi' (Region.noSelect_spec hs) hQ hil fuel listed a w (Region.free_spec hi' hf) (by simpa using hr) hy (fun _ => hS) h
/-- The one operation that may come up now; S is shown anew behind it. -/
theorem stepL (i : Nat) {oi : Oper} {fuel : Nat} {listed : Array Bool} {a : Act} {w : World} (hi : ops.toList[i]? = some oi) (hr : Region.ready md ops listed = [i])
    (hw : Region.wanted oi (yielded ops a.tmps) = true)
    (h : ∀ K' : Act → World → Prop, (∀ a w, S w → AnyL P md ops Q S last fuel (listed.setIfInBounds i true) a w → K' a w) → Oper.wp P oi a w K' Q) : AnyL P md ops Q S last (fuel + 1) listed a w := by
  have hi' : ops[i]? = some oi := by simpa using hi
  refine ⟨fun h0 => (by rw [hr] at h0; cases h0), fun j hj => ?_⟩
  rw [hr, List.mem_singleton] at hj
  subst hj
  refine wpOp_step hi' fun K' hK => ?_
  rw [if_pos hw]
  exact h K' fun a w hS hA => hK a w ⟨fun _ _ => hS, hA⟩
/-- The last operation: nothing is asked of S behind it. -/
theorem lastL {oi : Oper} {fuel : Nat} {listed : Array Bool} {a : Act} {w : World} (hi : ops.toList[last]? = some oi) (hr : Region.ready md ops listed = [last])
    (hd : Region.ready md ops (listed.setIfInBounds last true) = []) (hw : Region.wanted oi (yielded ops a.tmps) = true)
    (h : Oper.wp P oi a w (fun a' w' => Q .normal a' w') Q) : AnyL P md ops Q S last (fuel + 1) listed a w := by
  have hi' : ops[last]? = some oi := by simpa using hi
  refine ⟨fun h0 => (by rw [hr] at h0; cases h0), fun j hj => ?_⟩
  rw [hr, List.mem_singleton] at hj
  subst hj
  refine wpOp_step hi' fun K' hK => ?_
  rw [if_pos hw]
  refine Oper.wp_mono (fun a' w' hq => hK a' w' ⟨fun h _ => absurd rfl h, ?_⟩) h
  cases fuel with
  | zero => exact ⟨hd, hq⟩
  | succ n => exact ⟨fun _ => hq, by rw [hd]; simp⟩
theorem region_L {id : Nat} {a : Act} {w : World} (S : World → Prop) (last : Nat) (hm : P.follows .mixedOrders = true)
    (h : AnyL P .any ops Q S last ops.size (Array.replicate ops.size false) a w.drew) : (Code.region id ops true).wp P Q a w :=
  wp_region_any hm (wpAny_of_L _ _ _ _ h)
end
end Go.Proofs.Yteadkdllmeeocaa
/- New counts, by the specification. -/
namespace Go.Proofs.Yteadkdllmeeocaa
open Go.RowKit
set_option maxRecDepth 100000
set_option linter.unusedSimpArgs false
set_option maxHeartbeats 6400000 in
theorem specStatsNew_any (v : Value) (s : SchemaD) (w : World) (h : SchemaAt w v s) (hn : okSch s) :
    Calls Try.prog 75 #[v] w fun e w' => ∃ v', e = .returned v' ∧ OwnSt w.heap.size w' v' (statsNew s) ∧ Below w.heap.size w w' := by
  obtain ⟨i0, hi0, hz0, hz1, hz2⟩ := info_parts intsInfo
  have HS : Hid (∀ W, Below w.heap.size w W → SchemaAt W v s) := fun W hW => h.later hW
  have HO : Hid (okSch s) := hn
  obtain ⟨va, vc, rfl, ra, rc⟩ := h
  obtain ⟨oa, ka, rfl, -, -⟩ := id ra
  obtain ⟨oc, kc, rfl, -, -⟩ := id rc
  have la := hn.attrs
  clear ra rc hn
  obtain ⟨K1, K2, B0⟩ := blk_2 33 36 w #[.slice oa s.attrs.length ka, .slice oc s.classes.length kc] #[.slice none 0 0, .slice none 0 0]
  have c1 := specSchemaOk_any _ s _ (HS.out _ B0) HO.out
  cases hk : schemaOk s with
  | false =>
    have HE : Hid (statsNew s = ⟨[], []⟩) := by show _ = _; unfold statsNew; rw [hk]; rfl
    rw [hk] at c1
    clear hk
    go_enter Try.func75, Try.ntmps75
    go_wp2_with fail
    refine c1.mono ?_
    clear c1
    rintro e w1 ⟨rfl, hb1⟩
    have B1 := B0.trans (hb1.mono B0.size)
    replace K2 := K2.below hb1
    clear K1 hb1 B0
    go_wp2_with (first
      | (with_reducible refine wp_st_store rfl _ _ rfl ?_; refine ⟨w.heap.size + 1, rfl, _, _, _, _, _, _, rfl, _, _, K2, ?_⟩)
      | go_in)
    exact bodyPost_ret (res_st Try.results75 _ _ _ _ _ rfl (K2.setRow _)) rfl ⟨_, rfl, by rw [HE.out]; exact ownSt_nil _ _, below_row B1 (by omega) _⟩
  | true =>
    have HE : Hid (statsNew s = ⟨List.replicate s.classes.length 0, newCells s⟩) := by show _ = _; unfold statsNew; rw [hk]; rfl
    have lcl := sch_classes hk
    rw [hk] at c1
    clear hk
    obtain ⟨m, hm⟩ : ∃ m, m = s.classes.length := ⟨_, rfl⟩
    have HM : Hid (m = s.classes.length) := hm
    rw [← hm] at K1 K2 B0 c1 lcl ⊢
    clear hm
    go_enter Try.func75, Try.ntmps75
    go_wp2_with fail
    refine c1.mono ?_
    clear c1
    rintro e w1 ⟨rfl, hb1⟩
    have B1 := B0.trans (hb1.mono B0.size)
    replace K1 := K1.below hb1
    replace K2 := K2.below hb1
    have hs1 : w.heap.size + 2 ≤ w1.heap.size := by have := hb1.size; simp at this; omega
    have q1 : w1.cell? ⟨w.heap.size, 1, none⟩ = some (.slice oc m kc) := K1.cell 1
    clear hb1 B0
    go_wp2_with (at_make; refine wpList_make_ints rfl _ rfl w.heap.size m _ rfl rfl (by omega) (by omega) ?_)
    intro w2 ho2 hg2
    have B2 := B1.grown hg2 B1.size (fun j hj => by cases hj)
    replace K1 := K1.kept hg2 (by simp)
    replace K2 := K2.kept hg2 (by simp)
    have hs2 := hg2.size
    obtain ⟨v1, hv1⟩ : ∃ g, g = w1.heap.size := ⟨_, rfl⟩
    rw [← hv1] at ho2 ⊢
    have hl1 := (ho2.lt v1 rfl).2
    have hl2 := (ho2.lt v1 rfl).1
    clear hv1
    obtain ⟨KX, BX⟩ := blk_1 36 w2 #[.slice (some ⟨v1, 0, none⟩) m m, .slice none 0 0]
    have BW := B2.trans (BX.mono B2.size)
    have K1A := K1.below BX
    have K2A := K2.below BX
    have hoA := own_below ho2 BX
    clear q1 B1 K1 K2 ho2 BX B2 hg2
    go_wp2
    generalize (w2.alloc (.cells #[.slice (some ⟨v1, 0, none⟩) m m, .slice none 0 0] 36)) = wa at KX K1A K2A hoA BW ⊢
    obtain ⟨p, hp⟩ : ∃ p, p = w2.heap.size := ⟨_, rfl⟩
    rw [← hp] at KX hl1 ⊢
    have hpw : w.heap.size + 2 ≤ p := by omega
    clear hp 
    go_loopw [4] (fun i wr => ∃ (k : Nat) (vx : Value) (ys : List Value) (L : Nat → Value), i = .int .i64 k ∧ k ≤ s.attrs.length ∧ ys.length = k ∧ Blk 33 wr w.heap.size #[.slice oa s.attrs.length ka, .slice oc m kc] ∧ Blk 36 wr (w.heap.size + 1) #[.slice none 0 0, .slice none 0 0] ∧ Blk 36 wr p #[.slice (some ⟨v1, 0, none⟩) m m, vx] ∧
        wr.ownsRow w.heap.size 3 1 (.slice (some ⟨v1, 0, none⟩) m m) m ((List.replicate m (0 : Int)).map (Value.int .i64)) ∧ wr.ownsRow (p + 1) 24 1 vx k ys ∧ DoneII wr (p + 1) ys L (newCells s) k ∧ Below w.heap.size w wr) (fun i _ => s.attrs.length - (intOf i).toNat)
    case atStart => exact ⟨0, _, [], fun _ => .slice none 0 0, rfl, by omega, rfl, K1A, K2A, KX, by rw [List.map_replicate]; exact hoA, World.ownsRow_nil _ _ _ _, DoneII.start _ _ _ _ _, BW⟩
    case round =>
      obtain ⟨k, vx, ys, L, rfl, hk, hyl, R1, R2, RX, own, hrow, hdone, hb⟩ := hrel
      clear KX K1A K2A hoA BW
      obtain ⟨ox, kx, rfl⟩ := own_slice hrow
      have j0 : wr.cell? ⟨w.heap.size, 0, none⟩ = some (.slice oa s.attrs.length ka) := R1.cell 0
      by_cases hlt : k < s.attrs.length
      · obtain ⟨va', vc', e', rA, -⟩ := HS.out w (Below.refl _ _)
        cases e'
        obtain ⟨oa', ka', e', -, hrA⟩ := rA
        cases e'
        obtain ⟨ga, fa, rfl, hga, hjA⟩ := hrA (by omega)
        obtain ⟨x1, x2, p0w, p1w, p2w, r1w, r2w⟩ := hjA k hlt
        have r1 := r1w.later hb
        have r2 := r2w.later hb
        have p0 := (hb.cell (p := ⟨ga, fa + k * 3, none⟩) hga).trans p0w
        have p1 := (hb.cell (p := ⟨ga, fa + k * 3 + 1, none⟩) hga).trans p1w
        have p2 := (hb.cell (p := ⟨ga, fa + k * 3 + 2, none⟩) hga).trans p2w
        clear r1w r2w
        obtain ⟨y1, z1, rfl, -, -⟩ := id r1
        obtain ⟨y2, z2, rfl, -, -⟩ := id r2
        have hbn := binsN_eq (ad s.attrs k)
        have hb4 := binsN_le (ad s.attrs k)
        have HAT : Hid (il (newCells s) k = List.replicate (binsN (ad s.attrs k) * s.classes.length) 0) := newCells_at hlt
        obtain ⟨nb, hnb⟩ : ∃ nb, nb = binsN (ad s.attrs k) := ⟨_, rfl⟩
        rw [← hnb] at hbn hb4 HAT
        rw [← HM.out] at HAT
        clear hnb
        have hprod : nb * m ≤ 12 := by have := Nat.mul_le_mul hb4 lcl.2; omega
        have hmul : (nb : Int) * (m : Int) = ((nb * m : Nat) : Int) := (Int.natCast_mul _ _).symm
        have hmul0 : 0 ≤ (nb : Int) * (m : Int) := Int.mul_nonneg (by omega) (by omega)
        have hmul1 : (nb : Int) * (m : Int) ≤ 12 := by rw [hmul]; omega
        have HWR : Hid (IntKind.i64.wrap ((nb : Int) * (m : Int)) = ((nb * m : Nat) : Int)) := by show _ = _; rw [IntKind.wrap_i64, ← hmul]; omega
        clear hmul
        obtain ⟨Z, hZ, hZO⟩ := made_ints (nb * m) (by omega)
        have hmk : ∀ W : World, (Instr.makeSlice 24 (.int .i64 (IntKind.i64.wrap ((nb : Int) * (m : Int)))) (.int .i64 (IntKind.i64.wrap ((nb : Int) * (m : Int))))).run Try.prog W = .ok (.slice (some ⟨W.heap.size, 0, none⟩) (nb * m) (nb * m)) (W.alloc (.cells Z 3)) := fun W => hZ _ W HWR.out
        have HZO : Hid (∀ (W : World) (base : Nat), base ≤ W.heap.size → (W.alloc (.cells Z 3)).ownsRow base 3 1 (.slice (some ⟨W.heap.size, 0, none⟩) (nb * m) (nb * m)) (nb * m) ((List.replicate (nb * m) (0 : Int)).map (Value.int .i64))) := hZO
        clear hZ hZO
        have hvo : ∀ j, (Value.slice ox k kx).ownBlock = some j → p + 1 ≤ j := fun j hj => (hrow.lt j hj).1
        have mixed : Try.prog.follows .mixedOrders = true := by kernel_rfl
        have bD : Below wr.heap.size wr wr.drew := (Below.refl wr.heap.size wr).drew
        have hkeep : ∀ W, Below w.heap.size w W → W.cell? ⟨ga, fa + k * 3, none⟩ = some (.string (ad s.attrs k).name) ∧ W.cell? ⟨ga, fa + k * 3 + 1, none⟩ = some (.slice y1 (ad s.attrs k).cuts.length z1) ∧ W.cell? ⟨ga, fa + k * 3 + 2, none⟩ = some (.slice y2 (ad s.attrs k).vals.length z2) := fun W hW => ⟨(hW.cell (p := ⟨ga, fa + k * 3, none⟩) hga).trans p0w, (hW.cell (p := ⟨ga, fa + k * 3 + 1, none⟩) hga).trans p1w, (hW.cell (p := ⟨ga, fa + k * 3 + 2, none⟩) hga).trans p2w⟩
        have hS : Blk 36 wr.drew p #[.slice (some ⟨v1, 0, none⟩) m m, .slice ox k kx] ∧ Blk 33 wr.drew w.heap.size #[.slice (some ⟨ga, fa, none⟩) s.attrs.length ka, .slice oc m kc] ∧ wr.drew.cell? ⟨ga, fa + k * 3, none⟩ = some (.string (ad s.attrs k).name) ∧ wr.drew.cell? ⟨ga, fa + k * 3 + 1, none⟩ = some (.slice y1 (ad s.attrs k).cuts.length z1) ∧ wr.drew.cell? ⟨ga, fa + k * 3 + 2, none⟩ = some (.slice y2 (ad s.attrs k).vals.length z2) := ⟨RX, R1, hkeep _ hb.drew⟩
        have e1 := specBins_any (.agg #[.string (ad s.attrs k).name, .slice y1 (ad s.attrs k).cuts.length z1, .slice y2 (ad s.attrs k).vals.length z2]) (ad s.attrs k) wr.drew ⟨_, _, rfl, (r1.later bD), (r2.later bD)⟩ (HO.out.each _ (ad_mem hlt))
        rw [hbn] at e1
        have rd : wr.drew.ownsRow (p + 1) 24 1 (.slice ox k kx) k ys := own_below hrow bD
        have dn : DoneII wr.drew (p + 1) ys L (newCells s) k := hdone.below bD
        have R2D := Blk.below (w' := wr.drew) R2 bD
        have ownD := own_below (w' := wr.drew) own bD
        have hpr : p + 1 ≤ wr.drew.heap.size := Nat.le_trans RX.lt bD.size
        have hbd : Below w.heap.size w wr.drew := hb.trans (bD.mono hb.size)
        have hv2 : ∀ j, (Value.slice ox k kx).ownBlock = some j → j < wr.heap.size := fun j hj => (hrow.lt j hj).2
        clear hjA hrA r1 r2 R1 R2 own hrow hdone hb RX bD
        go_wp2
        refine region_L (S := fun W => Blk 36 W p #[.slice (some ⟨v1, 0, none⟩) m m, .slice ox k kx] ∧ Blk 33 W w.heap.size #[.slice (some ⟨ga, fa, none⟩) s.attrs.length ka, .slice oc m kc] ∧ W.cell? ⟨ga, fa + k * 3, none⟩ = some (.string (ad s.attrs k).name) ∧ W.cell? ⟨ga, fa + k * 3 + 1, none⟩ = some (.slice y1 (ad s.attrs k).cuts.length z1) ∧ W.cell? ⟨ga, fa + k * 3 + 2, none⟩ = some (.slice y2 (ad s.attrs k).vals.length z2)) (last := 16) mixed ?_
        generalize wr.drew = w0 at hS e1 rd dn R2D ownD hpr hbd ⊢
        refine firstL 0 (.pointer (some ⟨p, 1, none⟩)) rfl (by kernel_rfl) (by kernel_rfl) (by kernel_rfl) (fun _ _ _ h => h) (by kernel_rfl) (.inl ⟨by rfl, fun w hw => by unfold execOp; go_simp⟩) hS ?_
        try simp only [Act.put, List.setIfInBounds_toArray, List.set_cons_zero, List.set_cons_succ]
        refine firstL 1 (.slice ox k kx) rfl (by kernel_rfl) (by kernel_rfl) (by kernel_rfl) (fun _ _ _ h => h) (by kernel_rfl) (.inl ⟨by rfl, fun w hw => by have h := hw.1.cell 1; unfold execOp; go_simp⟩) hS ?_
        try simp only [Act.put, List.setIfInBounds_toArray, List.set_cons_zero, List.set_cons_succ]
        refine firstL 2 (.pointer (some ⟨w.heap.size, 0, none⟩)) rfl (by kernel_rfl) (by kernel_rfl) (by kernel_rfl) (fun _ _ _ h => h) (by kernel_rfl) (.inl ⟨by rfl, fun w hw => by unfold execOp; go_simp⟩) hS ?_
        try simp only [Act.put, List.setIfInBounds_toArray, List.set_cons_zero, List.set_cons_succ]
        refine firstL 3 (.slice (some ⟨ga, fa, none⟩) s.attrs.length ka) rfl (by kernel_rfl) (by kernel_rfl) (by kernel_rfl) (fun _ _ _ h => h) (by kernel_rfl) (.inl ⟨by rfl, fun w hw => by have h := hw.2.1.cell 0; unfold execOp; go_simp⟩) hS ?_
        try simp only [Act.put, List.setIfInBounds_toArray, List.set_cons_zero, List.set_cons_succ]
        refine firstL 4 (.int .i64 (k : Int)) rfl (by kernel_rfl) (by kernel_rfl) (by kernel_rfl) (fun _ _ _ h => h) (by kernel_rfl) (.inl ⟨by rfl, fun w hw => by rfl⟩) hS ?_
        try simp only [Act.put, List.setIfInBounds_toArray, List.set_cons_zero, List.set_cons_succ]
        refine firstL 5 (.pointer (some ⟨ga, fa + k * 3, none⟩)) rfl (by kernel_rfl) (by kernel_rfl) (by kernel_rfl) (fun _ _ _ h => h) (by kernel_rfl) (.inl ⟨by rfl, fun w hw => by unfold execOp; go_simp⟩) hS ?_
        try simp only [Act.put, List.setIfInBounds_toArray, List.set_cons_zero, List.set_cons_succ]
        refine firstL 6 (.agg #[.string (ad s.attrs k).name, .slice y1 (ad s.attrs k).cuts.length z1, .slice y2 (ad s.attrs k).vals.length z2]) rfl (by kernel_rfl) (by kernel_rfl) (by kernel_rfl) (fun _ _ _ h => h) (by kernel_rfl) (.inl ⟨by rfl, fun w hw => by have h0 := hw.2.2.1; have h1 := hw.2.2.2.1; have h2 := hw.2.2.2.2; unfold execOp; go_simp⟩) hS ?_
        try simp only [Act.put, List.setIfInBounds_toArray, List.set_cons_zero, List.set_cons_succ]
        refine firstL 8 (.pointer (some ⟨w.heap.size, 1, none⟩)) rfl (by kernel_rfl) (by kernel_rfl) (by kernel_rfl) (fun _ _ _ h => h) (by kernel_rfl) (.inl ⟨by rfl, fun w hw => by unfold execOp; go_simp⟩) hS ?_
        try simp only [Act.put, List.setIfInBounds_toArray, List.set_cons_zero, List.set_cons_succ]
        refine firstL 9 (.slice oc m kc) rfl (by kernel_rfl) (by kernel_rfl) (by kernel_rfl) (fun _ _ _ h => h) (by kernel_rfl) (.inl ⟨by rfl, fun w hw => by have h := hw.2.1.cell 1; unfold execOp; go_simp⟩) hS ?_
        try simp only [Act.put, List.setIfInBounds_toArray, List.set_cons_zero, List.set_cons_succ]
        refine firstL 10 (.int .i64 (m : Int)) rfl (by kernel_rfl) (by kernel_rfl) (by kernel_rfl) (fun _ _ _ h => h) (by kernel_rfl) (.inl ⟨by rfl, fun w hw => by unfold execOp; go_simp⟩) hS ?_
        try simp only [Act.put, List.setIfInBounds_toArray, List.set_cons_zero, List.set_cons_succ]
        refine stepL 7 rfl (by kernel_rfl) (by rfl) fun K hK => ?_
        go_simp
        refine e1.mono ?_
        clear e1
        rintro e w2 ⟨rfl, hb2⟩
        have b2 := hbd.trans (hb2.mono hbd.size)
        replace hS : Blk 36 w2 p #[.slice (some ⟨v1, 0, none⟩) m m, .slice ox k kx] ∧ Blk 33 w2 w.heap.size #[.slice (some ⟨ga, fa, none⟩) s.attrs.length ka, .slice oc m kc] ∧ w2.cell? ⟨ga, fa + k * 3, none⟩ = some (.string (ad s.attrs k).name) ∧ w2.cell? ⟨ga, fa + k * 3 + 1, none⟩ = some (.slice y1 (ad s.attrs k).cuts.length z1) ∧ w2.cell? ⟨ga, fa + k * 3 + 2, none⟩ = some (.slice y2 (ad s.attrs k).vals.length z2) := ⟨hS.1.below hb2, hS.2.1.below hb2, hkeep _ (b2)⟩
        refine hK _ _ hS ?_
        clear hK K
        try simp only [Act.put, List.setIfInBounds_toArray, List.set_cons_zero, List.set_cons_succ]
        refine firstL 11 (.int .i64 (IntKind.i64.wrap ((nb : Int) * (m : Int)))) rfl (by kernel_rfl) (by kernel_rfl) (by kernel_rfl) (fun _ _ _ h => h) (by kernel_rfl) (.inl ⟨by rfl, fun w hw => by unfold execOp; go_simp⟩) hS ?_
        try simp only [Act.put, List.setIfInBounds_toArray, List.set_cons_zero, List.set_cons_succ]
        have hp2 : p + 1 ≤ w2.heap.size := Nat.le_trans hpr hb2.size
        have b3 := b2.alloc b2.size (.cells Z 3)
        refine stepL 12 rfl (by kernel_rfl) (by rfl) fun K hK => ?_
        go_simp
        replace hS : Blk 36 (w2.alloc (.cells Z 3)) p #[.slice (some ⟨v1, 0, none⟩) m m, .slice ox k kx] ∧ Blk 33 (w2.alloc (.cells Z 3)) w.heap.size #[.slice (some ⟨ga, fa, none⟩) s.attrs.length ka, .slice oc m kc] ∧ (w2.alloc (.cells Z 3)).cell? ⟨ga, fa + k * 3, none⟩ = some (.string (ad s.attrs k).name) ∧ (w2.alloc (.cells Z 3)).cell? ⟨ga, fa + k * 3 + 1, none⟩ = some (.slice y1 (ad s.attrs k).cuts.length z1) ∧ (w2.alloc (.cells Z 3)).cell? ⟨ga, fa + k * 3 + 2, none⟩ = some (.slice y2 (ad s.attrs k).vals.length z2) := ⟨hS.1.alloc _, hS.2.1.alloc _, hkeep _ (b3)⟩
        refine hK _ _ hS ?_
        clear hK K
        try simp only [Act.put, List.setIfInBounds_toArray, List.set_cons_zero, List.set_cons_succ]
        have b3a := b3.alloc b3.size (.cells #[.slice (some ⟨w2.heap.size, 0, none⟩) (nb * m) (nb * m)] 24)
        have X3 := hS.1
        refine stepL 13 rfl (by kernel_rfl) (by rfl) fun K hK => ?_
        go_simp
        replace hS : Blk 36 ((w2.alloc (.cells Z 3)).alloc (.cells #[.slice (some ⟨w2.heap.size, 0, none⟩) (nb * m) (nb * m)] 24)) p #[.slice (some ⟨v1, 0, none⟩) m m, .slice ox k kx] ∧ Blk 33 ((w2.alloc (.cells Z 3)).alloc (.cells #[.slice (some ⟨w2.heap.size, 0, none⟩) (nb * m) (nb * m)] 24)) w.heap.size #[.slice (some ⟨ga, fa, none⟩) s.attrs.length ka, .slice oc m kc] ∧ ((w2.alloc (.cells Z 3)).alloc (.cells #[.slice (some ⟨w2.heap.size, 0, none⟩) (nb * m) (nb * m)] 24)).cell? ⟨ga, fa + k * 3, none⟩ = some (.string (ad s.attrs k).name) ∧ ((w2.alloc (.cells Z 3)).alloc (.cells #[.slice (some ⟨w2.heap.size, 0, none⟩) (nb * m) (nb * m)] 24)).cell? ⟨ga, fa + k * 3 + 1, none⟩ = some (.slice y1 (ad s.attrs k).cuts.length z1) ∧ ((w2.alloc (.cells Z 3)).alloc (.cells #[.slice (some ⟨w2.heap.size, 0, none⟩) (nb * m) (nb * m)] 24)).cell? ⟨ga, fa + k * 3 + 2, none⟩ = some (.slice y2 (ad s.attrs k).vals.length z2) := ⟨hS.1.alloc _, hS.2.1.alloc _, hkeep _ (b3a)⟩
        refine hK _ _ hS ?_
        clear hK K
        try simp only [Act.put, List.setIfInBounds_toArray, List.set_cons_zero, List.set_cons_succ]
        have r3 := (own_below rd hb2).alloc (.cells Z 3)
        have hnw := newcV (w2.alloc (.cells Z 3)) (.slice (some ⟨w2.heap.size, 0, none⟩) (nb * m) (nb * m)) 24
        rw [World.size_alloc] at hnw
        refine stepL 14 rfl (by kernel_rfl) (by rfl) fun K hK => ?_
        refine wp_append_own _ _ _ 34 rfl (p + 1) 24 i0 (.slice none 0 0) 1 24 Try.underlying34 hi0 hz0 hz1 hz2 rfl (by decide) _ _ _ rfl (r3.alloc (.cells #[.slice (some ⟨w2.heap.size, 0, none⟩) (nb * m) (nb * m)] 24)) ⟨w2.heap.size + 1, 0, none⟩ 1 1 [.slice (some ⟨w2.heap.size, 0, none⟩) (nb * m) (nb * m)] rfl rfl hnw (by simp [Value.oneCell']) (by unfold maxLen; omega) (by omega) (by simp; omega) ?_
        intro v4 w4 ho hg4 hnil
        obtain ⟨ov, cv, rfl⟩ := own_slice ho
        have hne : ∀ q, q ≤ p → (Value.slice ox k kx).ownBlock ≠ some q := fun q hq e => by have := hvo _ e; omega
        have b4 := b3a.grown hg4 b3a.size (fun j hj => by have := hvo _ hj; omega)
        replace hS : Blk 36 w4 p #[.slice (some ⟨v1, 0, none⟩) m m, .slice ox k kx] ∧ Blk 33 w4 w.heap.size #[.slice (some ⟨ga, fa, none⟩) s.attrs.length ka, .slice oc m kc] ∧ w4.cell? ⟨ga, fa + k * 3, none⟩ = some (.string (ad s.attrs k).name) ∧ w4.cell? ⟨ga, fa + k * 3 + 1, none⟩ = some (.slice y1 (ad s.attrs k).cuts.length z1) ∧ w4.cell? ⟨ga, fa + k * 3 + 2, none⟩ = some (.slice y2 (ad s.attrs k).vals.length z2) := ⟨hS.1.kept hg4 (hne _ (Nat.le_refl _)), hS.2.1.kept hg4 (hne _ (by omega)), hkeep _ (b4)⟩
        refine hK _ _ hS ?_
        clear hK K
        try simp only [Act.put, List.setIfInBounds_toArray, List.set_cons_zero, List.set_cons_succ]
        refine firstL 15 (.pointer (some ⟨p, 1, none⟩)) rfl (by kernel_rfl) (by kernel_rfl) (by kernel_rfl) (fun _ _ _ h => h) (by kernel_rfl) (.inl ⟨by rfl, fun w hw => by unfold execOp; go_simp⟩) hS ?_
        try simp only [Act.put, List.setIfInBounds_toArray, List.set_cons_zero, List.set_cons_succ]
        have a4 : w4.cell? ⟨p, 1, none⟩ = some (.slice ox k kx) := hS.1.cell 1
        have f4 := hS.1.frozen 1
        refine lastL rfl (by kernel_rfl) (by kernel_rfl) (by rfl) ?_
        go_simp
        have XF := hS.1.setCell 1 (.slice ov (k + 1) cv)
        have rA := r3.alloc (.cells #[.slice (some ⟨w2.heap.size, 0, none⟩) (nb * m) (nb * m)] 24)
        have hb3 : Below w2.heap.size w2 (w2.alloc (.cells Z 3)) := (Below.refl _ _).alloc (Nat.le_refl _) _
        have hb23 := hb2.trans (hb3.mono hb2.size)
        have q3 := HZO.out w2 w2.heap.size (Nat.le_refl _)
        have q3' : (w2.alloc (.cells Z 3)).ownsRow w2.heap.size 3 1 (.slice (some ⟨w2.heap.size, 0, none⟩) (nb * m) (nb * m)) (il (newCells s) k).length ((il (newCells s) k).map (Value.int .i64)) := by rw [HAT.out, List.length_replicate]; exact q3
        have DS := ((dn.below hb23).snoc (B := w2.heap.size) hyl (fun j hj a ha => Nat.lt_of_lt_of_le (dn.lt j hj a ha) hb2.size) q3' hp2).alloc (.cells #[.slice (some ⟨w2.heap.size, 0, none⟩) (nb * m) (nb * m)] 24)
        have DF := (DS.keptRow rA hg4).setCellN (p := p) (q := 1) hS.1 (by decide) (.slice ov (k + 1) cv)
        have b5 : Below w.heap.size w (w4.setCell ⟨p, 1, none⟩ (.slice ov (k + 1) cv)) := b4.setCell (p := ⟨p, 1, none⟩) (by simp; omega) _
        have R1G := hS.2.1.setCell_other ⟨p, 1, none⟩ (.slice ov (k + 1) cv) (by simp; omega)
        have R2G := (((R2D.below hb23).alloc (.cells #[.slice (some ⟨w2.heap.size, 0, none⟩) (nb * m) (nb * m)] 24)).kept hg4 (hne _ (by omega))).setCell_other ⟨p, 1, none⟩ (.slice ov (k + 1) cv) (by simp; omega)
        have ownA := (own_below ownD hb23).alloc (.cells #[.slice (some ⟨w2.heap.size, 0, none⟩) (nb * m) (nb * m)] 24)
        have own3 := ownA.kept hg4 (apart_ty ownA rA (by decide))
        have ownG := own_setCellN own3 p 1 (.slice ov (k + 1) cv) (own_ne_blk own3 hS.1 (by decide))
        have rowG := own_setCellN ho p 1 (.slice ov (k + 1) cv) (own_ne_blk ho hS.1 (by decide))
        clear hS j0 p0 p1 p2 hvo hv2 hne rd hpr hbd hb2 hb3 b2 b3 b3a b4 hmk hnw X3 r3 hg4 hnil a4 f4 rA hb23 q3 q3' DS ownA own3 ho dn R2D ownD
        go_wp2
        go_roundw
        case rel => exact ⟨k + 1, _, _, _, by go_num, by omega, by simp; omega, R1G, R2G, XF, ownG, rowG, DF, b5⟩
        case measure => simp [intOf]; omega
      · obtain rfl : k = s.attrs.length := by omega
        go_wp2_with (first
          | (with_reducible refine wp_st_load rfl _ rfl ?_; refine ⟨p, rfl, _, _, RX, ?_⟩)
          | (with_reducible refine wp_st_store rfl _ _ rfl ?_; refine ⟨w.heap.size + 1, rfl, _, _, _, _, _, _, rfl, _, _, R2, ?_⟩)
          | go_in)
        have hcl := newCells_len s
        have hf1 := own_setRowN (w := wr) own (w.heap.size + 1) #[.slice (some ⟨v1, 0, none⟩) m m, .slice ox s.attrs.length kx] (own_ne_blk own R2 (by decide))
        have hf2 := own_setRowN (w := wr) hrow (w.heap.size + 1) #[.slice (some ⟨v1, 0, none⟩) m m, .slice ox s.attrs.length kx] (own_ne_blk hrow R2 (by decide))
        have hf3 := hdone.setRowN R2 (by decide) #[.slice (some ⟨v1, 0, none⟩) m m, .slice ox s.attrs.length kx]
        refine bodyPost_ret (res_st Try.results75 _ _ _ _ _ rfl (R2.setRow _)) rfl ⟨_, rfl, ?_, below_row hb (by omega) _⟩
        rw [HE.out]
        refine ownSt_mk (B := p + 1) (ys := ys) (L := L) ?_ (fun a ha => by simp [Value.ownBlock] at ha; omega) ?_ ?_ (by omega)
        · show World.ownsRow _ _ _ _ _ (List.replicate s.classes.length (0 : Int)).length ((List.replicate s.classes.length (0 : Int)).map _)
          rw [List.length_replicate, ← HM.out]; exact hf1
        · show World.ownsRow _ _ _ _ _ (newCells s).length _
          rw [hcl]; exact hf2
        · show DoneII _ _ _ _ (newCells s) (newCells s).length
          rw [hcl]; exact hf3
end Go.Proofs.Yteadkdllmeeocaa
/- A list of numbers copied behind an empty one of the call's own. -/
namespace Go.Proofs.Yteadkdllmeeocaa
open Go.RowKit
set_option maxRecDepth 100000
theorem run_lit_none (g cap : Nat) (w : World) (ty : TypeId) : (Builtin.append_ #[24, 24] ty #[.slice (some ⟨g, 0, none⟩) 0 0, .slice none 0 cap]).run Try.prog w = .ok (.slice (some ⟨g, 0, none⟩) 0 0) w := by
  go_simp
/-- The list behind an empty one of the call's own. -/
theorem run_lit_copy (base g : Nat) (ty : TypeId) (v : Value) (l : List Int) (w : World) (hown : w.ownsRow base 3 1 (.slice (some ⟨g, 0, none⟩) 0 0) 0 []) (h : RowI w v l) (hn : l.length ≤ 1099511627776) (hb : base ≤ w.heap.size) :
    ∃ v' w', (Builtin.append_ #[24, 24] ty #[.slice (some ⟨g, 0, none⟩) 0 0, v]).run Try.prog w = .ok v' w' ∧ w'.ownsRow base 3 1 v' l.length (l.map (Value.int .i64)) ∧ w.grownBy w' (some g) := by
  obtain ⟨i0, hi0, hz0, hz1, hz2⟩ := info_parts intInfo
  obtain ⟨oa, cap, rfl, hc, hr⟩ := h
  by_cases h0 : l.length = 0
  · obtain rfl : l = [] := List.length_eq_zero_iff.1 h0
    cases oa with
    | none => exact ⟨_, w, run_lit_none g cap w ty, hown, World.grownBy.refl w _⟩
    | some ad =>
      obtain ⟨v', w', h1, h2, h3, -⟩ := run_append_own (P := Try.prog) w base 24 ty 3 i0 (.int .i64 0) 1 8 Try.underlying24 hi0 hz0 hz1 hz2 rfl (by decide) _ 0 [] hown ad 0 cap [] (by simp) (fun j u hj => by simp at hj) (by simp) (by unfold maxLen; omega) (by omega) hb
      exact ⟨v', w', h1, h2, h3⟩
  · obtain ⟨ga, o, rfl, hg, hj⟩ := hr (by omega)
    have HN : ∀ (j : Nat) (u : Value), (l.map (Value.int .i64))[j]? = some u → w.cell? ((⟨ga, o, none⟩ : Addr).add j) = some u := by
      have := row_news (k := l.length) (w := w) (fun j hlt => hj j hlt)
      rwa [List.take_length] at this
    obtain ⟨v', w', h1, h2, h3, -⟩ := run_append_own (P := Try.prog) w base 24 ty 3 i0 (.int .i64 0) 1 8 Try.underlying24 hi0 hz0 hz1 hz2 rfl (by decide) _ 0 [] hown ⟨ga, o, none⟩ l.length cap (l.map (Value.int .i64)) (by simp) HN (ints_oneCell .i64 _) (by unfold maxLen; omega) (by omega) hb
    refine ⟨v', w', h1, ?_, h3⟩
    simpa using h2
theorem wp_lit_copy {o : Oper} {a : Act} {w : World} {K : Act → World → Prop} {Q : Exit → Act → World → Prop} (s x : Operand) (ho : o.op = .call { callee := .builtin .append, args := #[s, x], argTypes := #[24, 24] })
    (base g : Nat) (v : Value) (l : List Int) (hs : a.eval s = .slice (some ⟨g, 0, none⟩) 0 0) (hx : a.eval x = v) (hown : w.ownsRow base 3 1 (.slice (some ⟨g, 0, none⟩) 0 0) 0 []) (h : RowI w v l) (hn : l.length ≤ 1099511627776) (hb : base ≤ w.heap.size)
    (hK : ∀ v' w', w'.ownsRow base 3 1 v' l.length (l.map (Value.int .i64)) → w.grownBy w' (some g) → K (a.put o.dst v') w') : Oper.wp Try.prog o a w K Q := by
  obtain ⟨v', w', h1, h2, h3⟩ := run_lit_copy base g o.type v l w hown h hn hb
  unfold Oper.wp execOp
  simp only [ho, resolve, invoke, builtin, Sem.run_bind, Sem.run_pure, Result.andThen_ok, List.map_toArray, List.map_cons, List.map_nil, hs, hx, h1]
  exact hK _ _ h2 h3
theorem wpList_lit_copy {ops : Array Oper} {rest : List Oper} {o : Oper} {a : Act} {w : World} {Q : Exit → Act → World → Prop} (hg : o.guard = none) (s x : Operand) (ho : o.op = .call { callee := .builtin .append, args := #[s, x], argTypes := #[24, 24] })
    (base g : Nat) (v : Value) (l : List Int) (hs : a.eval s = .slice (some ⟨g, 0, none⟩) 0 0) (hx : a.eval x = v) (hown : w.ownsRow base 3 1 (.slice (some ⟨g, 0, none⟩) 0 0) 0 []) (h : RowI w v l) (hn : l.length ≤ 1099511627776) (hb : base ≤ w.heap.size)
    (hK : ∀ v' w', w'.ownsRow base 3 1 v' l.length (l.map (Value.int .i64)) → w.grownBy w' (some g) → wpList Try.prog ops Q rest (a.put o.dst v') w') : wpList Try.prog ops Q (o :: rest) a w :=
  wpList_plain hg fun _ hK' => wp_lit_copy s x ho base g v l hs hx hown h hn hb fun v' w' h1 h2 => hK' _ _ (hK v' w' h1 h2)
end Go.Proofs.Yteadkdllmeeocaa
/- Counts copied, by the specification. -/
namespace Go.Proofs.Yteadkdllmeeocaa
open Go.RowKit
set_option maxRecDepth 100000
set_option linter.unusedSimpArgs false
set_option maxHeartbeats 3200000 in
theorem l8Copy_any (v : Value) (t : StatsD) (w : World) (h : StatsAt w v t) (hn : okSt t) :
    Calls Try.prog 87 #[v] w fun e w' => ∃ v', e = .returned v' ∧ OwnSt w.heap.size w' v' t ∧ Below w.heap.size w w' := by
  obtain ⟨i0, hi0, hz0, hz1, hz2⟩ := info_parts intsInfo
  have HT : Hid (∀ W, Below w.heap.size w W → StatsAt W v t) := fun W hW => h.later hW
  have HO : Hid (okSt t) := hn
  obtain ⟨vt, vc, rfl, ht, hc⟩ := h
  obtain ⟨oc, kc, rfl, -, -⟩ := id hc
  have hnc := hn.cells
  clear ht hc hn
  obtain ⟨K1, K2, B0⟩ := blk_2 36 36 w #[vt, .slice oc t.cells.length kc] #[.slice none 0 0, .slice none 0 0]
  have HLO : Hid ((((w.alloc (.cells #[vt, .slice oc t.cells.length kc] 36)).alloc (.cells #[.slice none 0 0, .slice none 0 0] 36)).alloc (.cells #[] 3)).ownsRow (w.heap.size + 2) 3 1 (.slice (some ⟨w.heap.size + 1 + 1, 0, none⟩) 0 0) 0 []) := by
    have := ownI_lit0 ((w.alloc (.cells #[vt, .slice oc t.cells.length kc] 36)).alloc (.cells #[.slice none 0 0, .slice none 0 0] 36)) (w.heap.size + 2) (by simp)
    rwa [show ((w.alloc (.cells #[vt, .slice oc t.cells.length kc] 36)).alloc (.cells #[.slice none 0 0, .slice none 0 0] 36)).heap.size = w.heap.size + 1 + 1 by simp] at this
  have BL := B0.alloc B0.size (.cells #[] 3)
  have KL1 := K1.alloc (.cells #[] 3)
  have KL2 := K2.alloc (.cells #[] 3)
  obtain ⟨vt', vc', e', rT, -⟩ := HT.out _ BL
  cases e'
  go_enter Try.func87, Try.ntmps87
  go_wp2_with (at_builtin; refine wpList_lit_copy rfl _ _ rfl (w.heap.size + 2) (w.heap.size + 1 + 1) _ t.totals rfl rfl HLO.out rT HO.out.totals (by simp) ?_)
  intro v1 w1 ho1 hg1
  have B1 := BL.grown hg1 (by simp; omega) (fun j hj => by cases hj; omega)
  replace K1 := KL1.kept hg1 (by intro e; have := Option.some.inj e; omega)
  replace K2 := KL2.kept hg1 (by intro e; have := Option.some.inj e; omega)
  have hs1 := hg1.size
  simp only [World.size_alloc] at hs1
  have ho1 := own_base ho1 (b' := w.heap.size) (by omega)
  obtain ⟨o1, k1, rfl⟩ := own_slice ho1
  obtain ⟨KX, BX⟩ := blk_1 36 w1 #[.slice o1 t.totals.length k1, .slice none 0 0]
  have HLT : Hid (∀ a, (Value.slice o1 t.totals.length k1).ownBlock = some a → a < w1.heap.size) := fun a ha => (ho1.lt a ha).2
  have BW := B1.trans (BX.mono B1.size)
  have K1A := K1.below BX
  have K2A := K2.below BX
  have hoA := own_below ho1 BX
  have q1 : (w1.alloc (.cells #[.slice o1 t.totals.length k1, .slice none 0 0] 36)).cell? ⟨w.heap.size, 1, none⟩ = some (.slice oc t.cells.length kc) := K1A.cell 1
  have hpw : w.heap.size + 2 ≤ w1.heap.size := by omega
  clear B1 K1 K2 ho1 BX hs1 B0 KL1 KL2 BL hg1 HLO rT
  go_wp2
  generalize (w1.alloc (.cells #[.slice o1 t.totals.length k1, .slice none 0 0] 36)) = wa at KX K1A K2A hoA BW q1
  obtain ⟨p, hp⟩ : ∃ p, p = w1.heap.size := ⟨_, rfl⟩
  rw [← hp] at KX HLT hpw ⊢
  clear q1 hp
  go_loopw [4] (fun i wr => ∃ (k : Nat) (vx : Value) (ys : List Value) (L : Nat → Value), i = .int .i64 k ∧ k ≤ t.cells.length ∧ ys.length = k ∧ Blk 36 wr w.heap.size #[vt, .slice oc t.cells.length kc] ∧ Blk 36 wr (w.heap.size + 1) #[.slice none 0 0, .slice none 0 0] ∧ Blk 36 wr p #[.slice o1 t.totals.length k1, vx] ∧
      wr.ownsRow w.heap.size 3 1 (.slice o1 t.totals.length k1) t.totals.length (t.totals.map (Value.int .i64)) ∧ wr.ownsRow (p + 1) 24 1 vx k ys ∧ DoneII wr (p + 1) ys L t.cells k ∧ Below w.heap.size w wr) (fun i _ => t.cells.length - (intOf i).toNat)
  case atStart => exact ⟨0, _, [], fun _ => .slice none 0 0, rfl, by omega, rfl, K1A, K2A, KX, hoA, World.ownsRow_nil _ _ _ _, DoneII.start _ _ _ _ _, BW⟩
  case round =>
    obtain ⟨k, vx, ys, L, rfl, hk, hyl, R1, R2, RX, own, hrow, hdone, hb⟩ := hrel
    clear KX K1A K2A hoA BW
    obtain ⟨ox, kx, rfl⟩ := own_slice hrow
    have j1 : wr.cell? ⟨w.heap.size, 1, none⟩ = some (.slice oc t.cells.length kc) := R1.cell 1
    by_cases hlt : k < t.cells.length
    · obtain ⟨vt', vc', e', -, rC⟩ := HT.out wr hb
      cases e'
      obtain ⟨oc', kc', e', -, hrC⟩ := rC
      cases e'
      obtain ⟨gc, fc, rfl, hgc, hjC⟩ := hrC (by omega)
      obtain ⟨u, hu, ru⟩ := hjC k hlt
      obtain ⟨ou, ku, rfl, -, -⟩ := id ru
      have lu := HO.out.each _ (il_mem hlt)
      have hvo : ∀ j, (Value.slice ox k kx).ownBlock = some j → p + 1 ≤ j := fun j hj => (hrow.lt j hj).1
      have XD : Blk 36 wr.drew p #[.slice o1 t.totals.length k1, .slice ox k kx] := RX
      have TD : Blk 36 wr.drew w.heap.size #[vt, .slice (some ⟨gc, fc, none⟩) t.cells.length kc] := R1
      have BD : Below wr.drew.heap.size wr.drew (wr.drew.alloc (.cells #[] 3)) := (Below.refl _ _).alloc (Nat.le_refl _) _
      have d0 : wr.cell? ⟨p, 1, none⟩ = some (.slice ox k kx) := RX.cell 1
      have d1 : wr.drew.cell? ⟨p, 1, none⟩ = some (.slice ox k kx) := RX.cell 1
      have d2 : (wr.drew.alloc (.cells #[] 3)).cell? ⟨p, 1, none⟩ = some (.slice ox k kx) := (XD.alloc _).cell 1
      have d3 : (wr.alloc (.cells #[] 3)).cell? ⟨p, 1, none⟩ = some (.slice ox k kx) := (RX.alloc _).cell 1
      have t1 : wr.drew.cell? ⟨w.heap.size, 1, none⟩ = some (.slice (some ⟨gc, fc, none⟩) t.cells.length kc) := R1.cell 1
      have t2 : (wr.drew.alloc (.cells #[] 3)).cell? ⟨w.heap.size, 1, none⟩ = some (.slice (some ⟨gc, fc, none⟩) t.cells.length kc) := (TD.alloc _).cell 1
      have t3 : (wr.alloc (.cells #[] 3)).cell? ⟨w.heap.size, 1, none⟩ = some (.slice (some ⟨gc, fc, none⟩) t.cells.length kc) := (R1.alloc _).cell 1
      have u1 : wr.drew.cell? ⟨gc, fc + k, none⟩ = some (.slice ou (il t.cells k).length ku) := hu
      have u2 : (wr.drew.alloc (.cells #[] 3)).cell? ⟨gc, fc + k, none⟩ = some (.slice ou (il t.cells k).length ku) := (BD.cell (p := ⟨gc, fc + k, none⟩) hgc).trans hu
      have u3 : (wr.alloc (.cells #[] 3)).cell? ⟨gc, fc + k, none⟩ = some (.slice ou (il t.cells k).length ku) := (World.cell?_alloc_past _ gc (fc + k) hgc).trans hu
      have hLO : (wr.drew.alloc (.cells #[] 3)).ownsRow wr.drew.heap.size 3 1 (.slice (some ⟨wr.drew.heap.size, 0, none⟩) 0 0) 0 [] := ownI_lit0 wr.drew _ (Nat.le_refl _)
      have hru : RowI (wr.drew.alloc (.cells #[] 3)) (.slice ou (il t.cells k).length ku) (il t.cells k) := (ru.later (Below.refl wr.heap.size wr).drew).later BD
      have rd : wr.drew.ownsRow (p + 1) 24 1 (.slice ox k kx) k ys := hrow
      have hHL : Hid (∀ j, j < k → ∀ a, (L j).ownBlock = some a → a < wr.drew.heap.size) := hdone.lt
      have hpr : p + 1 ≤ wr.drew.heap.size := RX.lt
      have hbd : Below w.heap.size w wr.drew := hb.drew
      clear hjC hrC hgc ru TD
      go_wp2
      go_region_law (first
        | (refine step_wp rfl (wp_lit_copy _ _ rfl wr.drew.heap.size wr.drew.heap.size _ (il t.cells k) rfl rfl hLO hru lu (by simp) ?_); intro v2 w2 q1 hg2; obtain ⟨o2, k2, rfl⟩ := own_slice q1; have hb2 : Below wr.drew.heap.size wr.drew w2 := BD.grown hg2 BD.size (fun j hj => by cases hj; exact Nat.le_refl _); have X2 := XD.below hb2; have a2 : w2.cell? ⟨p, 1, none⟩ = some (.slice ox k kx) := X2.cell 1; have a2' : (w2.alloc (.cells #[.slice o2 (il t.cells k).length k2] 24)).cell? ⟨p, 1, none⟩ = some (.slice ox k kx) := (X2.alloc _).cell 1; have r2 := own_below rd hb2; have hp2 : p + 1 ≤ w2.heap.size := Nat.le_trans hpr hb2.size)
        | (refine step_wp rfl (wp_append_own _ _ _ 34 rfl (p + 1) 24 i0 (.slice none 0 0) 1 24 Try.underlying34 hi0 hz0 hz1 hz2 rfl (by decide) _ _ _ rfl (r2.alloc (.cells #[.slice o2 (il t.cells k).length k2] 24)) ⟨w2.heap.size, 0, none⟩ 1 1 [.slice o2 (il t.cells k).length k2] rfl rfl (newcV _ _ _) (by simp [Value.oneCell']) (by unfold maxLen; omega) (by omega) (by simp; omega) ?_); intro v3 w3 ho hg3 hnil; obtain ⟨ov, cv, rfl⟩ := own_slice ho; have X3 := (X2.alloc (.cells #[.slice o2 (il t.cells k).length k2] 24)).kept hg3 (fun e => by have := hvo _ e; omega); have a3 : w3.cell? ⟨p, 1, none⟩ = some (.slice ox k kx) := X3.cell 1; have f3 := X3.frozen 1))
      all_goals
        have XF := X3.setCell 1 (.slice ov (k + 1) cv)
        have rA := r2.alloc (.cells #[.slice o2 (il t.cells k).length k2] 24)
        have D2 := (hdone.below (Below.refl wr.heap.size wr).drew).below hb2
        have DS := (D2.snoc (B := wr.drew.heap.size) hyl hHL.out q1 hpr).alloc (.cells #[.slice o2 (il t.cells k).length k2] 24)
        have D3 := (DS.keptRow rA hg3).setCellN (p := p) (q := 1) X3 (by decide) (.slice ov (k + 1) cv)
        have b2 := hbd.trans (hb2.mono hbd.size)
        have b3 := (b2.alloc (b2.size) (.cells #[.slice o2 (il t.cells k).length k2] 24)).grown hg3 (by have := b2.size; simp; omega) (fun j hj => by have := hvo _ hj; omega)
        have b4 : Below w.heap.size w (w3.setCell ⟨p, 1, none⟩ (.slice ov (k + 1) cv)) := b3.setCell (p := ⟨p, 1, none⟩) (by simp; omega) _
        have R1F := (((Blk.below (w' := wr.drew) R1 (Below.refl wr.heap.size wr).drew).below hb2).alloc (.cells #[.slice o2 (il t.cells k).length k2] 24)).kept hg3 (fun e => by have := hvo _ e; omega)
        have R2F := (((Blk.below (w' := wr.drew) R2 (Below.refl wr.heap.size wr).drew).below hb2).alloc (.cells #[.slice o2 (il t.cells k).length k2] 24)).kept hg3 (fun e => by have := hvo _ e; omega)
        have R1G := R1F.setCell_other ⟨p, 1, none⟩ (.slice ov (k + 1) cv) (by simp; omega)
        have R2G := R2F.setCell_other ⟨p, 1, none⟩ (.slice ov (k + 1) cv) (by simp; omega)
        have ownA := (own_below (own_below own (Below.refl wr.heap.size wr).drew) hb2).alloc (.cells #[.slice o2 (il t.cells k).length k2] 24)
        have own3 := ownA.kept hg3 (apart_ty ownA rA (by decide))
        have ownG := own_setCellN own3 p 1 (.slice ov (k + 1) cv) (own_ne_blk own3 X3 (by decide))
        have rowG := own_setCellN ho p 1 (.slice ov (k + 1) cv) (own_ne_blk ho X3 (by decide))
        clear j1 d0 d1 d2 d3 t1 t2 t3 u1 u2 u3 hu hLO hru BD hg2 hvo XD rd hpr hbd X2 a2 a2' r2 q1 hb2 hg3 hnil X3 a3 f3 rA D2 DS b2 b3 R1F R2F ownA own3 ho R1 R2 RX own hrow hdone hb
        go_wp2
        go_roundw
        case rel => exact ⟨k + 1, _, _, _, by go_num, by omega, by simp; omega, R1G, R2G, XF, ownG, rowG, D3, b4⟩
        case measure => simp [intOf]; omega
    · obtain rfl : k = t.cells.length := by omega
      go_wp2_with (first
        | (with_reducible refine wp_st_load rfl _ rfl ?_; refine ⟨p, rfl, _, _, RX, ?_⟩)
        | (with_reducible refine wp_st_store rfl _ _ rfl ?_; refine ⟨w.heap.size + 1, rfl, _, _, _, _, _, _, rfl, _, _, R2, ?_⟩)
        | go_in)
      refine bodyPost_ret (res_st Try.results87 _ _ _ _ _ rfl (R2.setRow _)) rfl ⟨_, rfl, ownSt_mk (B := p + 1) (ys := ys) (L := L) ?_ (fun a ha => by have := HLT.out a ha; omega) ?_ ?_ (by omega), below_row hb (by omega) _⟩
      · exact own_setRowN own _ _ (own_ne_blk own R2 (by decide))
      · exact own_setRowN hrow _ _ (own_ne_blk hrow R2 (by decide))
      · exact hdone.setRowN R2 (by decide) _
end Go.Proofs.Yteadkdllmeeocaa
