/- Texts of this claim, put together: part 25. -/
import Derived.Test.YtobimpgapfecoabBranchTotalsPack21
import Derived.Test.YtobimpgapfecoabRows
import Derived.WalkKit
import Derived.ProofKit
import Derived.OrdersHeld
import Derived.Test.YtobimpgapfecoabBranchTotalsPack23
import Derived.Test.YtobimpgapfecoabBranchTotalsPack24
import Derived.Test.YtobimpgapfecoabBranchTotalsPack22
import Derived.Test.YtobimpgapfecoabBranchTotalsPack8
import Derived.Test.YtobimpgapfecoabBranchTotalsPack10
import Derived.Test.YtobimpgapfecoabBranchTotalsPack7
import Derived.Test.YtobimpgapfecoabBranchTotalsPack14
/- What a branch has of each class, in plain words: bin by bin. -/
namespace Go.Proofs.Ytobimpgapfecoab
open Go.RowKit
set_option maxRecDepth 100000
theorem bin_place {m b k : Nat} (hk : k < m) : (b * m + k) % m = k ∧ (b * m + k) / m = b := by
  refine ⟨?_, ?_⟩
  · rw [Nat.mul_comm, Nat.mul_add_mod]; exact Nat.mod_eq_of_lt hk
  · rw [Nat.mul_comm, Nat.mul_add_div (by omega), Nat.div_eq_of_lt hk]; omega
theorem curL_step {s : SchemaD} {f : ForkD} {i : Int} {c : List Int} {m b k : Nat} (hk : k < m) (hb : branchOf s f (b : Int) = i) : curL s f i c m (b * m + (k + 1)) = (curL s f i c m (b * m + k)).set k (plSum s f i c m k (b * m + k) + c.getD (b * m + k) 0) := by
  obtain ⟨h1, h2⟩ := bin_place (b := b) hk
  have h := curL_hit (s := s) (f := f) (i := i) (c := c) (m := m) (p := b * m + k) (by omega) (by rw [h2]; exact hb)
  rw [h1] at h
  exact h
theorem curL_skip {s : SchemaD} {f : ForkD} {i : Int} {c : List Int} {m b : Nat} (_hm : 0 < m) (hb : branchOf s f (b : Int) ≠ i) : curL s f i c m ((b + 1) * m) = curL s f i c m (b * m) := by
  have h : ∀ r, r ≤ m → curL s f i c m (b * m + r) = curL s f i c m (b * m) := by
    intro r
    induction r with
    | zero => intro _; rfl
    | succ r ih =>
      intro hr
      obtain ⟨-, h2⟩ := bin_place (b := b) (show r < m by omega)
      have h3 := curL_miss (s := s) (f := f) (i := i) (c := c) (m := m) (p := b * m + r) (by rw [h2]; exact hb)
      rw [← Nat.add_assoc, h3]
      exact ih (by omega)
  rw [Nat.succ_mul]
  exact h m (Nat.le_refl _)
theorem branches_le {s : SchemaD} {f : ForkD} (_h : forkOk s f = true) : 0 ≤ branches s f ∧ branches s f ≤ 4 := by
  have := small_bins (forkAttr s f)
  unfold branches
  split <;> split <;> omega
end Go.Proofs.Ytobimpgapfecoab
/- A region that draws its order: what may be taken first where the last operation alone turns what is read. -/
namespace Go.Proofs.Ytobimpgapfecoab
section
variable {P : Program} {ops : Array Oper} {Q : Exit → Act → World → Prop} {md : Region.Mode} {S : World → Prop} {last : Nat}
/-- Whatever order is picked from here on, and S holds behind every operation but the last one. -/
def AnyL (P : Program) (md : Region.Mode) (ops : Array Oper) (Q : Exit → Act → World → Prop) (S : World → Prop) (last : Nat) : Nat → Array Bool → Act → World → Prop
  | 0, listed, a, w => Region.ready md ops listed = [] ∧ Q .normal a w
  | fuel + 1, listed, a, w =>
    (Region.ready md ops listed = [] → Q .normal a w) ∧
    ∀ i ∈ Region.ready md ops listed, wpOp P ops Q i (fun a' w' => (i ≠ last → listed.getD last true = false → S w') ∧ AnyL P md ops Q S last fuel (listed.setIfInBounds i true) a' w') a w
theorem wpAny_of_L : ∀ (fuel : Nat) (listed : Array Bool) (a : Act) (w : World), AnyL P md ops Q S last fuel listed a w → wpAny P md ops Q fuel listed a w
  | 0, _, _, _, h => h
  | fuel + 1, _, _, _, h => ⟨h.1, fun i hi => wpOp_mono (fun a' w' h' => wpAny_of_L fuel _ a' w' h'.2) (h.2 i hi)⟩
/-- Does operation k wait for operation i? -/
def waitsFor (md : Region.Mode) (ops : Array Oper) (k i : Nat) : Bool :=
  match ops[k]? with
  | some o => o.after.any fun e => Region.binds md e && e.on == i
  | none => false
theorem not_ready {k i : Nat} (h : waitsFor md ops k i = true) {listed : Array Bool} (hl : listed.getD i false = false) : k ∉ Region.ready md ops listed := by
  intro hk
  obtain ⟨-, o, ho, hall⟩ := mem_ready.1 hk
  unfold waitsFor at h
  rw [ho] at h
  obtain ⟨e, he, hb⟩ := Array.any_eq_true'.1 h
  rw [Bool.and_eq_true] at hb
  have := hall e he hb.1
  rw [eq_of_beq hb.2, hl] at this
  cases this
theorem unlisted {i : Nat} {listed : Array Bool} (hr : i ∈ Region.ready md ops listed) : listed.getD i false = false := by
  have h0 := (mem_ready.1 hr).1
  rcases Nat.lt_or_ge i listed.size with h' | h'
  · simp [h'] at h0 ⊢; exact h0
  · simp [Array.getElem?_eq_none h'] at h0
theorem AnyL_first {i : Nat} {oi : Oper} {v : Value} (hi : ops[i]? = some oi) (hsel : ∀ (j : Nat) (o : Oper) cs b, ops[j]? = some o → o.op ≠ .select cs b)
    (hQ : ∀ c a w, Q (.panic c) (a.put oi.dst v) w → Q (.panic c) a w) (hw : waitsFor md ops last i = true) :
    ∀ (fuel : Nat) (listed : Array Bool) (a : Act) (w : World), listed.getD last true = false →
      (∀ j oj, ops[j]? = some oj → j ≠ i → listed.getD j true = false → (∀ e ∈ oj.after, Region.binds md e = true → e.on ≠ i) → oi.apart ops oj = true) →
      i ∈ Region.ready md ops listed → YieldsIf P ops S oi v a → S w →
      AnyL P md ops Q S last fuel (listed.setIfInBounds i true) (a.put oi.dst v) w → AnyL P md ops Q S last (fuel + 1) listed a w := by
  intro fuel
  induction fuel with
  | zero =>
    intro listed a w hlu _ hr hy hS H
    refine ⟨fun h => (by rw [h] at hr; cases hr), fun j hj => ?_⟩
    by_cases hji : j = i
    · subst hji; exact hy.wpOp hi hS ⟨fun _ _ => hS, H⟩
    · have := ready_mono hj hji
      rw [H.1] at this
      cases this
  | succ fuel ih =>
    intro listed a w hlu hfree hr hy hS H
    refine ⟨fun h => (by rw [h] at hr; cases hr), fun j hj => ?_⟩
    by_cases hji : j = i
    · subst hji; exact hy.wpOp hi hS ⟨fun _ _ => hS, H⟩
    · have h1 := H.2 j (ready_mono hj hji)
      have hjl : j ≠ last := fun e => not_ready hw (unlisted hr) (e ▸ hj)
      obtain ⟨hjun, oj, hoj, hall⟩ := mem_ready.1 hj
      have hnot : ∀ e ∈ oj.after, Region.binds md e = true → e.on ≠ i := fun e he hb heq => by
        have h1 := hall e he hb
        rw [heq, unlisted hr] at h1
        cases h1
      have h2 := wpOp_putIf hoj (hfree j oj hoj hji hjun hnot) (fun cs b => hsel i oi cs b hi) (fun cs b => hsel j oj cs b hoj) hQ hy h1
      have hfree' : ∀ k ok, ops[k]? = some ok → k ≠ i → (listed.setIfInBounds j true).getD k true = false →
          (∀ e ∈ ok.after, Region.binds md e = true → e.on ≠ i) → oi.apart ops ok = true := fun k ok hk hki hun hno => by
        refine hfree k ok hk hki ?_ hno
        by_cases hjk : j = k
        · subst hjk; exact hjun
        · rw [Go.getD_set_ne true hjk] at hun; exact hun
      have hil : i ≠ last := fun e => by
        subst e
        exact not_ready hw (unlisted hr) hr
      have hl2 : (listed.setIfInBounds i true).getD last true = false := by rw [Go.getD_set_ne true hil]; exact hlu
      have hl3 : (listed.setIfInBounds j true).getD last true = false := by rw [Go.getD_set_ne true hjl]; exact hlu
      refine wpOp_mono (fun a' w' h3 => ⟨fun _ _ => h3.2.1 hjl hl2, ih (listed.setIfInBounds j true) a' w' hl3 hfree' (ready_mono hr (Ne.symm hji)) h3.1 (h3.2.1 hjl hl2) ?_⟩) h2
      rw [Array.setIfInBounds_comm _ _ hji]
      exact h3.2.2
/-- Number i may come up now and reads what S says: it is taken first. -/
theorem firstL (i : Nat) {oi : Oper} (v : Value) {fuel : Nat} {listed : Array Bool} {a : Act} {w : World} (hi : ops.toList[i]? = some oi)
    (hs : Region.noSelect ops = true) (hf : Region.free md ops listed i = true) (hr : (Region.ready md ops listed).contains i = true)
    (hQ : ∀ c a w, Q (.panic c) (a.put oi.dst v) w → Q (.panic c) a w) (hw : (waitsFor md ops last i && !listed.getD last true) = true) (hy : YieldsIf P ops S oi v a) (hS : S w)
    (h : AnyL P md ops Q S last fuel (listed.setIfInBounds i true) (a.put oi.dst v) w) : AnyL P md ops Q S last (fuel + 1) listed a w := by
  have hi' : ops[i]? = some oi := by simpa using hi
  rw [Bool.and_eq_true, Bool.not_eq_true'] at hw
  exact AnyL_first hi' (Region.noSelect_spec hs) hQ hw.1 fuel listed a w hw.2 (Region.free_spec hi' hf) (by simpa using hr) hy hS h
theorem AnyL_pure {i : Nat} {oi : Oper} {v : Value} (hi : ops[i]? = some oi) (hsel : ∀ (j : Nat) (o : Oper) cs b, ops[j]? = some o → o.op ≠ .select cs b)
    (hQ : ∀ c a w, Q (.panic c) (a.put oi.dst v) w → Q (.panic c) a w) (hil : i ≠ last) :
    ∀ (fuel : Nat) (listed : Array Bool) (a : Act) (w : World),
      (∀ j oj, ops[j]? = some oj → j ≠ i → listed.getD j true = false → (∀ e ∈ oj.after, Region.binds md e = true → e.on ≠ i) → oi.apart ops oj = true) →
      i ∈ Region.ready md ops listed → YieldsIf P ops (fun _ => True) oi v a → (listed.getD last true = false → S w) →
      AnyL P md ops Q S last fuel (listed.setIfInBounds i true) (a.put oi.dst v) w → AnyL P md ops Q S last (fuel + 1) listed a w := by
  intro fuel
  induction fuel with
  | zero =>
    intro listed a w _ hr hy hS H
    refine ⟨fun h => (by rw [h] at hr; cases hr), fun j hj => ?_⟩
    by_cases hji : j = i
    · subst hji; exact hy.wpOp hi trivial ⟨fun _ => hS, H⟩
    · have := ready_mono hj hji
      rw [H.1] at this
      cases this
  | succ fuel ih =>
    intro listed a w hfree hr hy hS H
    refine ⟨fun h => (by rw [h] at hr; cases hr), fun j hj => ?_⟩
    by_cases hji : j = i
    · subst hji; exact hy.wpOp hi trivial ⟨fun _ => hS, H⟩
    · have h1 := H.2 j (ready_mono hj hji)
      obtain ⟨hjun, oj, hoj, hall⟩ := mem_ready.1 hj
      have hnot : ∀ e ∈ oj.after, Region.binds md e = true → e.on ≠ i := fun e he hb heq => by
        have h1 := hall e he hb
        rw [heq, unlisted hr] at h1
        cases h1
      have h2 := wpOp_putIf hoj (hfree j oj hoj hji hjun hnot) (fun cs b => hsel i oi cs b hi) (fun cs b => hsel j oj cs b hoj) hQ hy h1
      have hfree' : ∀ k ok, ops[k]? = some ok → k ≠ i → (listed.setIfInBounds j true).getD k true = false →
          (∀ e ∈ ok.after, Region.binds md e = true → e.on ≠ i) → oi.apart ops ok = true := fun k ok hk hki hun hno => by
        refine hfree k ok hk hki ?_ hno
        by_cases hjk : j = k
        · subst hjk; exact hjun
        · rw [Go.getD_set_ne true hjk] at hun; exact hun
      have hl2 : (listed.setIfInBounds i true).getD last true = listed.getD last true := Go.getD_set_ne true hil
      refine wpOp_mono (fun a' w' h3 => ⟨fun e1 e2 => h3.2.1 e1 (by rw [hl2]; exact e2), ih (listed.setIfInBounds j true) a' w' hfree' (ready_mono hr (Ne.symm hji)) h3.1 (fun e3 => ?_) ?_⟩) h2
      · by_cases hjl : j = last
        · subst hjl
          have := (mem_ready.1 hj).1
          exfalso
          rcases Nat.lt_or_ge j listed.size with h' | h'
          · simp [h'] at e3
          · simp [Array.getElem?_eq_none h'] at hjun
        · rw [Go.getD_set_ne true hjl] at e3
          exact h3.2.1 hjl (by rw [hl2]; exact e3)
      · rw [Array.setIfInBounds_comm _ _ hji]
        exact h3.2.2
/-- Number i may come up now and reads no world: it is taken first, whether the last one waits for it or not. -/
theorem pureL (i : Nat) {oi : Oper} (v : Value) {fuel : Nat} {listed : Array Bool} {a : Act} {w : World} (hi : ops.toList[i]? = some oi)
    (hs : Region.noSelect ops = true) (hf : Region.free md ops listed i = true) (hr : (Region.ready md ops listed).contains i = true)
    (hQ : ∀ c a w, Q (.panic c) (a.put oi.dst v) w → Q (.panic c) a w) (hil : i ≠ last) (hy : YieldsIf P ops (fun _ => True) oi v a) (hS : S w)
    (h : AnyL P md ops Q S last fuel (listed.setIfInBounds i true) (a.put oi.dst v) w) : AnyL P md ops Q S last (fuel + 1) listed a w := by
  have hi' : ops[i]? = some oi := by simpa using hi
  exact AnyL_pure hi' (Region.noSelect_spec hs) hQ hil fuel listed a w (Region.free_spec hi' hf) (by simpa using hr) hy (fun _ => hS) h
/-- The one operation that may come up now; S is shown anew behind it. -/
theorem stepL (i : Nat) {oi : Oper} {fuel : Nat} {listed : Array Bool} {a : Act} {w : World} (hi : ops.toList[i]? = some oi) (hr : Region.ready md ops listed = [i])
    (hw : Region.wanted oi (yielded ops a.tmps) = true)
    (h : ∀ K' : Act → World → Prop, (∀ a w, S w → AnyL P md ops Q S last fuel (listed.setIfInBounds i true) a w → K' a w) → Oper.wp P oi a w K' Q) : AnyL P md ops Q S last (fuel + 1) listed a w := by
  have hi' : ops[i]? = some oi := by simpa using hi
  refine ⟨fun h0 => (by rw [hr] at h0; cases h0), fun j hj => ?_⟩
  rw [hr, List.mem_singleton] at hj
  subst hj
  refine wpOp_step hi' fun K' hK => ?_
  rw [if_pos hw]
  exact h K' fun a w hS hA => hK a w ⟨fun _ _ => hS, hA⟩
/-- The last operation: nothing is asked of S behind it. -/
theorem lastL {oi : Oper} {fuel : Nat} {listed : Array Bool} {a : Act} {w : World} (hi : ops.toList[last]? = some oi) (hr : Region.ready md ops listed = [last])
    (hd : Region.ready md ops (listed.setIfInBounds last true) = []) (hw : Region.wanted oi (yielded ops a.tmps) = true)
    (h : Oper.wp P oi a w (fun a' w' => Q .normal a' w') Q) : AnyL P md ops Q S last (fuel + 1) listed a w := by
  have hi' : ops[last]? = some oi := by simpa using hi
  refine ⟨fun h0 => (by rw [hr] at h0; cases h0), fun j hj => ?_⟩
  rw [hr, List.mem_singleton] at hj
  subst hj
  refine wpOp_step hi' fun K' hK => ?_
  rw [if_pos hw]
  refine Oper.wp_mono (fun a' w' hq => hK a' w' ⟨fun h _ => absurd rfl h, ?_⟩) h
  cases fuel with
  | zero => exact ⟨hd, hq⟩
  | succ n => exact ⟨fun _ => hq, by rw [hd]; simp⟩
theorem region_L {id : Nat} {a : Act} {w : World} (S : World → Prop) (last : Nat) (hm : P.follows .mixedOrders = true)
    (h : AnyL P .any ops Q S last ops.size (Array.replicate ops.size false) a w.drew) : (Code.region id ops true).wp P Q a w :=
  wp_region_any hm (wpAny_of_L _ _ _ _ h)
end
end Go.Proofs.Ytobimpgapfecoab
/- What a branch has of each class, by the specification. -/
namespace Go.Proofs.Ytobimpgapfecoab
open Go.RowKit
set_option maxRecDepth 100000
set_option linter.unusedSimpArgs false
theorem totals_noneS {s : SchemaD} {t : StatsD} {f : ForkD} {i : Int} (h : totalsOk s t f i = false) : branchTotals s t f i = [] := by unfold branchTotals; rw [if_neg (by rw [h]; exact Bool.false_ne_true)]
set_option maxHeartbeats 6400000 in
theorem specBranchTotals_any (vs vt : Value) (s : SchemaD) (t : StatsD) (f : ForkD) (i : Int) (w : World) (hs : SchemaAt w vs s) (ht : StatsAt w vt t) (hn : okSch s) (hb : okSt t) :
    Calls Try.prog 29 #[vs, vt, forkV f, .int .i64 i] w fun e w' => ∃ v, e = .returned v ∧ OwnI w w' v (branchTotals s t f i) := by
  unfold forkV
  have mixed : Try.prog.follows .mixedOrders = true := by kernel_rfl
  have HS : Hid (∀ W, Below w.heap.size w W → SchemaAt W vs s) := fun W h => hs.later h
  have HT : Hid (∀ W, Below w.heap.size w W → StatsAt W vt t) := fun W h => ht.later h
  have HOK : Hid (okSch s) := hn
  have HOT : Hid (okSt t) := hb
  have HFOK : Hid (∀ W, Below w.heap.size w W → Calls Try.prog 64 #[vs, .agg #[.int .i64 f.attr, .int .i64 f.pos]] W fun e w' => e = .returned (.bool (forkOk s f)) ∧ Below W.heap.size W w') := fun W hW => specForkOk_any vs s f W (hs.later hW) hn
  have HBRS : Hid (∀ W, Below w.heap.size w W → Calls Try.prog 65 #[vs, .agg #[.int .i64 f.attr, .int .i64 f.pos]] W fun e w' => e = .returned (.int .i64 (branches s f)) ∧ Below W.heap.size W w') := fun W hW => specBranches_any vs s f W (hs.later hW) hn
  have HBOF : Hid (∀ (b : Int) W, Below w.heap.size w W → Calls Try.prog 67 #[vs, .agg #[.int .i64 f.attr, .int .i64 f.pos], .int .i64 b] W fun e w' => e = .returned (.int .i64 (branchOf s f b)) ∧ Below W.heap.size W w') := fun b W hW => specBranchOf_any vs s f b W (hs.later hW) hn
  obtain ⟨va, vc, rfl, ra, rc⟩ := hs
  obtain ⟨oa, ka, rfl, -, -⟩ := id ra
  obtain ⟨oc, kc, rfl, -, -⟩ := id rc
  obtain ⟨vx, vy, rfl, rx, ry⟩ := ht
  obtain ⟨ox, kx, rfl, -, -⟩ := id rx
  obtain ⟨oy, ky, rfl, -, -⟩ := id ry
  clear ra rc rx ry
  have la := hn.attrs
  have ly := hb.cells
  clear hn hb
  obtain ⟨KS, KT, KF, B⟩ := blk_3 40 35 60 w #[.slice oa s.attrs.length ka, .slice oc s.classes.length kc] #[.slice ox t.totals.length kx, .slice oy t.cells.length ky] #[.int .i64 f.attr, .int .i64 f.pos]
  go_enter Try.func29, Try.ntmps29
  have cc := specStatsOk_any _ _ s t _ (HS.out _ B) (HT.out _ B) HOK.out HOT.out
  have kS0 : (((w.alloc (.cells #[.slice oa s.attrs.length ka, .slice oc s.classes.length kc] 40)).alloc (.cells #[.slice ox t.totals.length kx, .slice oy t.cells.length ky] 35)).alloc (.cells #[.int .i64 f.attr, .int .i64 f.pos] 60)).cell? ⟨w.heap.size, 0, none⟩ = some (.slice oa s.attrs.length ka) := KS.cell 0
  have kS1 : (((w.alloc (.cells #[.slice oa s.attrs.length ka, .slice oc s.classes.length kc] 40)).alloc (.cells #[.slice ox t.totals.length kx, .slice oy t.cells.length ky] 35)).alloc (.cells #[.int .i64 f.attr, .int .i64 f.pos] 60)).cell? ⟨w.heap.size, 1, none⟩ = some (.slice oc s.classes.length kc) := KS.cell 1
  have kT0 : (((w.alloc (.cells #[.slice oa s.attrs.length ka, .slice oc s.classes.length kc] 40)).alloc (.cells #[.slice ox t.totals.length kx, .slice oy t.cells.length ky] 35)).alloc (.cells #[.int .i64 f.attr, .int .i64 f.pos] 60)).cell? ⟨w.heap.size + 1, 0, none⟩ = some (.slice ox t.totals.length kx) := KT.cell 0
  have kT1 : (((w.alloc (.cells #[.slice oa s.attrs.length ka, .slice oc s.classes.length kc] 40)).alloc (.cells #[.slice ox t.totals.length kx, .slice oy t.cells.length ky] 35)).alloc (.cells #[.int .i64 f.attr, .int .i64 f.pos] 60)).cell? ⟨w.heap.size + 1, 1, none⟩ = some (.slice oy t.cells.length ky) := KT.cell 1
  go_wp2_with fail
  refine cc.mono ?_
  clear cc
  clear kS0 kS1 kT0 kT1
  rintro e w1 ⟨rfl, hb⟩
  replace KS := KS.below hb
  replace KT := KT.below hb
  replace KF := KF.below hb
  replace B := B.trans (hb.mono B.size)
  clear hb
  cases hk : statsOk s t with
  | false =>
    have HE : Hid (branchTotals s t f i = []) := totals_noneS (by unfold totalsOk; rw [hk]; rfl)
    go_wp2
    go_ret
    exact ⟨_, rfl, by rw [HE.out]; exact ownI_lit0 _ _ B.size, B.alloc B.size _⟩
  | true =>
    have HST : Hid (statsOk s t = true) := hk
    clear hk
    by_cases h0 : t.cells.length = 0
    ·
      have HE : Hid (branchTotals s t f i = []) := totals_noneS (by unfold totalsOk; rw [decide_eq_false (fun h => h h0)]; simp)
      have hq : ((t.cells.length : Int) == 0) = true := by rw [h0]; rfl
      have kT0 : w1.cell? ⟨w.heap.size + 1, 0, none⟩ = some (.slice ox t.totals.length kx) := KT.cell 0
      have kT1 : w1.cell? ⟨w.heap.size + 1, 1, none⟩ = some (.slice oy t.cells.length ky) := KT.cell 1
      go_wp2
      go_ret
      exact ⟨_, rfl, by rw [HE.out]; exact ownI_lit0 _ _ B.size, B.alloc B.size _⟩
    have hq : ((t.cells.length : Int) == 0) = false := by rw [beq_eq_false_iff_ne]; omega
    have HN0 : Hid (t.cells.length ≠ 0) := h0
    clear h0
    have cc := HFOK.out _ B
    have kS0 : w1.cell? ⟨w.heap.size, 0, none⟩ = some (.slice oa s.attrs.length ka) := KS.cell 0
    have kS1 : w1.cell? ⟨w.heap.size, 1, none⟩ = some (.slice oc s.classes.length kc) := KS.cell 1
    have kT0 : w1.cell? ⟨w.heap.size + 1, 0, none⟩ = some (.slice ox t.totals.length kx) := KT.cell 0
    have kT1 : w1.cell? ⟨w.heap.size + 1, 1, none⟩ = some (.slice oy t.cells.length ky) := KT.cell 1
    have kF0 : w1.cell? ⟨w.heap.size + 1 + 1, 0, none⟩ = some (.int .i64 f.attr) := KF.cell 0
    have kF1 : w1.cell? ⟨w.heap.size + 1 + 1, 1, none⟩ = some (.int .i64 f.pos) := KF.cell 1
    go_wp2_with fail
    refine cc.mono ?_
    clear cc
    clear kS0 kS1 kT0 kT1 kF0 kF1
    rintro e w2 ⟨rfl, hb⟩
    replace KS := KS.below hb
    replace KT := KT.below hb
    replace KF := KF.below hb
    replace B := B.trans (hb.mono B.size)
    clear hb
    cases hk : forkOk s f with
    | false =>
      have HE : Hid (branchTotals s t f i = []) := totals_noneS (by unfold totalsOk; rw [hk]; simp)
      go_wp2
      go_ret
      exact ⟨_, rfl, by rw [HE.out]; exact ownI_lit0 _ _ B.size, B.alloc B.size _⟩
    | true =>
      have HQ : Hid (forkOk s f = true) := hk
      clear hk
      have cc := HBRS.out _ B
      obtain ⟨nb, hnb⟩ : ∃ nb, branches s f = nb := ⟨_, rfl⟩
      rw [hnb] at cc
      have HNB : Hid (branches s f = nb) := hnb
      have hnbl : 0 ≤ nb ∧ nb ≤ 4 := by rw [← hnb]; exact branches_le HQ.out
      clear hnb
      have kS0 : w2.cell? ⟨w.heap.size, 0, none⟩ = some (.slice oa s.attrs.length ka) := KS.cell 0
      have kS1 : w2.cell? ⟨w.heap.size, 1, none⟩ = some (.slice oc s.classes.length kc) := KS.cell 1
      have kF0 : w2.cell? ⟨w.heap.size + 1 + 1, 0, none⟩ = some (.int .i64 f.attr) := KF.cell 0
      have kF1 : w2.cell? ⟨w.heap.size + 1 + 1, 1, none⟩ = some (.int .i64 f.pos) := KF.cell 1
      go_wp2_with fail
      refine cc.mono ?_
      clear cc
      clear kS0 kS1 kF0 kF1
      rintro e w3 ⟨rfl, hb⟩
      replace KS := KS.below hb
      replace KT := KT.below hb
      replace KF := KF.below hb
      replace B := B.trans (hb.mono B.size)
      clear hb
      have cc := in_any i 0 (nb - 1) w3
      go_wp2_with fail
      refine cc.mono ?_
      clear cc
      rintro e w9 ⟨rfl, e9⟩
      rw [e9]
      clear e9 w9
      by_cases hi : 0 ≤ i ∧ i ≤ nb - 1
      rotate_left
      ·
        have HE : Hid (branchTotals s t f i = []) := totals_noneS (by unfold totalsOk; rw [HNB.out, decide_eq_false hi]; simp)
        rw [decide_eq_false hi]
        go_wp2
        go_ret
        exact ⟨_, rfl, by rw [HE.out]; exact ownI_lit0 _ _ B.size, B.alloc B.size _⟩
      rw [decide_eq_true hi]
      have HTO : totalsOk s t f i = true := by
        unfold totalsOk
        rw [HST.out, decide_eq_true HN0.out, HQ.out, HNB.out, decide_eq_true hi]; rfl
      obtain ⟨-, ⟨a, hfa, hal, hat⟩, -, -⟩ := fork_parts HQ.out
      obtain ⟨hac, hlen, hcol⟩ := cells_right HST.out HN0.out hal
      have hm := sch_classes (statsOk_parts HST.out).1
      have hn4 := small_bins (ad s.attrs a)
      have HRES : Hid (branchTotals s t f i = curL s f i (il t.cells a) s.classes.length ((bins (ad s.attrs a)).toNat * s.classes.length)) := by show _ = _; rw [curL_all HTO, hat, hfa]; rfl
      obtain ⟨m, hmm⟩ : ∃ m, s.classes.length = m := ⟨_, rfl⟩
      obtain ⟨n, hnn⟩ : ∃ n, (bins (ad s.attrs a)).toNat = n := ⟨_, rfl⟩
      have HBN : Hid (bins (ad s.attrs a) = (n : Int)) := by show _ = _; omega
      have hn5 : n ≤ 4 := by omega
      rw [hmm, hnn] at hcol hlen HRES
      rw [hmm] at hm
      have HCOL : Hid (∀ b k, b < n → k < m → inW (colAt (il t.cells a) m k b) = true) := hcol
      clear hcol hnn hn4 hi HTO hat hnbl
      obtain ⟨c, hc⟩ : ∃ c, il t.cells a = c := ⟨_, rfl⟩
      rw [hc] at hlen HRES HCOL
      have hnm : n * m ≤ 12 := by have := Nat.mul_le_mul hn5 hm.2; omega
      have HCC : Hid (il t.cells a = c) := hc
      have HMM : Hid (s.classes.length = m) := hmm
      rw [hmm] at KS
      have hlow := KF.lt
      clear hmm hc
      have kS1 : w3.cell? ⟨w.heap.size, 1, none⟩ = some (.slice oc m kc) := KS.cell 1
      have hsz := B.size
      go_wp2_with (at_make; refine wpList_make_ints rfl _ rfl w3.heap.size m _ rfl rfl (by omega) (Nat.le_refl _) ?_)
      intro w6 hown hg
      clear kS1
      have bM : Below w3.heap.size w3 w6 := (Below.refl _ _).grown hg (Nat.le_refl _) (fun k hk => by cases hk)
      clear hg
      rw [hfa] at KF
      have HK : Hid (∀ W, Below w3.heap.size w3 W → Blk 40 W w.heap.size #[.slice oa s.attrs.length ka, .slice oc m kc] ∧ Blk 35 W (w.heap.size + 1) #[.slice ox t.totals.length kx, .slice oy t.cells.length ky] ∧ Blk 60 W (w.heap.size + 1 + 1) #[.int .i64 (a : Int), .int .i64 f.pos]) := fun W h => ⟨KS.below h, KT.below h, KF.below h⟩
      have HB5 : Hid (Below w.heap.size w w3) := B
      clear KS KT KF B
      have HBOF2 : Hid (∀ (b : Int) W, Below w.heap.size w W → Calls Try.prog 67 #[.agg #[.slice oa s.attrs.length ka, .slice oc m kc], .agg #[.int .i64 (a : Int), .int .i64 f.pos], .int .i64 b] W fun e w' => e = .returned (.int .i64 (branchOf s f b)) ∧ Below W.heap.size W w') := fun b W h => by have := HBOF.out b W h; rwa [hfa, HMM.out] at this
      obtain ⟨vx', vy', e', -, ry⟩ := HT.out w (Below.refl _ _)
      cases e'
      obtain ⟨oy', ky', e', -, hry⟩ := ry
      cases e'
      obtain ⟨gy, fy, rfl, hgy, hjy⟩ := hry (by omega)
      obtain ⟨u, hcu, hru⟩ := hjy a hac
      rw [HCC.out] at hru
      obtain ⟨og, kg, rfl, -, hrr⟩ := hru
      have HSA : Hid (∀ W, Below w.heap.size w W → SchemaAt W (.agg #[.slice oa s.attrs.length ka, .slice oc s.classes.length kc]) s) := HS
      have HCJ : Hid (∀ j, j < c.length → ∃ gb ob, og = some ⟨gb, ob, none⟩ ∧ ∀ W, Below w.heap.size w W → W.cell? ⟨gb, ob + j, none⟩ = some (.int .i64 (c.getD j 0))) := fun j hj => by
        obtain ⟨gb, ob, rfl, hgb, hjc⟩ := hrr (by omega)
        exact ⟨gb, ob, rfl, fun W h => (h.cell (p := ⟨gb, ob + j, none⟩) hgb).trans (hjc j hj)⟩
      have HCU : Hid (∀ W, Below w.heap.size w W → W.cell? ⟨gy, fy + a, none⟩ = some (.slice og c.length kg)) := fun W h => (h.cell (p := ⟨gy, fy + a, none⟩) hgy).trans hcu
      clear hjy hry hrr hcu HS HBOF HFOK HBRS HT hfa
      replace hown : w6.ownsRow w3.heap.size 3 1 (.slice (some ⟨w3.heap.size, 0, none⟩) m m) m ((curL s f i c m (0 * m)).map (Value.int .i64)) := by rw [Nat.zero_mul, curL_zero, List.map_replicate]; exact hown
      generalize hgo : w3.heap.size = go at hown ⊢
      have HGO : Hid (w3.heap.size = go) := hgo
      have hgw : w.heap.size + 1 + 1 < go := by rw [← hgo]; exact hlow
      clear hgo
      go_wp2
      go_loopw [10] (fun idx wr => ∃ b : Nat, idx = .int .i64 b ∧ b ≤ n ∧ wr.ownsRow go 3 1 (.slice (some ⟨go, 0, none⟩) m m) m ((curL s f i c m (b * m)).map (Value.int .i64)) ∧ Hid (Below w3.heap.size w3 wr)) (fun idx _ => n - (intOf idx).toNat)
      case atStart => exact ⟨0, rfl, by omega, hown, bM⟩
      case round =>
        clear hown bM
        obtain ⟨b, rfl, hbn, hown, HBR⟩ := hrel
        have hbr := HBR.out
        have B := HB5.out.trans (hbr.mono hsz)
        obtain ⟨ga, fa, y1, z1, y2, z2, rfl, hat⟩ := attr_at (HSA.out wr B) hal
        have HAT : Hid _ := hat
        obtain ⟨c0, c1, c2, hA⟩ := hat _ (Below.refl _ _)
        clear hat
        have cc := specBins_any _ _ _ hA (HOK.out.each _ (ad_mem hal))
        rw [HBN.out] at cc
        have kS0 : wr.cell? ⟨w.heap.size, 0, none⟩ = some (.slice (some ⟨ga, fa, none⟩) s.attrs.length ka) := (HK.out _ hbr).1.cell 0
        have kF0 : wr.cell? ⟨w.heap.size + 1 + 1, 0, none⟩ = some (.int .i64 (a : Int)) := (HK.out _ hbr).2.2.cell 0
        go_wp2_with fail
        refine cc.mono ?_
        clear cc kS0 kF0 c0 c1 c2 hA
        rintro e w7 ⟨rfl, hb⟩
        replace hown := own_below hown hb
        replace hbr := hbr.trans (hb.mono hbr.size)
        replace B := B.trans (hb.mono B.size)
        clear hb
        by_cases hlt : b < n
        rotate_left
        · obtain rfl : b = n := by omega
          go_wp2
          go_ret
          exact ⟨_, rfl, by rw [HRES.out, curL_len]; exact own_base hown (by rw [← HGO.out]; exact hsz), B⟩
        have cc := HBOF2.out (b : Int) w7 B
        have HSKIP : Hid (branchOf s f (b : Int) ≠ i → curL s f i c m ((b + 1) * m) = curL s f i c m (b * m)) := fun h => curL_skip (by omega) h
        have HHIT : Hid (branchOf s f (b : Int) = i → ∀ k, k < m → curL s f i c m (b * m + (k + 1)) = (curL s f i c m (b * m + k)).set k (plSum s f i c m k (b * m + k) + c.getD (b * m + k) 0)) := fun h k hk => curL_step hk h
        generalize branchOf s f (b : Int) = y at cc HSKIP HHIT
        have kS0 : w7.cell? ⟨w.heap.size, 0, none⟩ = some (.slice (some ⟨ga, fa, none⟩) s.attrs.length ka) := (HK.out _ hbr).1.cell 0
        have kS1 : w7.cell? ⟨w.heap.size, 1, none⟩ = some (.slice oc m kc) := (HK.out _ hbr).1.cell 1
        have kF0 : w7.cell? ⟨w.heap.size + 1 + 1, 0, none⟩ = some (.int .i64 (a : Int)) := (HK.out _ hbr).2.2.cell 0
        have kF1 : w7.cell? ⟨w.heap.size + 1 + 1, 1, none⟩ = some (.int .i64 f.pos) := (HK.out _ hbr).2.2.cell 1
        go_wp2_with fail
        refine cc.mono ?_
        clear cc kS0 kS1 kF0 kF1
        rintro e w8 ⟨rfl, hb⟩
        replace hown := own_below hown hb
        replace hbr := hbr.trans (hb.mono hbr.size)
        clear hb B
        by_cases hyi : y = i
        rotate_left
        · have hq2 : (y == i) = false := by rw [beq_eq_false_iff_ne]; exact hyi
          have HNX := HSKIP.out hyi
          have HNXT : Hid (curL s f i c m ((b + 1) * m) = curL s f i c m (b * m)) := HNX
          clear HNX hyi HHIT HSKIP
          go_wp2
          go_roundw
          case rel =>
            refine ⟨b + 1, by go_num, by omega, ?_, hbr⟩
            rw [HNXT.out]
            exact hown
          case measure => simp [intOf]; omega
        have hq2 : (y == i) = true := by rw [hyi]; exact beq_self_eq_true i
        have HHT : Hid (∀ k, k < m → curL s f i c m (b * m + (k + 1)) = (curL s f i c m (b * m + k)).set k (plSum s f i c m k (b * m + k) + c.getD (b * m + k) 0)) := HHIT.out hyi
        clear hyi HHIT HSKIP
        go_wp2
        go_loopw [11] (fun idx wr => ∃ k : Nat, idx = .int .i64 k ∧ k ≤ m ∧ wr.ownsRow go 3 1 (.slice (some ⟨go, 0, none⟩) m m) m ((curL s f i c m (b * m + k)).map (Value.int .i64)) ∧ Hid (Below w3.heap.size w3 wr)) (fun idx _ => m - (intOf idx).toNat)
        case atStart => exact ⟨0, rfl, by omega, hown, hbr⟩
        case round =>
          clear hown hbr
          obtain ⟨k, rfl, hkm, hown, HBR2⟩ := hrel
          have hbr := HBR2.out
          by_cases hkt : k < m
          rotate_left
          · obtain rfl : k = m := by omega
            go_wp2
            go_roundw
            case rel =>
              refine ⟨b + 1, by go_num, by omega, ?_, hbr⟩
              rw [Nat.succ_mul]
              exact hown
            case measure => simp [intOf]; omega
          have hpl : b * m + k < n * m := by have := Nat.mul_le_mul_right m (show b + 1 ≤ n by omega); rw [Nat.succ_mul] at this; omega
          have HQM : Hid ((b : Int) * (m : Int) = ((b * m : Nat) : Int)) := (Int.natCast_mul _ _).symm
          have hbm2 : b * m ≤ 12 := by omega
          have hx := place_col (show 0 < m by omega) hpl HCOL.out
          have hz := plSum_le (s := s) (f := f) (i := i) (k := k) (show 0 < m by omega) HCOL.out (b * m + k) (by omega)
          have HN := HHT.out k hkt
          have HNXT : Hid (curL s f i c m (b * m + (k + 1)) = (curL s f i c m (b * m + k)).set k (plSum s f i c m k (b * m + k) + c.getD (b * m + k) 0)) := HN
          have HVAT : Hid ((curL s f i c m (b * m + k)).getD k 0 = plSum s f i c m k (b * m + k)) := curL_at hkt
          obtain ⟨gb, ob, rfl, hcx⟩ := HCJ.out (b * m + k) (by omega)
          clear HN
          generalize plSum s f i c m k (b * m + k) = z at hz HNXT HVAT
          have bd : Below wr.heap.size wr wr.drew := below_drewN (Below.refl _ _) 1
          replace hown := own_below hown bd
          replace hbr := hbr.trans (bd.mono hbr.size)
          have B := HB5.out.trans (hbr.mono hsz)
          have kcx := hcx _ B
          have ku := HCU.out _ B
          obtain ⟨KS, KT, KF⟩ := HK.out _ hbr
          have hrl : k < (curL s f i c m (b * m + k)).length := by rw [curL_len]; exact hkt
          have hcO : wr.drew.cell? ⟨go, k, none⟩ = some (.int .i64 z) := by rw [hown.cellAt k (by omega), getD_mapI _ k hrl, HVAT.out]
          have hfO : wr.drew.frozen? ⟨go, k, none⟩ = false := hown.frozenAt k
          have hst := hown.stored k (.int .i64 (z + c.getD (b * m + k) 0))
          generalize c.getD (b * m + k) 0 = x at hx kcx HNXT hst
          clear hcx bd hrl B hown
          obtain ⟨q, hqe⟩ : ∃ q, b * m = q := ⟨_, rfl⟩
          rw [hqe] at HQM hbm2 kcx hpl
          obtain ⟨jj, hje⟩ : ∃ jj, q + k = jj := ⟨_, rfl⟩
          have HJJ : Hid ((q : Int) + (k : Int) = (jj : Int)) := by show _ = _; omega
          have hjl : jj < c.length ∧ jj ≤ 12 := by omega
          rw [hje] at kcx
          have HWR : Hid (IntKind.i64.wrap ((b : Int) * (m : Int)) = (q : Int)) := by show _ = _; rw [HQM.out, IntKind.wrap_i64]; omega
          have hq0 : 0 ≤ (b : Int) * (m : Int) ∧ (b : Int) * (m : Int) ≤ 12 := by rw [HQM.out]; omega
          clear hqe hje hpl
          go_wp2_with fail
          refine region_L (S := fun w' => Blk 40 w' w.heap.size #[.slice (some ⟨ga, fa, none⟩) s.attrs.length ka, .slice oc m kc] ∧ Blk 35 w' (w.heap.size + 1) #[.slice ox t.totals.length kx, .slice (some ⟨gy, fy, none⟩) t.cells.length ky] ∧ Blk 60 w' (w.heap.size + 1 + 1) #[.int .i64 (a : Int), .int .i64 f.pos] ∧ w'.cell? ⟨gy, fy + a, none⟩ = some (.slice (some ⟨gb, ob, none⟩) c.length kg) ∧ w'.cell? ⟨gb, ob + jj, none⟩ = some (.int .i64 x) ∧ w'.cell? ⟨go, k, none⟩ = some (.int .i64 z)) (last := 23) mixed ?_
          have hS : Blk 40 wr.drew w.heap.size #[.slice (some ⟨ga, fa, none⟩) s.attrs.length ka, .slice oc m kc] ∧ Blk 35 wr.drew (w.heap.size + 1) #[.slice ox t.totals.length kx, .slice (some ⟨gy, fy, none⟩) t.cells.length ky] ∧ Blk 60 wr.drew (w.heap.size + 1 + 1) #[.int .i64 (a : Int), .int .i64 f.pos] ∧ wr.drew.cell? ⟨gy, fy + a, none⟩ = some (.slice (some ⟨gb, ob, none⟩) c.length kg) ∧ wr.drew.cell? ⟨gb, ob + jj, none⟩ = some (.int .i64 x) ∧ wr.drew.cell? ⟨go, k, none⟩ = some (.int .i64 z) := ⟨KS, KT, KF, ku, kcx, hcO⟩
          clear KS KT KF ku kcx hcO
          generalize wr.drew = w3 at hbr hfO hst hS ⊢
          refine firstL 0 (.slice (some ⟨go, 0, none⟩) m m) rfl (by kernel_rfl) (by kernel_rfl) (by kernel_rfl) (fun _ _ _ h => h) (by kernel_rfl) (.inl ⟨by rfl, fun w _ => by rfl⟩) hS ?_
          try simp only [Act.put, List.setIfInBounds_toArray, List.set_cons_zero, List.set_cons_succ]
          refine firstL 1 (.int .i64 ((k : Int))) rfl (by kernel_rfl) (by kernel_rfl) (by kernel_rfl) (fun _ _ _ h => h) (by kernel_rfl) (.inl ⟨by rfl, fun w _ => by rfl⟩) hS ?_
          try simp only [Act.put, List.setIfInBounds_toArray, List.set_cons_zero, List.set_cons_succ]
          refine firstL 2 (.slice (some ⟨go, 0, none⟩) m m) rfl (by kernel_rfl) (by kernel_rfl) (by kernel_rfl) (fun _ _ _ h => h) (by kernel_rfl) (.inl ⟨by rfl, fun w _ => by rfl⟩) hS ?_
          try simp only [Act.put, List.setIfInBounds_toArray, List.set_cons_zero, List.set_cons_succ]
          refine firstL 3 (.int .i64 ((k : Int))) rfl (by kernel_rfl) (by kernel_rfl) (by kernel_rfl) (fun _ _ _ h => h) (by kernel_rfl) (.inl ⟨by rfl, fun w _ => by rfl⟩) hS ?_
          try simp only [Act.put, List.setIfInBounds_toArray, List.set_cons_zero, List.set_cons_succ]
          refine firstL 4 (.pointer (some ⟨go, k, none⟩)) rfl (by kernel_rfl) (by kernel_rfl) (by kernel_rfl) (fun _ _ _ h => h) (by kernel_rfl) (.inl ⟨by rfl, fun w hw => by (unfold execOp; go_simp; all_goals omega)⟩) hS ?_
          try simp only [Act.put, List.setIfInBounds_toArray, List.set_cons_zero, List.set_cons_succ]
          refine firstL 5 (.int .i64 z) rfl (by kernel_rfl) (by kernel_rfl) (by kernel_rfl) (fun _ _ _ h => h) (by kernel_rfl) (.inl ⟨by rfl, fun w hw => by (have h0 := hw.2.2.2.2.2; unfold execOp; go_simp)⟩) hS ?_
          try simp only [Act.put, List.setIfInBounds_toArray, List.set_cons_zero, List.set_cons_succ]
          refine firstL 6 (.pointer (some ⟨w.heap.size + 1, 1, none⟩)) rfl (by kernel_rfl) (by kernel_rfl) (by kernel_rfl) (fun _ _ _ h => h) (by kernel_rfl) (.inl ⟨by rfl, fun w hw => by (unfold execOp; go_simp)⟩) hS ?_
          try simp only [Act.put, List.setIfInBounds_toArray, List.set_cons_zero, List.set_cons_succ]
          refine firstL 7 (.slice (some ⟨gy, fy, none⟩) t.cells.length ky) rfl (by kernel_rfl) (by kernel_rfl) (by kernel_rfl) (fun _ _ _ h => h) (by kernel_rfl) (.inl ⟨by rfl, fun w hw => by (have h0 := (hw.2.1).cell 1; unfold execOp; go_simp)⟩) hS ?_
          try simp only [Act.put, List.setIfInBounds_toArray, List.set_cons_zero, List.set_cons_succ]
          refine firstL 8 (.pointer (some ⟨w.heap.size + 1 + 1, 0, none⟩)) rfl (by kernel_rfl) (by kernel_rfl) (by kernel_rfl) (fun _ _ _ h => h) (by kernel_rfl) (.inl ⟨by rfl, fun w hw => by (unfold execOp; go_simp)⟩) hS ?_
          try simp only [Act.put, List.setIfInBounds_toArray, List.set_cons_zero, List.set_cons_succ]
          refine firstL 9 (.int .i64 ((a : Int))) rfl (by kernel_rfl) (by kernel_rfl) (by kernel_rfl) (fun _ _ _ h => h) (by kernel_rfl) (.inl ⟨by rfl, fun w hw => by (have h0 := (hw.2.2.1).cell 0; unfold execOp; go_simp)⟩) hS ?_
          try simp only [Act.put, List.setIfInBounds_toArray, List.set_cons_zero, List.set_cons_succ]
          refine firstL 10 (.pointer (some ⟨gy, fy + a, none⟩)) rfl (by kernel_rfl) (by kernel_rfl) (by kernel_rfl) (fun _ _ _ h => h) (by kernel_rfl) (.inl ⟨by rfl, fun w hw => by (unfold execOp; go_simp; all_goals omega)⟩) hS ?_
          try simp only [Act.put, List.setIfInBounds_toArray, List.set_cons_zero, List.set_cons_succ]
          refine firstL 11 (.slice (some ⟨gb, ob, none⟩) c.length kg) rfl (by kernel_rfl) (by kernel_rfl) (by kernel_rfl) (fun _ _ _ h => h) (by kernel_rfl) (.inl ⟨by rfl, fun w hw => by (have h0 := hw.2.2.2.1; unfold execOp; go_simp)⟩) hS ?_
          try simp only [Act.put, List.setIfInBounds_toArray, List.set_cons_zero, List.set_cons_succ]
          refine firstL 12 (.int .i64 ((b : Int))) rfl (by kernel_rfl) (by kernel_rfl) (by kernel_rfl) (fun _ _ _ h => h) (by kernel_rfl) (.inl ⟨by rfl, fun w _ => by rfl⟩) hS ?_
          try simp only [Act.put, List.setIfInBounds_toArray, List.set_cons_zero, List.set_cons_succ]
          refine firstL 13 (.pointer (some ⟨w.heap.size, 1, none⟩)) rfl (by kernel_rfl) (by kernel_rfl) (by kernel_rfl) (fun _ _ _ h => h) (by kernel_rfl) (.inl ⟨by rfl, fun w hw => by (unfold execOp; go_simp)⟩) hS ?_
          try simp only [Act.put, List.setIfInBounds_toArray, List.set_cons_zero, List.set_cons_succ]
          refine firstL 14 (.slice oc m kc) rfl (by kernel_rfl) (by kernel_rfl) (by kernel_rfl) (fun _ _ _ h => h) (by kernel_rfl) (.inl ⟨by rfl, fun w hw => by (have h0 := (hw.1).cell 1; unfold execOp; go_simp)⟩) hS ?_
          try simp only [Act.put, List.setIfInBounds_toArray, List.set_cons_zero, List.set_cons_succ]
          refine firstL 15 (.int .i64 ((m : Int))) rfl (by kernel_rfl) (by kernel_rfl) (by kernel_rfl) (fun _ _ _ h => h) (by kernel_rfl) (.inl ⟨by rfl, fun w hw => by (unfold execOp; go_simp)⟩) hS ?_
          try simp only [Act.put, List.setIfInBounds_toArray, List.set_cons_zero, List.set_cons_succ]
          refine firstL 16 (.int .i64 ((q : Int))) rfl (by kernel_rfl) (by kernel_rfl) (by kernel_rfl) (fun _ _ _ h => h) (by kernel_rfl) (.inl ⟨by rfl, fun w hw => by (unfold execOp; go_simp; all_goals first | exact HWR.out | exact HQM.out)⟩) hS ?_
          try simp only [Act.put, List.setIfInBounds_toArray, List.set_cons_zero, List.set_cons_succ]
          refine firstL 17 (.int .i64 ((k : Int))) rfl (by kernel_rfl) (by kernel_rfl) (by kernel_rfl) (fun _ _ _ h => h) (by kernel_rfl) (.inl ⟨by rfl, fun w _ => by rfl⟩) hS ?_
          try simp only [Act.put, List.setIfInBounds_toArray, List.set_cons_zero, List.set_cons_succ]
          refine firstL 18 (.int .i64 ((jj : Int))) rfl (by kernel_rfl) (by kernel_rfl) (by kernel_rfl) (fun _ _ _ h => h) (by kernel_rfl) (.inl ⟨by rfl, fun w hw => by (unfold execOp; go_simp; all_goals first | exact HJJ.out | (rw [IntKind.wrap_i64, HJJ.out]; omega))⟩) hS ?_
          try simp only [Act.put, List.setIfInBounds_toArray, List.set_cons_zero, List.set_cons_succ]
          refine firstL 19 (.pointer (some ⟨gb, ob + jj, none⟩)) rfl (by kernel_rfl) (by kernel_rfl) (by kernel_rfl) (fun _ _ _ h => h) (by kernel_rfl) (.inl ⟨by rfl, fun w hw => by (unfold execOp; go_simp; all_goals omega)⟩) hS ?_
          try simp only [Act.put, List.setIfInBounds_toArray, List.set_cons_zero, List.set_cons_succ]
          refine firstL 20 (.int .i64 x) rfl (by kernel_rfl) (by kernel_rfl) (by kernel_rfl) (fun _ _ _ h => h) (by kernel_rfl) (.inl ⟨by rfl, fun w hw => by (have h0 := hw.2.2.2.2.1; unfold execOp; go_simp)⟩) hS ?_
          try simp only [Act.put, List.setIfInBounds_toArray, List.set_cons_zero, List.set_cons_succ]
          refine firstL 21 (.int .i64 (z + x)) rfl (by kernel_rfl) (by kernel_rfl) (by kernel_rfl) (fun _ _ _ h => h) (by kernel_rfl) (.inl ⟨by rfl, fun w hw => by (unfold execOp; go_simp; all_goals (rw [IntKind.wrap_i64] <;> omega))⟩) hS ?_
          try simp only [Act.put, List.setIfInBounds_toArray, List.set_cons_zero, List.set_cons_succ]
          refine firstL 22 (.pointer (some ⟨go, k, none⟩)) rfl (by kernel_rfl) (by kernel_rfl) (by kernel_rfl) (fun _ _ _ h => h) (by kernel_rfl) (.inl ⟨by rfl, fun w hw => by (unfold execOp; go_simp; all_goals omega)⟩) hS ?_
          try simp only [Act.put, List.setIfInBounds_toArray, List.set_cons_zero, List.set_cons_succ]
          have a4 := hS.2.2.2.2.2
          clear hS
          refine lastL rfl (by kernel_rfl) (by kernel_rfl) (by rfl) ?_
          go_simp
          have hbs := hbr.grown hst.2 hbr.size (fun j hj => by cases hj; exact Nat.le_of_eq HGO.out)
          go_wp2
          go_roundw
          case rel =>
            refine ⟨k + 1, by go_num, by omega, ?_, hbs⟩
            rw [HNXT.out, List.map_set]
            exact hst.1
          case measure => simp [intOf]; omega
end Go.Proofs.Ytobimpgapfecoab
/- A list of integers that bears the law's marks; how long an answer of BranchTotals is. -/
namespace Go.Proofs.Ytobimpgapfecoab
open Go.RowKit
def MarkedI (base : Nat) (w : World) (v : Value) (n : Nat) (k0 : Int) : Prop := ∃ ys, w.ownsRow base 3 1 v n ys ∧ ∀ j, j < n → ys[j]? = some (mkI (k0 + j))
theorem MarkedI.below {base n : Nat} {w w' : World} {v : Value} {k0 : Int} (h : MarkedI base w v n k0) (hb : Below w.heap.size w w') : MarkedI base w' v n k0 := by
  obtain ⟨ys, h1, h2⟩ := h
  exact ⟨ys, own_below h1 hb, h2⟩
theorem markedI_any (n base : Nat) (v : Value) (k0 : Int) (xs : List Value) (w : World) (hn : n ≤ 140737488351232) (h0 : 0 ≤ k0) (h1 : k0 ≤ 140737488351232) (ho : w.ownsRow base 3 1 v n xs) :
    Calls Try.prog 33 #[v, .int .i64 k0] w fun e w' => e = .returned (.int .i64 (k0 + n)) ∧ MarkedI base w' v n k0 ∧ w.grownBy w' v.ownBlock := markI_any n base v k0 xs w hn h0 h1 ho
theorem heldMI_any (n base : Nat) (v : Value) (k0 : Int) (w : World) (hn : n ≤ 140737488351232) (h0 : 0 ≤ k0) (h1 : k0 ≤ 140737488351232) (h : MarkedI base w v n k0) :
    Calls Try.prog 34 #[v, .int .i64 k0] w fun e w' => e = .returned (.int .i64 (k0 + n)) ∧ w' = w := by
  obtain ⟨ys, h2, h3⟩ := h
  exact heldI_any n base v k0 ys w hn h0 h1 h2 h3
theorem totals_len (s : SchemaD) (t : StatsD) (f : ForkD) (i : Int) (h : s.classes.length ≤ 1048576) : (branchTotals s t f i).length ≤ 1099511627776 := by
  unfold branchTotals
  split
  · rw [List.length_map, List.length_range]; omega
  · simp
end Go.Proofs.Ytobimpgapfecoab
