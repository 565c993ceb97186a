/- Texts of this claim, put together: part 10. -/
import Derived.Test.YtfflodcapcamcaaDoorFnCandidatesPack5
import Derived.Test.YtfflodcapcamcaaDoorFnCandidatesPack9
import Derived.Test.YtfflodcapcamcaaDoorRows
import Derived.WalkKit
import Derived.ProofKit
import Derived.OpenShut
import Derived.Test.YtfflodcapcamcaaDoorFnCandidatesPack4
/- Draws of chapter 9: a schema, places of attributes, one of two ways. -/
namespace Go.Proofs.YtfflodcapcamcaaDoor
open Go.RowKit
set_option maxRecDepth 100000
set_option linter.unusedSimpArgs false
theorem yields_mvX9 {ops : Array Oper} {S : World → Prop} {op : Oper} {a : Act} (hw : Region.wanted op (yielded ops a.tmps) = true) (x : Operand) (ho : op.op = .move x) (v : Value) (hx : a.eval x = v) : YieldsIf Tryd.prog ops S op v a :=
  .inl ⟨hw, fun w _ => by unfold execOp; simp only [ho, hx]; go_simp⟩
theorem yields_as9 {ops : Array Oper} {S : World → Prop} {op : Oper} {a : Act} (hw : Region.wanted op (yielded ops a.tmps) = true) (x : Operand) (ho : op.op = .assign x) (v : Value) (hx : a.eval x = v) : YieldsIf Tryd.prog ops S op v a :=
  .inl ⟨hw, fun w _ => by unfold execOp; simp only [ho, hx]; go_simp⟩
theorem res_sc9 {fn : Func} {p q : Tmp} (h : fn.results = #[.cell p 27, .tmp q]) (tmps : Array Value) (w : World) (g : Nat) (c0 c1 : Value)
    (hp : tmps.getD p undef = .pointer (some ⟨g, 0, none⟩)) (hg : Blk 27 w g #[c0, c1]) : (results fn tmps).run Tryd.prog w = .ok (.tuple #[.agg #[c0, c1], tmps.getD q undef]) w := by
  have hp' : tmps[p]?.getD undef = .pointer (some ⟨g, 0, none⟩) := by simpa using hp
  simp [results, h, hp', asAddr, run_loadVar_row w g _ 27 _ _ _ hg Tryd.underlying27 rfl sch_size]
theorem res_sc99 {fn : Func} {p q r : Tmp} (h : fn.results = #[.cell p 27, .tmp q, .tmp r]) (tmps : Array Value) (w : World) (g : Nat) (c0 c1 : Value)
    (hp : tmps.getD p undef = .pointer (some ⟨g, 0, none⟩)) (hg : Blk 27 w g #[c0, c1]) : (results fn tmps).run Tryd.prog w = .ok (.tuple #[.agg #[c0, c1], tmps.getD q undef, tmps.getD r undef]) w := by
  have hp' : tmps[p]?.getD undef = .pointer (some ⟨g, 0, none⟩) := by simpa using hp
  simp [results, h, hp', asAddr, run_loadVar_row w g _ 27 _ _ _ hg Tryd.underlying27 rfl sch_size]
set_option maxHeartbeats 3200000 in
theorem drawAttrs_any (a : Option Addr) (len cap : Nat) (zs : List Int) (w : World) (hr : IsRow .u8 w a len cap zs) (hn : len ≤ 1048576) :
    Calls Tryd.prog 13 #[.slice a len cap] w fun e w' => ∃ vs d va, ∃ ys : List Int, e = .returned (.tuple #[vs, va]) ∧ OwnS w.heap.size w' vs d ∧ tinyS d ∧ w'.ownsRow w.heap.size 3 1 va ys.length (ys.map (Value.int .i64)) ∧ ys.length ≤ 7 ∧ Below w.heap.size w w' := by
  obtain ⟨R, B⟩ := blk_1 27 w #[.slice none 0 0, .slice none 0 0]
  have cc := l1New_any a len cap zs (w.alloc (.cells #[.slice none 0 0, .slice none 0 0] 27)) (hr.later B) hn
  replace hr := hr.later B
  have hz : (w.alloc (.cells #[.slice none 0 0, .slice none 0 0] 27)).heap.size = w.heap.size + 1 := by simp
  rw [hz] at cc
  go_enter Tryd.func13, Tryd.ntmps13
  go_wp2_with fail
  refine cc.mono ?_
  clear cc
  rintro e w2 ⟨rfl, cu, hb, hsz⟩
  rw [← hz] at hb
  replace R := R.below hb
  replace B := B.trans (hb.mono B.size)
  replace hr := hr.later hb
  have hg2 : w.heap.size + 1 < w2.heap.size := cu.lt
  clear hb hz hsz
  have cc := draw5_any (w.heap.size + 1) a len cap zs w2 cu hr
  go_wp2_with fail
  refine cc.mono ?_
  clear cc
  rintro e w3 ⟨v, d, rfl, os, htn, cu2, h3⟩
  have hs3 := h3.size
  replace R := R.kept h3 (by intro e; injection e; omega)
  replace B := B.grown h3 B.size (fun k hk => by injection hk; omega)
  replace hr := hr.aside cu h3
  clear cu
  have cu := cu2
  clear cu2 h3
  have HTN : Hid (tinyS d) := htn
  clear htn
  obtain ⟨y1, y2, rfl, rr1, rr2⟩ := id os.at
  obtain ⟨oa, ka, rfl, -, -⟩ := id rr1
  obtain ⟨oc, kc, rfl, -, -⟩ := id rr2
  clear rr1 rr2
  obtain ⟨P1, BP⟩ := blk_1 27 w3 #[.slice oa d.attrs.length ka, .slice oc d.classes.length kc]
  replace R := R.below BP
  replace B := B.trans (BP.mono B.size)
  replace hr := hr.later BP
  replace cu := cu.kept (grown_of_below BP) (by intro e; cases e)
  replace os := os.below9 BP
  clear BP
  go_wp2_with fail
  have bd : Below (w3.alloc (.cells #[.slice oa d.attrs.length ka, .slice oc d.classes.length kc] 27)).heap.size (w3.alloc (.cells #[.slice oa d.attrs.length ka, .slice oc d.classes.length kc] 27)) (w3.alloc (.cells #[.slice oa d.attrs.length ka, .slice oc d.classes.length kc] 27)).drew := below_drewN (Below.refl _ _) 1
  replace R := R.below bd
  replace B := B.trans (bd.mono B.size)
  replace hr := hr.later bd
  replace cu := cu.kept (grown_of_below bd) (by intro e; cases e)
  replace os := os.below9 bd
  replace P1 := P1.below bd
  clear bd
  refine wp_region_held_drew (S := fun w' => Blk 27 w' w3.heap.size #[.slice oa d.attrs.length ka, .slice oc d.classes.length kc] ∧ ∃ c0 c1, Blk 27 w' w.heap.size #[c0, c1]) (by kernel_rfl) ⟨P1, _, _, R⟩ ?_
  intro hS
  generalize (w3.alloc (.cells #[.slice oa d.attrs.length ka, .slice oc d.classes.length kc] 27)).drew = w6 at R B hr cu os P1 hS ⊢
  refine takeL 0 (.agg #[.slice oa d.attrs.length ka, .slice oc d.classes.length kc]) rfl (by kernel_rfl) (by kernel_rfl) (by kernel_rfl) (fun _ _ _ h => h) (yields_row Tryd.underlying27 (by kernel_rfl) (by rfl) _ rfl _ rfl (fun _ h => h.1)) hS ?_
  try simp only [Act.put, List.setIfInBounds_toArray, List.set_cons_zero, List.set_cons_succ]
  refine takeL 1 (.pointer (some ⟨w.heap.size + 1, 0, none⟩)) rfl (by kernel_rfl) (by kernel_rfl) (by kernel_rfl) (fun _ _ _ h => h) (yields_mvX9 (by rfl) _ rfl _ rfl) hS ?_
  try simp only [Act.put, List.setIfInBounds_toArray, List.set_cons_zero, List.set_cons_succ]
  refine takeL 2 (.agg #[.slice oa d.attrs.length ka, .slice oc d.classes.length kc]) rfl (by kernel_rfl) (by kernel_rfl) (by kernel_rfl) (fun _ _ _ h => h) (yields_row Tryd.underlying27 (by kernel_rfl) (by rfl) _ rfl _ rfl (fun _ h => h.1)) hS ?_
  try simp only [Act.put, List.setIfInBounds_toArray, List.set_cons_zero, List.set_cons_succ]
  have hw6 := P1.lt
  refine nextL 3 rfl (by kernel_rfl) (by rfl) fun K hK => ?_
  have dd := attrs9_any (w.heap.size + 1) a len cap zs _ d w6 cu hr os.at HTN.out.attrs
  go_simp
  refine dd.mono ?_
  clear dd
  rintro e w7 ⟨va, ys, rfl, hyl, ho, cu2, h7⟩
  replace R := R.kept h7 (by intro e; injection e; omega)
  replace B := B.grown h7 B.size (fun k hk => by injection hk; omega)
  replace os := os.curW9 (by omega) h7
  replace P1 := P1.kept h7 (by intro e; injection e; omega)
  replace hr := hr.aside cu h7
  clear cu
  have cu := cu2
  clear cu2 h7
  refine hK _ _ ⟨P1, _, _, R⟩ ?_
  clear hK K hS
  intro hS
  clear cu hr
  refine nextL 4 rfl (by kernel_rfl) (by rfl) fun K hK => ?_
  refine wp_store_row 27 _ _ rfl (w.heap.size) #[.slice oa d.attrs.length ka, .slice oc d.classes.length kc] rfl rfl _ _ R sch_size rfl (by simp [Value.oneCell']) ?_
  replace P1 := P1.setRow_other #[.slice oa d.attrs.length ka, .slice oc d.classes.length kc] (show w3.heap.size ≠ w.heap.size by omega)
  replace R := R.setRow #[.slice oa d.attrs.length ka, .slice oc d.classes.length kc]
  replace B := below_row B (show w.heap.size ≤ w.heap.size by omega) #[.slice oa d.attrs.length ka, .slice oc d.classes.length kc]
  replace os := os.rowS9 #[.slice oa d.attrs.length ka, .slice oc d.classes.length kc] (show w.heap.size < _ by omega)
  replace ho := own_setRow ho (w.heap.size) #[.slice oa d.attrs.length ka, .slice oc d.classes.length kc] (by omega)
  refine hK _ _ ⟨P1, _, _, R⟩ ?_
  clear hK K hS
  intro hS
  try simp only [Act.put, List.setIfInBounds_toArray, List.set_cons_zero, List.set_cons_succ]
  refine takeL 5 (va) rfl (by kernel_rfl) (by kernel_rfl) (by kernel_rfl) (fun _ _ _ h => h) (yields_as9 (by rfl) _ rfl _ rfl) hS ?_
  try simp only [Act.put, List.setIfInBounds_toArray, List.set_cons_zero, List.set_cons_succ]
  clear hS
  refine wpAnyH_done (by kernel_rfl) ?_ _
  go_wp2
  exact bodyPost_ret (res_sc9 rfl _ _ _ _ _ rfl R) rfl ⟨_, d, _, ys, rfl, os.baseS9 (by omega), HTN.out, own_base ho (by omega), hyl, B⟩
set_option maxHeartbeats 3200000 in
theorem drawCands_any (a : Option Addr) (len cap : Nat) (zs : List Int) (w : World) (hr : IsRow .u8 w a len cap zs) (hn : len ≤ 1048576) :
    Calls Tryd.prog 5 #[.slice a len cap] w fun e w' => ∃ vs d va, ∃ (ys : List Int) (q : Bool), e = .returned (.tuple #[vs, va, .bool q]) ∧ SchemaAt w' vs d ∧ tinyS d ∧ RowI w' va ys ∧ ys.length ≤ 7 ∧ Below w.heap.size w w' := by
  have hr0 := hr
  obtain ⟨R, B⟩ := blk_1 27 w #[.slice none 0 0, .slice none 0 0]
  have cc := drawAttrs_any a len cap zs (w.alloc (.cells #[.slice none 0 0, .slice none 0 0] 27)) (hr.later B) hn
  have hz : (w.alloc (.cells #[.slice none 0 0, .slice none 0 0] 27)).heap.size = w.heap.size + 1 := by simp
  rw [hz] at cc
  replace hr := hr.later B
  go_enter Tryd.func5, Tryd.ntmps5
  go_wp2_with fail
  refine cc.mono ?_
  clear cc hr0
  rintro e w2 ⟨vs, d, va, ys, rfl, os, htn, ho, hyl, hb⟩
  rw [← hz] at hb
  replace R := R.below hb
  replace B := B.trans (hb.mono B.size)
  replace hr := hr.later hb
  have hg2 : w.heap.size < w2.heap.size := R.lt
  rw [hz] at hb
  have hsz2 := hb.size
  clear hb hz
  have HTN : Hid (tinyS d) := htn
  clear htn
  obtain ⟨y1, y2, rfl, rr1, rr2⟩ := id os.at
  obtain ⟨oa, ka, rfl, -, -⟩ := id rr1
  obtain ⟨oc, kc, rfl, -, -⟩ := id rr2
  clear rr1 rr2
  obtain ⟨P1, BP⟩ := blk_1 27 w2 #[.slice oa d.attrs.length ka, .slice oc d.classes.length kc]
  replace R := R.below BP
  replace B := B.trans (BP.mono B.size)
  replace hr := hr.later BP
  replace os := os.below9 BP
  replace ho := own_below ho BP
  clear BP
  go_wp2_with fail
  have bd : Below (w2.alloc (.cells #[.slice oa d.attrs.length ka, .slice oc d.classes.length kc] 27)).heap.size (w2.alloc (.cells #[.slice oa d.attrs.length ka, .slice oc d.classes.length kc] 27)) (w2.alloc (.cells #[.slice oa d.attrs.length ka, .slice oc d.classes.length kc] 27)).drew := below_drewN (Below.refl _ _) 1
  replace R := R.below bd
  replace B := B.trans (bd.mono B.size)
  replace hr := hr.later bd
  replace os := os.below9 bd
  replace ho := own_below ho bd
  replace P1 := P1.below bd
  clear bd
  refine wp_region_held_drew (S := fun w' => Blk 27 w' w2.heap.size #[.slice oa d.attrs.length ka, .slice oc d.classes.length kc] ∧ ∃ c0 c1, Blk 27 w' w.heap.size #[c0, c1]) (by kernel_rfl) ⟨P1, _, _, R⟩ ?_
  intro hS
  generalize (w2.alloc (.cells #[.slice oa d.attrs.length ka, .slice oc d.classes.length kc] 27)).drew = w6 at R B hr os ho P1 hS ⊢
  refine takeL 0 (.agg #[.slice oa d.attrs.length ka, .slice oc d.classes.length kc]) rfl (by kernel_rfl) (by kernel_rfl) (by kernel_rfl) (fun _ _ _ h => h) (yields_row Tryd.underlying27 (by kernel_rfl) (by rfl) _ rfl _ rfl (fun _ h => h.1)) hS ?_
  try simp only [Act.put, List.setIfInBounds_toArray, List.set_cons_zero, List.set_cons_succ]
  refine takeL 1 (va) rfl (by kernel_rfl) (by kernel_rfl) (by kernel_rfl) (fun _ _ _ h => h) (yields_mvX9 (by rfl) _ rfl _ rfl) hS ?_
  try simp only [Act.put, List.setIfInBounds_toArray, List.set_cons_zero, List.set_cons_succ]
  refine takeL 2 (.slice a len cap) rfl (by kernel_rfl) (by kernel_rfl) (by kernel_rfl) (fun _ _ _ h => h) (yields_mvX9 (by rfl) _ rfl _ rfl) hS ?_
  try simp only [Act.put, List.setIfInBounds_toArray, List.set_cons_zero, List.set_cons_succ]
  have hw6 := P1.lt
  have cc := l1New_any a len cap zs w6 hr hn
  refine nextL 3 rfl (by kernel_rfl) (by rfl) fun K hK => ?_
  go_simp
  refine cc.mono ?_
  clear cc
  rintro e w7 ⟨rfl, cu, hb, hsz7⟩
  have os6 := os
  have ho6 := ho
  have b67 := hb
  clear os ho
  replace R := R.below hb
  replace B := B.trans (hb.mono B.size)
  replace hr := hr.later hb
  replace P1 := P1.below hb
  clear hb
  refine hK _ _ ⟨P1, _, _, R⟩ ?_
  clear hK K hS
  intro hS
  have cc := once_any w6.heap.size a len cap zs 2 w7 cu hr (by decide) (by decide)
  refine nextL 4 rfl (by kernel_rfl) (by rfl) fun K hK => ?_
  go_simp
  refine cc.mono ?_
  clear cc
  rintro e w8 ⟨q, rfl, cu2, h8⟩
  replace R := R.kept h8 (by intro e; injection e; omega)
  replace B := B.grown h8 B.size (fun k hk => by injection hk; omega)
  replace P1 := P1.kept h8 (by intro e; injection e; omega)
  have b68 : Below w6.heap.size w6 w8 := b67.grown h8 b67.size (fun k hk => by injection hk; omega)
  have os := os6.below9 b68
  have ho := own_below ho6 b68
  clear os6 ho6 b67 b68 h8 cu cu2 hr
  refine hK _ _ ⟨P1, _, _, R⟩ ?_
  clear hK K hS
  intro hS
  refine nextL 5 rfl (by kernel_rfl) (by rfl) fun K hK => ?_
  refine wp_store_row 27 _ _ rfl (w.heap.size) #[.slice oa d.attrs.length ka, .slice oc d.classes.length kc] rfl rfl _ _ R sch_size rfl (by simp [Value.oneCell']) ?_
  replace P1 := P1.setRow_other #[.slice oa d.attrs.length ka, .slice oc d.classes.length kc] (show w2.heap.size ≠ w.heap.size by omega)
  replace R := R.setRow #[.slice oa d.attrs.length ka, .slice oc d.classes.length kc]
  replace B := below_row B (show w.heap.size ≤ w.heap.size by omega) #[.slice oa d.attrs.length ka, .slice oc d.classes.length kc]
  replace os := os.rowS9 #[.slice oa d.attrs.length ka, .slice oc d.classes.length kc] (show w.heap.size < _ by omega)
  replace ho := own_setRow ho (w.heap.size) #[.slice oa d.attrs.length ka, .slice oc d.classes.length kc] (by omega)
  refine hK _ _ ⟨P1, _, _, R⟩ ?_
  clear hK K hS
  intro hS
  try simp only [Act.put, List.setIfInBounds_toArray, List.set_cons_zero, List.set_cons_succ]
  refine takeL 6 (va) rfl (by kernel_rfl) (by kernel_rfl) (by kernel_rfl) (fun _ _ _ h => h) (yields_as9 (by rfl) _ rfl _ rfl) hS ?_
  try simp only [Act.put, List.setIfInBounds_toArray, List.set_cons_zero, List.set_cons_succ]
  refine takeL 7 (.bool q) rfl (by kernel_rfl) (by kernel_rfl) (by kernel_rfl) (fun _ _ _ h => h) (yields_as9 (by rfl) _ rfl _ rfl) hS ?_
  try simp only [Act.put, List.setIfInBounds_toArray, List.set_cons_zero, List.set_cons_succ]
  clear hS
  refine wpAnyH_done (by kernel_rfl) ?_ _
  go_wp2
  exact bodyPost_ret (res_sc99 rfl _ _ _ _ _ rfl R) rfl ⟨_, d, _, ys, q, rfl, os.at, HTN.out, RowI.of_own ho rfl, hyl, B⟩
end Go.Proofs.YtfflodcapcamcaaDoor
/- Whether a code is too great. -/
namespace Go.Proofs.YtfflodcapcamcaaDoor
open Go.RowKit
set_option maxRecDepth 100000

theorem big_any (a : Option Addr) (len cap : Nat) (w : World) (hn : len ≤ 9223372036854775807) : Calls Tryd.prog 4 #[.slice a len cap] w fun e w' => e = .returned (.bool (decide (1048576 < len))) ∧ w' = w := by
  by_cases h : 1048576 < len
  all_goals
    go_enter Tryd.func4, Tryd.ntmps4
    go_wp2
    go_ret
    exact ⟨by simp; omega, rfl⟩
end Go.Proofs.YtfflodcapcamcaaDoor
/- How many bins an attribute has, in plain words. -/
namespace Go.Proofs.YtfflodcapcamcaaDoor
def bins (a : AttrD) : Int := if attrOk a = true then (if a.vals.length = 0 then (a.cuts.length : Int) + 1 else a.vals.length) else 0
theorem ok_kind {a : AttrD} (h : attrOk a = true) : (a.vals.length = 0 ↔ a.cuts.length ≠ 0) := by
  unfold attrOk at h
  rw [Bool.and_eq_true] at h
  have h2 := h.2
  by_cases h0 : a.cuts.length = 0
  · rw [if_pos h0] at h2
    unfold choices at h2
    rw [Bool.and_eq_true] at h2
    have := of_decide_eq_true h2.1
    omega
  · rw [if_neg h0, Bool.and_eq_true] at h2
    have := of_decide_eq_true h2.1
    omega

end Go.Proofs.YtfflodcapcamcaaDoor
/- Chapter 9 in plain words: questions. -/
namespace Go.Proofs.YtfflodcapcamcaaDoor
open Go.RowKit
set_option maxRecDepth 100000
structure ForkD where
  attr : Int
  pos : Int
def forkV (f : ForkD) : Value := .agg #[.int .i64 f.attr, .int .i64 f.pos]
def forkAttr (s : SchemaD) (f : ForkD) : AttrD := ad s.attrs f.attr.toNat
def forkTop (s : SchemaD) (f : ForkD) : Int := if 0 < (forkAttr s f).cuts.length then bins (forkAttr s f) - 2 else bins (forkAttr s f) - 1
def forkOk (s : SchemaD) (f : ForkD) : Bool := schemaOk s && (decide (0 ≤ f.attr ∧ f.attr ≤ (s.attrs.length : Int) - 1) && decide (-1 ≤ f.pos ∧ f.pos ≤ forkTop s f))
def branches (s : SchemaD) (f : ForkD) : Int := if forkOk s f = true then (if f.pos = -1 then bins (forkAttr s f) else 2) else 0
def branchOf (s : SchemaD) (f : ForkD) (b : Int) : Int :=
  if forkOk s f = true ∧ 0 ≤ b ∧ b ≤ bins (forkAttr s f) - 1 then
    (if f.pos = -1 then b else if 0 < (forkAttr s f).cuts.length then (if f.pos < b then 1 else 0) else (if b = f.pos then 0 else 1))
  else -1
theorem fork_parts {s : SchemaD} {f : ForkD} (h : forkOk s f = true) : schemaOk s = true ∧ (∃ k : Nat, f.attr = (k : Int) ∧ k < s.attrs.length ∧ forkAttr s f = ad s.attrs k) ∧ -1 ≤ f.pos ∧ f.pos ≤ forkTop s f := by
  unfold forkOk at h
  rw [Bool.and_eq_true, Bool.and_eq_true, decide_eq_true_eq, decide_eq_true_eq] at h
  obtain ⟨h1, h2, h3⟩ := h
  obtain ⟨k, hk⟩ := Int.eq_ofNat_of_zero_le h2.1
  exact ⟨h1, ⟨k, hk, by omega, by unfold forkAttr; rw [hk]; rfl⟩, h3.1, h3.2⟩
/-- The cells of one attribute of a schema that came in, in every later world. -/
theorem attr_at {w : World} {oa : Option Addr} {ka : Nat} {vc : Value} {s : SchemaD} (h : SchemaAt w (.agg #[.slice oa s.attrs.length ka, vc]) s) {k : Nat} (hk : k < s.attrs.length) :
    ∃ ga fa y1 z1 y2 z2, oa = some ⟨ga, fa, none⟩ ∧ ∀ W, Below w.heap.size w W → W.cell? ⟨ga, fa + k * 3, none⟩ = some (.string (ad s.attrs k).name) ∧ W.cell? ⟨ga, fa + k * 3 + 1, none⟩ = some (.slice y1 (ad s.attrs k).cuts.length z1) ∧
      W.cell? ⟨ga, fa + k * 3 + 2, none⟩ = some (.slice y2 (ad s.attrs k).vals.length z2) ∧ AttrAt W (.agg #[.string (ad s.attrs k).name, .slice y1 (ad s.attrs k).cuts.length z1, .slice y2 (ad s.attrs k).vals.length z2]) (ad s.attrs k) := by
  obtain ⟨va', vc', e', rA, -⟩ := h
  cases e'
  obtain ⟨oa', ka', e', -, hrA⟩ := rA
  cases e'
  obtain ⟨ga, fa, rfl, hga, hjA⟩ := hrA (by omega)
  obtain ⟨x1, x2, c0, c1, c2, r1, r2⟩ := hjA k hk
  obtain ⟨y1, z1, rfl, -, -⟩ := id r1
  obtain ⟨y2, z2, rfl, -, -⟩ := id r2
  exact ⟨ga, fa, y1, z1, y2, z2, rfl, fun W hb => ⟨(hb.cell (p := ⟨ga, fa + k * 3, none⟩) hga).trans c0, (hb.cell (p := ⟨ga, fa + k * 3 + 1, none⟩) hga).trans c1, (hb.cell (p := ⟨ga, fa + k * 3 + 2, none⟩) hga).trans c2, _, _, rfl, r1.later hb, r2.later hb⟩⟩
end Go.Proofs.YtfflodcapcamcaaDoor
