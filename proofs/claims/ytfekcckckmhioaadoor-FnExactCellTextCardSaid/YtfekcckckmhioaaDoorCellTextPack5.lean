/- Texts of this claim, put together: part 5. -/
import Derived.Test.YtfekcckckmhioaaDoorCellTextPack4
import Derived.ChangeSame
import Derived.Deep.Strs
import Derived.Test.YtfekcckckmhioaaDoorCellTextPack3
/- An attribute that comes in to a law: what its reading says of its cells. -/
namespace Go.Proofs.YtfekcckckmhioaaDoor
open Go.ChangeShapes Go.WideShapes Go.ChangeAt Go.RowKit Go.Deep
set_option maxRecDepth 100000

theorem RowI.of_isRow {w : World} {a : Option Addr} {len cap : Nat} {zs : List Int} (h : IsRow .i64 w a len cap zs) : RowI w (.slice a len cap) (zs.take len) := by
  have hl := h.len
  refine ⟨a, cap, by rw [hl], ?_, fun h0 => ?_⟩
  · rcases h with ⟨_, rfl, _, _⟩ | ⟨_, _, h1, _⟩
    · simp
    · omega
  · obtain ⟨b, o, rfl, hb, hc⟩ := h.at (by omega)
    exact ⟨b, o, rfl, hb, fun j hj => hc j (by omega)⟩
theorem small_len {n : Nat} (h : n ≤ maxLen) : n ≤ 9223372036854775807 := by unfold maxLen at h; omega

theorem attr_cells : Tryd.prog.cellsOf 25 = 3 := by kernel_rfl
theorem cells1_int : Tryd.prog.cellsOf 3 = 1 := by kernel_rfl
theorem cells1_str : Tryd.prog.cellsOf 9 = 1 := by kernel_rfl
theorem cells1_ints : Tryd.prog.cellsOf 22 = 1 := by kernel_rfl
theorem cells1_strs : Tryd.prog.cellsOf 23 = 1 := by kernel_rfl

theorem row_ints {H : Type} {enc : TypeId × Value → H} {W : World} {base fuel : Nat} {hd : Bool} {cs : List Value} {x : DataW H × List MemPlace}
    (h : DataW.trod enc Tryd.prog W base (fun _ => true) hd fuel 22 cs = some x) : ∃ v zs, cs = [v] ∧ RowI W v zs ∧ zs.length ≤ 9223372036854775807 := by
  rcases open_ints Tryd.underlying22 Tryd.underlying3 (by kernel_rfl) h with ⟨hcs, _⟩ | ⟨x, l, c, zs, hcs, _, hl, hm, hz, _, hcell, hwz⟩
  · exact ⟨_, [], hcs, ⟨none, 0, rfl, Nat.le_refl _, fun h0 => absurd h0 (by simp)⟩, by simp⟩
  · have R : IsRow .i64 W (some x) l c zs := .inr ⟨_, rfl, hl, hm, by simpa using hz, hcell, hwz⟩
    exact ⟨_, zs.take l, hcs, RowI.of_isRow R, by have := R.len; have := small_len hm; omega⟩

theorem row_strs {H : Type} {enc : TypeId × Value → H} {W : World} {base fuel : Nat} {hd : Bool} {cs : List Value} {x : DataW H × List MemPlace}
    (h : DataW.trod enc Tryd.prog W base (fun _ => true) hd fuel 23 cs = some x) : ∃ v ss, cs = [v] ∧ RowS W v ss ∧ ss.length ≤ 9223372036854775807 ∧ ∀ s ∈ ss, s.size ≤ 9223372036854775807 := by
  rcases open_strs Tryd.underlying23 Tryd.underlying9 (by kernel_rfl) h with ⟨hcs, _⟩ | ⟨x, l, c, m, Sx, hcs, _, hl, hm, hmm, _, hcell⟩
  · exact ⟨_, [], hcs, ⟨none, 0, rfl, Nat.le_refl _, fun h0 => absurd h0 (by simp)⟩, by simp, fun s hs => by cases hs⟩
  · have hmc : m = c := by simpa using hmm
    subst hmc
    refine ⟨_, (List.range l).map Sx, hcs, ⟨some x, m, by simp, by simpa using hl, fun h0 => ?_⟩, by simpa using Nat.le_trans hl (small_len hm), fun s hs => ?_⟩
    · have hl0 : 0 < l := by simpa using h0
      obtain ⟨b, o, sp⟩ := x
      have hc0 := (hcell 0 (by omega)).1
      have hsp : sp = none := by simpa [Addr.add] using World.cell?_spot hc0
      subst hsp
      refine ⟨b, o, rfl, lt_of_cell (a := ⟨b, o, none⟩) (by simpa [Addr.add] using hc0), fun j hj => ?_⟩
      have hj' : j < l := by simpa using hj
      have e : (⟨b, o, none⟩ : Addr).add j = ⟨b, o + j, none⟩ := by cases j <;> simp [Addr.add]
      rw [← e, (hcell j (by omega)).1, tx_eq hj]
      simp
    · obtain ⟨j, hj, rfl⟩ := List.mem_map.1 hs
      exact small_len (hcell j (by have := List.mem_range.1 hj; omega)).2

theorem row_attr {H : Type} {enc : TypeId × Value → H} {W : World} {base fuel : Nat} {hd : Bool} {cs : List Value} {x : DataW H × List MemPlace}
    (h : DataW.trod enc Tryd.prog W base (fun _ => true) hd fuel 25 cs = some x) : ∃ (a : AttrD) (vc vv : Value), cs = [.string a.name, vc, vv] ∧ RowI W vc a.cuts ∧ RowS W vv a.vals ∧ inA a := by
  obtain ⟨y0, y1, y2, n, -, hl, t0, t1, t2⟩ := trod_struct3 Tryd.underlying25 h
  rw [attr_cells] at hl
  match cs, hl with
  | [c0, c1, c2], _ =>
    obtain ⟨s, hs, -, ws⟩ := DataW.trod_string Tryd.underlying9 t0
    obtain ⟨vc, zs, hc, rc, lc⟩ := row_ints t1
    obtain ⟨vv, ss, hv, rv, lv, ev⟩ := row_strs t2
    simp [cells1_str, cells1_ints, cells1_strs] at hs hc hv
    exact ⟨⟨s, zs, ss⟩, vc, vv, by rw [hs, hc, hv], rc, rv, small_len ws, lc, lv, ev⟩

theorem open_attr {H : Type} {enc : TypeId × Value → H} {W : World} {r : Reach} {b0 base : Nat} {hd : Bool} {v : Value} {d : DataW H} {ps : List MemPlace}
    (hval : Value.okWide Tryd.prog W r b0 25 v) (h : DataW.Trod enc Tryd.prog W base (fun _ => true) hd 25 v d ps) : ∃ a : AttrD, AttrAt W v a ∧ inA a := by
  obtain ⟨cs, rfl, hs⟩ := okWide_struct Tryd.underlying25 hval
  obtain ⟨fuel, hf⟩ := h
  obtain ⟨a, vc, vv, hc, h1, h2, h3⟩ := row_attr hf
  refine ⟨a, ⟨vc, vv, ?_, h1, h2⟩, h3⟩
  obtain ⟨l⟩ := cs
  simp [Value.cells] at hc
  rw [hc]
end Go.Proofs.YtfekcckckmhioaaDoor
/- A schema: what a function knows of one that it is handed; whether it is right. -/
namespace Go.Proofs.YtfekcckckmhioaaDoor
open Go.RowKit
set_option maxRecDepth 100000

structure SchemaD where
  attrs : List AttrD
  classes : List ByteArray
def ad (ls : List AttrD) (j : Nat) : AttrD := ls.getD j ⟨ByteArray.empty, [], []⟩
theorem ad_eq {ls : List AttrD} {j : Nat} (h : j < ls.length) : ad ls j = ls[j] := by simp [ad, h]
theorem ad_mem {ls : List AttrD} {j : Nat} (h : j < ls.length) : ad ls j ∈ ls := by rw [ad_eq h]; exact List.getElem_mem h

/-- One attribute's three cells. -/
def CellsA (w : World) (g o : Nat) (a : AttrD) : Prop :=
  ∃ vc vv, w.cell? ⟨g, o, none⟩ = some (.string a.name) ∧ w.cell? ⟨g, o + 1, none⟩ = some vc ∧ w.cell? ⟨g, o + 2, none⟩ = some vv ∧ RowI w vc a.cuts ∧ RowS w vv a.vals
theorem CellsA.later {w w' : World} {g o : Nat} {a : AttrD} (h : CellsA w g o a) (hb : Below w.heap.size w w') (hg : g < w.heap.size) : CellsA w' g o a := by
  obtain ⟨vc, vv, h0, h1, h2, h3, h4⟩ := h
  exact ⟨vc, vv, (hb.cell (p := ⟨g, o, none⟩) hg).trans h0, (hb.cell (p := ⟨g, o + 1, none⟩) hg).trans h1, (hb.cell (p := ⟨g, o + 2, none⟩) hg).trans h2, h3.later hb, h4.later hb⟩
/-- What a function knows of a list of attributes that it is handed. -/
def RowA (w : World) (v : Value) (ls : List AttrD) : Prop :=
  ∃ oa cap, v = .slice oa ls.length cap ∧ ls.length ≤ cap ∧ (0 < ls.length → ∃ g o, oa = some ⟨g, o, none⟩ ∧ g < w.heap.size ∧ ∀ j, j < ls.length → CellsA w g (o + j * 3) (ad ls j))
theorem RowA.later {w w' : World} {v : Value} {ls : List AttrD} (h : RowA w v ls) (hb : Below w.heap.size w w') : RowA w' v ls := by
  obtain ⟨oa, cap, rfl, hc, hr⟩ := h
  refine ⟨oa, cap, rfl, hc, fun h0 => ?_⟩
  obtain ⟨g, o, rfl, hg, hj⟩ := hr h0
  exact ⟨g, o, rfl, Nat.lt_of_lt_of_le hg hb.size, fun j hlt => (hj j hlt).later hb hg⟩
def SchemaAt (w : World) (v : Value) (s : SchemaD) : Prop :=
  ∃ va vc, v = .agg #[va, vc] ∧ RowA w va s.attrs ∧ RowS w vc s.classes
theorem SchemaAt.later {w w' : World} {v : Value} {s : SchemaD} (h : SchemaAt w v s) (hb : Below w.heap.size w w') : SchemaAt w' v s := by
  obtain ⟨va, vc, rfl, h1, h2⟩ := h
  exact ⟨va, vc, rfl, h1.later hb, h2.later hb⟩
structure okSch (s : SchemaD) : Prop where
  attrs : s.attrs.length ≤ 1099511627776
  each : ∀ a ∈ s.attrs, okA a
  classes : okS s.classes

def nmsB (ls : List AttrD) (k : Nat) : List ByteArray := (ls.take k).map (·.name)
def attrAt (ls : List AttrD) (i : Nat) : Bool := attrOk (ad ls i) && !hasT (nmsB ls i) (ad ls i).name
def attrsOk (ls : List AttrD) : Bool := (List.range ls.length).all (attrAt ls)
def schemaOk (s : SchemaD) : Bool := decide (1 ≤ s.attrs.length ∧ s.attrs.length ≤ 5) && (choices s.classes 3 && attrsOk s.attrs)
theorem attrs_yes {ls : List AttrD} (h : ∀ j, j < ls.length → attrAt ls j = true) : attrsOk ls = true := by
  unfold attrsOk
  rw [List.all_eq_true]
  intro j hj
  exact h j (List.mem_range.1 hj)
theorem attrs_no {ls : List AttrD} (j : Nat) (hj : j < ls.length) (h : attrAt ls j = false) : attrsOk ls = false := by
  cases e : attrsOk ls with
  | false => rfl
  | true =>
    unfold attrsOk at e
    rw [List.all_eq_true] at e
    have := e j (List.mem_range.2 hj)
    rw [h] at this; cases this
theorem attrAt_no1 {ls : List AttrD} {j : Nat} (h : attrOk (ad ls j) = false) : attrAt ls j = false := by unfold attrAt; rw [h]; rfl
theorem attrAt_no2 {ls : List AttrD} {j : Nat} (h : hasT (nmsB ls j) (ad ls j).name = true) : attrAt ls j = false := by unfold attrAt; rw [h]; simp
theorem attrAt_yes {ls : List AttrD} {j : Nat} (h : attrOk (ad ls j) = true) (k : hasT (nmsB ls j) (ad ls j).name = false) : attrAt ls j = true := by unfold attrAt; rw [h, k]; rfl
theorem nmsB_len {ls : List AttrD} {k : Nat} (h : k ≤ ls.length) : (nmsB ls k).length = k := by unfold nmsB; simp; omega
theorem nmsB_succ {ls : List AttrD} {k : Nat} (h : k < ls.length) : nmsB ls (k + 1) = nmsB ls k ++ [(ad ls k).name] := by
  unfold nmsB
  rw [List.take_succ_eq_append_getElem h, List.map_append, ad_eq h]; rfl
theorem nmsB_at {ls : List AttrD} {k j : Nat} (h : j < k) (hk : k ≤ ls.length) : tx (nmsB ls k) j = (ad ls j).name := by
  have hj : j < ls.length := by omega
  simp [tx, nmsB, ad, h, hj]
end Go.Proofs.YtfekcckckmhioaaDoor
/- How many bins an attribute has, in plain words. -/
namespace Go.Proofs.YtfekcckckmhioaaDoor
def bins (a : AttrD) : Int := if attrOk a = true then (if a.vals.length = 0 then (a.cuts.length : Int) + 1 else a.vals.length) else 0
end Go.Proofs.YtfekcckckmhioaaDoor
/- Chapter 6 in plain words: bins, numbers in order, cuts that are reckoned. -/
namespace Go.Proofs.YtfekcckckmhioaaDoor
def binN (cs : List Int) (x : Int) : Nat := cs.countP fun c => decide (c < x)
theorem binN_step (cs : List Int) (x : Int) (k : Nat) (h : k < cs.length) : binN (cs.take (k + 1)) x = binN (cs.take k) x + (if cs.getD k 0 < x then 1 else 0) := by
  unfold binN
  rw [List.take_succ_eq_append_getElem h, List.countP_append]
  simp [List.getD, List.getElem?_eq_getElem h, List.countP_cons]
theorem binN_le (cs : List Int) (x : Int) : binN cs x ≤ cs.length := List.countP_le_length

def leB : Int → Int → Bool := fun x y => decide (x ≤ y)
def sortI (zs : List Int) : List Int := zs.mergeSort fun x y => decide (x ≤ y)
theorem sortI_perm (zs : List Int) : (sortI zs).Perm zs := List.mergeSort_perm _ _
theorem sortI_len (zs : List Int) : (sortI zs).length = zs.length := (sortI_perm zs).length_eq
theorem sortI_rise (zs : List Int) : (sortI zs).Pairwise (· ≤ ·) := by
  have := List.pairwise_mergeSort (le := fun x y : Int => decide (x ≤ y)) (fun a b c h1 h2 => by simp at *; omega) (fun a b => by simp; omega) zs
  unfold sortI
  exact this.imp (fun h => by simpa using h)
theorem sortI_nil : sortI [] = [] := by simp [sortI]
theorem sort_one {xs ys : List Int} (h1 : xs.Pairwise (· ≤ ·)) (h2 : xs.Perm ys) : xs = sortI ys :=
  List.Perm.eq_of_pairwise (le := (· ≤ ·)) (fun a b _ _ h1 h2 => by omega) h1 (sortI_rise ys) (h2.trans (sortI_perm ys).symm)
theorem rise_at {xs : List Int} (h : xs.Pairwise (· ≤ ·)) {i j : Nat} (hij : i ≤ j) (hj : j < xs.length) : xs.getD i 0 ≤ xs.getD j 0 := by
  by_cases e : i = j
  · subst e; exact Int.le_refl _
  · have := List.pairwise_iff_getElem.1 h i j (by omega) hj (by omega)
    simpa [List.getD, List.getElem?_eq_getElem hj, List.getElem?_eq_getElem (show i < xs.length by omega)] using this
/-- A number put in its place. -/
theorem sort_put {ys : List Int} {x : Int} {at' : Nat} (h : at' ≤ (sortI ys).length) (h1 : ∀ j, at' ≤ j → j < (sortI ys).length → x < (sortI ys).getD j 0) (h2 : at' = 0 ∨ (sortI ys).getD (at' - 1) 0 ≤ x) :
    (sortI ys).take at' ++ [x] ++ (sortI ys).drop at' = sortI (ys ++ [x]) := by
  have R := sortI_rise ys
  have Pm := sortI_perm ys
  generalize sortI ys = out at *
  refine sort_one ?_ ?_
  · rw [List.append_assoc, List.pairwise_append]
    refine ⟨R.take, ?_, ?_⟩
    · rw [List.singleton_append, List.pairwise_cons]
      refine ⟨?_, R.drop⟩
      intro b hb
      obtain ⟨j, hj, rfl⟩ := List.getElem_of_mem hb
      rw [List.getElem_drop]
      rw [List.length_drop] at hj
      have := h1 (at' + j) (by omega) (by omega)
      simp [List.getD, List.getElem?_eq_getElem (show at' + j < out.length by omega)] at this
      omega
    · intro a ha b hb
      obtain ⟨i, hi, rfl⟩ := List.getElem_of_mem ha
      rw [List.length_take] at hi
      rw [List.getElem_take]
      have hx : out.getD i 0 ≤ x := by
        rcases h2 with h2 | h2
        · omega
        · have := rise_at R (show i ≤ at' - 1 by omega) (by omega)
          omega
      have ei : out.getD i 0 = out[i]'(by omega) := by simp [List.getD, List.getElem?_eq_getElem (show i < out.length by omega)]
      rw [List.singleton_append] at hb
      rcases List.mem_cons.1 hb with rfl | hb
      · omega
      · obtain ⟨j, hj, rfl⟩ := List.getElem_of_mem hb
        rw [List.getElem_drop]
        rw [List.length_drop] at hj
        have := h1 (at' + j) (by omega) (by omega)
        simp [List.getD, List.getElem?_eq_getElem (show at' + j < out.length by omega)] at this
        omega
  · rw [List.append_assoc, List.singleton_append]
    refine List.perm_middle.trans ?_
    rw [List.take_append_drop]
    exact (Pm.cons x).trans (List.perm_append_singleton x ys).symm

def rightK (k : Int) : Bool := decide (2 ≤ k ∧ k ≤ 4)
def cutIn (c : Int) : Bool := decide (-9999 ≤ c ∧ c ≤ 9998)
def eqAt (lo hi k : Int) (m : Nat) : List Int := (List.range m).map fun i : Nat => lo + ((hi - lo) * ((i : Int) + 1)) / k
theorem eqAt_succ (lo hi k : Int) (m : Nat) : eqAt lo hi k (m + 1) = eqAt lo hi k m ++ [lo + ((hi - lo) * ((m : Int) + 1)) / k] := by
  simp [eqAt, List.range_succ]
theorem eqAt_len (lo hi k : Int) (m : Nat) : (eqAt lo hi k m).length = m := by simp [eqAt]
def equalC (lo hi k : Int) : List Int :=
  if 2 ≤ k ∧ k ≤ 4 ∧ -9999 ≤ lo ∧ lo ≤ 9998 ∧ -9999 ≤ hi ∧ hi ≤ 9998 ∧ k ≤ hi - lo then eqAt lo hi k (k.toNat - 1) else []

theorem equalC_len (lo hi k : Int) : (equalC lo hi k).length ≤ 3 := by
  unfold equalC
  split
  · rw [eqAt_len]; omega
  · simp

def qAt (up : List Int) (k : Int) (i : Nat) : Int := up.getD (((up.length : Int) * i) / k).toNat 0
def qPut (out : List Int) (x : Int) : List Int := if out.length = 0 ∨ out.getD (out.length - 1) 0 < x then out ++ [x] else out
def qTo (up : List Int) (k : Int) : Nat → List Int
  | 0 => []
  | m + 1 => qPut (qTo up k m) (qAt up k (m + 1))
theorem qTo_len (up : List Int) (k : Int) (m : Nat) : (qTo up k m).length ≤ m := by
  induction m with
  | zero => simp [qTo]
  | succ m ih =>
    unfold qTo qPut
    split
    · simp; omega
    · omega
def allIn (zs : List Int) : Bool := zs.all cutIn
def quantC (zs : List Int) (k : Int) : List Int :=
  if 2 ≤ k ∧ k ≤ 4 ∧ 1 ≤ zs.length ∧ zs.length ≤ 64 ∧ allIn zs = true then qTo (sortI zs) k (k.toNat - 1) else []
theorem quantC_len (zs : List Int) (k : Int) : (quantC zs k).length ≤ 3 := by
  unfold quantC
  split
  · have := qTo_len (sortI zs) k (k.toNat - 1)
    omega
  · simp
theorem allIn_ends {zs : List Int} (h : 0 < zs.length) : allIn zs = (decide (-9999 ≤ (sortI zs).getD 0 0) && decide ((sortI zs).getD (zs.length - 1) 0 ≤ 9998)) := by
  have e : allIn zs = allIn (sortI zs) := by
    unfold allIn
    rw [Bool.eq_iff_iff, List.all_eq_true, List.all_eq_true]
    exact ⟨fun H x hx => H x ((sortI_perm zs).mem_iff.1 hx), fun H x hx => H x ((sortI_perm zs).mem_iff.2 hx)⟩
  have R := sortI_rise zs
  have L := sortI_len zs
  rw [e, ← L]
  rw [← L] at h
  generalize sortI zs = out at *
  have gd : ∀ i (hi : i < out.length), out.getD i 0 = out[i] := fun i hi => by simp [List.getD, List.getElem?_eq_getElem hi]
  unfold allIn
  rw [Bool.eq_iff_iff, List.all_eq_true, Bool.and_eq_true, decide_eq_true_eq, decide_eq_true_eq]
  constructor
  · intro H
    have a := H _ (List.getElem_mem h)
    have b := H _ (List.getElem_mem (show out.length - 1 < out.length by omega))
    rw [gd 0 h, gd _ (show out.length - 1 < out.length by omega)]
    simp [cutIn] at a b
    omega
  · rintro ⟨a, b⟩ x hx
    obtain ⟨i, hi, rfl⟩ := List.getElem_of_mem hx
    have c := rise_at R (show 0 ≤ i by omega) hi
    have d := rise_at R (show i ≤ out.length - 1 by omega) (by omega)
    rw [gd i hi] at c d
    simp [cutIn]
    omega
/-- The place that is asked lies within. -/
theorem q_in {n : Nat} {k : Int} {i : Nat} (hk : 2 ≤ k) (hn : 0 < n) (hi : (i : Int) < k) : 0 ≤ ((n : Int) * i) / k ∧ ((n : Int) * i) / k < n := by
  have h0 : 0 ≤ (n : Int) * i := Int.mul_nonneg (by omega) (by omega)
  refine ⟨Int.ediv_nonneg h0 (by omega), ?_⟩
  refine Int.ediv_lt_of_lt_mul (by omega) ?_
  exact Int.mul_lt_mul_of_pos_left hi (by omega)
end Go.Proofs.YtfekcckckmhioaaDoor
