/- Texts of this claim, put together: part 24. -/
import Derived.Test.YtobimpgapfecoaaFnAnyOrderPack23
import Derived.Test.YtobimpgapfecoaaFnAnyOrderPack3
import Derived.DeepKeys4
import Derived.Maps.OwnSet
import Derived.Test.YtobimpgapfecoaaFnAnyOrderPack6
import Derived.Test.YtobimpgapfecoaaFnAnyOrderPack9
import Derived.Test.YtobimpgapfecoaaFnAnyOrderPack8
/- The keys of a map of cells: a bin and a class. -/
namespace Go.Proofs.Ytobimpgapfecoaa
open Go.RowKit Go.Maps
set_option maxRecDepth 100000
set_option linter.unusedSimpArgs false
set_option linter.unusedVariables false
section
variable {P : Program} {k e : TypeId} {f0 f1 : Field}
theorem keyLits_two (hu : P.underlying k = some (.struct #[f0, f1])) (h0 : f0.type = e) (h1 : f1.type = e) (o0 : f0.offset = 0) (o1 : f1.offset = 1) (hn : (#[f0, f1] : Array Field).all (·.name != "_") = true) (he : P.underlying e = some (.int .i64)) (ck : P.cellsOf k = 2) (ce : P.cellsOf e = 1)
    (d : Nat) (c0 c1 : Value) : P.keyLits (d + 2) k [c0, c1] = ((P.keyLits (d + 1) e [c0]).bind fun x => (P.keyLits (d + 1) e [c1]).bind fun y => some [x, y]).map List.flatten := by
  obtain ⟨L0, g0⟩ : ∃ L0, L0 = P.keyLits (d + 1) e [c0] := ⟨_, rfl⟩
  obtain ⟨L1, g1⟩ : ∃ L1, L1 = P.keyLits (d + 1) e [c1] := ⟨_, rfl⟩
  rw [← g0, ← g1]
  show P.keyLits ((d + 1) + 1) k [c0, c1] = _
  unfold Program.keyLits
  rw [hu]
  simp only [List.length_cons, List.length_nil, ck, hn, and_self, if_true]
  simp [h0, h1, o0, o1, ce, ← g0, ← g1]
  cases L0 <;> cases L1 <;> rfl
theorem keyLits_one (he : P.underlying e = some (.int .i64)) (d : Nat) (n : Int) (h : (Lit.int .i64 n).wf = true) : P.keyLits (d + 1) e [.int .i64 n] = some [.int .i64 n] := by
  unfold Program.keyLits
  rw [he]
  simp [h]
theorem keyLits_inv (he : P.underlying e = some (.int .i64)) (d : Nat) (v : Value) (l : List Lit) (h : P.keyLits (d + 1) e [v] = some l) : ∃ n, v = .int .i64 n ∧ (Lit.int .i64 n).wf = true ∧ l = [.int .i64 n] := by
  unfold Program.keyLits at h
  rw [he] at h
  cases v <;> simp at h
  obtain ⟨⟨rfl, h2⟩, rfl⟩ := h
  exact ⟨_, rfl, h2, rfl⟩
def klit (b c : Int) : Lit := .string (keyBytes [.int .i64 b, .int .i64 c])
theorem keyOf_two (hs : 0 < P.types.size) (hk : P.keyType k = true) (hu : P.underlying k = some (.struct #[f0, f1])) (h0 : f0.type = e) (h1 : f1.type = e) (o0 : f0.offset = 0) (o1 : f1.offset = 1) (hn : (#[f0, f1] : Array Field).all (·.name != "_") = true) (he : P.underlying e = some (.int .i64)) (ck : P.cellsOf k = 2) (ce : P.cellsOf e = 1)
    {b c : Int} (hb : (Lit.int .i64 b).wf = true) (hc : (Lit.int .i64 c).wf = true) : keyOf P k (.agg #[.int .i64 b, .int .i64 c]) = some (klit b c) := by
  have e1 : P.types.size + 1 = (P.types.size - 1) + 2 := by omega
  unfold keyOf
  rw [hu]
  simp only [hk, Value.formed, hu, ck, e1]
  simp [Value.cells, keyLits_two hu h0 h1 o0 o1 hn he ck ce, keyLits_one he _ _ hb, keyLits_one he _ _ hc, klit]
theorem keyOf_inv (hs : 0 < P.types.size) (hu : P.underlying k = some (.struct #[f0, f1])) (h0 : f0.type = e) (h1 : f1.type = e) (o0 : f0.offset = 0) (o1 : f1.offset = 1) (hn : (#[f0, f1] : Array Field).all (·.name != "_") = true) (he : P.underlying e = some (.int .i64)) (ck : P.cellsOf k = 2) (ce : P.cellsOf e = 1)
    {v : Value} {l : Lit} (h : keyOf P k v = some l) : ∃ x : Int × Int, v = .agg #[.int .i64 x.1, .int .i64 x.2] ∧ (Lit.int .i64 x.1).wf = true ∧ (Lit.int .i64 x.2).wf = true := by
  have e1 : P.types.size + 1 = (P.types.size - 1) + 2 := by omega
  unfold keyOf at h
  rw [hu] at h
  simp only [e1] at h
  split at h
  rotate_left
  · cases h
  rename_i hf
  rw [Bool.and_eq_true] at hf
  have hf2 := hf.2
  cases v <;> simp [Value.formed, hu, ck] at hf2
  rename_i cs
  obtain ⟨l⟩ := cs
  simp at hf2
  match l, hf2 with
  | [c0, c1], _ =>
    simp only [Value.cells] at h
    rw [keyLits_two hu h0 h1 o0 o1 hn he ck ce] at h
    cases g0 : P.keyLits (P.types.size - 1 + 1) e [c0] with
    | none => rw [g0] at h; cases h
    | some l0 =>
      cases g1 : P.keyLits (P.types.size - 1 + 1) e [c1] with
      | none => rw [g0, g1] at h; cases h
      | some l1 =>
        obtain ⟨n0, rfl, w0, -⟩ := keyLits_inv he _ _ _ g0
        obtain ⟨n1, rfl, w1, -⟩ := keyLits_inv he _ _ _ g1
        exact ⟨(n0, n1), rfl, w0, w1⟩
end
theorem kLaid : laidOutB Try.prog = true := by kernel_rfl
theorem kRow : (87 : TypeId) < Try.prog.types.size := of_decide_eq_true (by kernel_rfl)
theorem kWide : (match Try.prog.underlying 87 with | some (.array _ _) | some (.struct _) => true | _ => false) = true := by rw [Try.underlying87]
theorem kLaw : Keyed Try.prog 87 := Keyed.of_law (deep_law_laid kLaid (m := 2) (by omega) kRow (by kernel_rfl) kWide)
theorem kCells : Try.prog.cellsOf 87 = 2 := by kernel_rfl
theorem kCell1 : Try.prog.cellsOf 3 = 1 := by kernel_rfl
theorem kType : Try.prog.keyType 87 = true := by kernel_rfl
theorem kSome : 0 < Try.prog.types.size := Nat.lt_of_le_of_lt (Nat.zero_le _) kRow
theorem key_pair {b c : Int} (hb : (Lit.int .i64 b).wf = true) (hc : (Lit.int .i64 c).wf = true) : keyOf Try.prog 87 (.agg #[.int .i64 b, .int .i64 c]) = some (klit b c) :=
  keyOf_two kSome kType Try.underlying87 (e := 3) rfl rfl rfl rfl (by kernel_rfl) Try.underlying3 kCells kCell1 hb hc
theorem key_inv {v : Value} {l : Lit} (h : keyOf Try.prog 87 v = some l) : ∃ x : Int × Int, v = .agg #[.int .i64 x.1, .int .i64 x.2] ∧ (Lit.int .i64 x.1).wf = true ∧ (Lit.int .i64 x.2).wf = true :=
  keyOf_inv kSome Try.underlying87 (e := 3) rfl rfl rfl rfl (by kernel_rfl) Try.underlying3 kCells kCell1 h
theorem wf_nat {i : Nat} (h : i ≤ 1099511627776) : (Lit.int .i64 (i : Int)).wf = true := WalkArith.wf_i64 (by omega)
def kat (m : Nat) (i : Nat) : Lit := klit ((i / m : Nat) : Int) ((i % m : Nat) : Int)
theorem kat_of {m i : Nat} (h : i ≤ 1099511627776) : keyOf Try.prog 87 (.agg #[.int .i64 ((i / m : Nat) : Int), .int .i64 ((i % m : Nat) : Int)]) = some (kat m i) :=
  key_pair (wf_nat (Nat.le_trans (Nat.div_le_self _ _) h)) (wf_nat (Nat.le_trans (Nat.mod_le _ _) h))
theorem kat_nos (m : Nat) : KeyNos (kat m) 1099511627777 where
  key i hi := kLaw.key (kat_of (m := m) (by omega))
  inj i j hi hj h := by
    have h1 := kat_of (m := m) (show i ≤ 1099511627776 by omega)
    have h2 := kat_of (m := m) (show j ≤ 1099511627776 by omega)
    rw [h] at h1
    have h3 := kLaw.inj h1 h2
    simp only [Value.agg.injEq, Array.mk.injEq, List.cons.injEq, Value.int.injEq, true_and, and_true, Int.natCast_inj] at h3
    rw [← Nat.div_add_mod' i m, ← Nat.div_add_mod' j m, h3.1, h3.2]
end Go.Proofs.Ytobimpgapfecoaa
/- Which cell stands ahead of which. -/
namespace Go.Proofs.Ytobimpgapfecoaa
open Go.RowKit Go.Maps
set_option maxRecDepth 100000
set_option linter.unusedSimpArgs false
def aheadB (b c b' c' : Int) : Bool := if b = b' then decide (c < c') else decide (b < b')
theorem ahead_any (b c b' c' : Int) (w : World) :
    Calls Try.prog 115 #[.agg #[.int .i64 b, .int .i64 c], .agg #[.int .i64 b', .int .i64 c']] w fun e w' => e = .returned (.bool (aheadB b c b' c')) ∧ Below w.heap.size w w' := by
  obtain ⟨K1, K2, B0⟩ := blk_2 87 87 w #[.int .i64 b, .int .i64 c] #[.int .i64 b', .int .i64 c']
  by_cases h : b = b'
  · subst h
    have HF : Hid (aheadB b c b c' = decide (c < c')) := by unfold aheadB; rw [if_pos rfl]; rfl
    clear K1 K2
    go_enter Try.func115, Try.ntmps115
    go_wp2
    go_ret
    exact ⟨by rw [HF.out]; rfl, B0⟩
  · have HF : Hid (aheadB b c b' c' = decide (b < b')) := by unfold aheadB; rw [if_neg h]; rfl
    have hq : (b == b') = false := by rw [beq_eq_false_iff_ne]; exact h
    clear K1 K2
    go_enter Try.func115, Try.ntmps115
    go_wp2
    go_ret
    exact ⟨by rw [HF.out]; rfl, B0⟩
theorem ahead_lt {m i j : Nat} : aheadB ((i / m : Nat) : Int) ((i % m : Nat) : Int) ((j / m : Nat) : Int) ((j % m : Nat) : Int) = decide (i < j) := by
  have hi := Nat.div_add_mod i m
  have hj := Nat.div_add_mod j m
  rw [Bool.eq_iff_iff, decide_eq_true_eq]
  unfold aheadB
  by_cases e : i / m = j / m
  · rw [if_pos (by rw [e]), decide_eq_true_eq]
    rw [e] at hi
    omega
  · rw [if_neg (by omega), decide_eq_true_eq]
    by_cases h : i / m < j / m
    · refine ⟨fun _ => ?_, fun _ => by omega⟩
      exact Nat.lt_of_not_le fun hle => absurd (Nat.div_le_div_right (c := m) hle) (by omega)
    · refine ⟨fun h' => by omega, fun hlt => ?_⟩
      have := Nat.div_le_div_right (c := m) (Nat.le_of_lt hlt)
      omega
end Go.Proofs.Ytobimpgapfecoaa
/- The cell ahead of all others. -/
namespace Go.Proofs.Ytobimpgapfecoaa
open Go.RowKit Go.Maps
set_option maxRecDepth 100000
set_option linter.unusedSimpArgs false
theorem key_size : (Try.prog.info? 87).map (·.size) = some 2 := by kernel_rfl
theorem wp_key_load {ops : Array Oper} {rest : List Oper} {o : Oper} {a : Act} {w : World} {Q : Exit → Act → World → Prop} (hgd : o.guard = none) (x : Operand) (ho : o.op = .load 87 x)
    (h : ∃ g, a.eval x = .pointer (some ⟨g, 0, none⟩) ∧ ∃ c0 c1, Blk 87 w g #[c0, c1] ∧ wpList Try.prog ops Q rest (a.put o.dst (.agg #[c0, c1])) w) : wpList Try.prog ops Q (o :: rest) a w := by
  obtain ⟨g, hx, c0, c1, hA, hk⟩ := h
  exact wpList_load_row hgd 87 x ho g hx _ _ _ _ hA Try.underlying87 rfl key_size hk
theorem wp_key_store {ops : Array Oper} {rest : List Oper} {o : Oper} {a : Act} {w : World} {Q : Exit → Act → World → Prop} (hgd : o.guard = none) (x y : Operand) (ho : o.op = .store 87 x y)
    (h : ∃ g, a.eval x = .pointer (some ⟨g, 0, none⟩) ∧ ∃ b c, a.eval y = .agg #[.int .i64 b, .int .i64 c] ∧ ∃ d0 d1, Blk 87 w g #[d0, d1] ∧ wpList Try.prog ops Q rest (a.put o.dst undef) (w.setRow g #[.int .i64 b, .int .i64 c])) : wpList Try.prog ops Q (o :: rest) a w := by
  obtain ⟨g, hx, b, c, hy, d0, d1, hA, hk⟩ := h
  exact wpList_store_row hgd 87 x y ho g _ hx hy _ _ hA key_size rfl (by simp [Value.oneCell']) hk
theorem res_key {fn : Func} {p : Tmp} (h : fn.results = #[.cell p 87]) (tmps : Array Value) (w : World) (g : Nat) (c0 c1 : Value)
    (hp : tmps.getD p undef = .pointer (some ⟨g, 0, none⟩)) (hg : Blk 87 w g #[c0, c1]) : (results fn tmps).run Try.prog w = .ok (.agg #[c0, c1]) w :=
  results_cell_row h tmps w g _ _ _ _ hp hg Try.underlying87 rfl key_size
theorem grown_row_at (w : World) (k : Nat) (c : Array Value) : w.grownBy (w.setRow k c) (some k) :=
  ⟨rfl, rfl, rfl, by simp [World.setRow], fun j _ hne => Go.setRow_other w k j c (fun e => hne (by rw [e]))⟩
/-- What the walk has found: the first of those that have come. -/
structure Found (m lo hi : Nat) (left : Lit → Bool) (j : Nat) : Prop where
  le : lo ≤ j
  one : j < hi ∨ j = 4 * m
  least : ∀ i, lo ≤ i → i < hi → left (kat m i) = false → j ≤ i
theorem Found.start {D : DataW Unit} {m lo hi : Nat} {l : List Int} (h : Holds (kat m) D l lo hi) (hl : lo < hi) (hm : hi ≤ 4 * m) : Found m lo hi (Maps.has D) (4 * m) :=
  ⟨by omega, .inr rfl, fun i h1 h2 hf => by rw [(h.has _).2 ⟨i, h1, h2, rfl⟩] at hf; cases hf⟩
theorem Found.step {m lo hi i j : Nat} {left : Lit → Bool} (h : Found m lo hi left j) (hi1 : lo ≤ i) (hi2 : i < hi) (hb : hi ≤ 1099511627776) : Found m lo hi (fun z => left z && !z.sameKey (kat m i)) (if i < j then i else j) := by
  have hle := h.le
  refine ⟨by split <;> omega, ?_, fun q h1 h2 hf => ?_⟩
  · split
    · exact .inl hi2
    · exact h.one
  rw [Bool.and_eq_false_iff] at hf
  rcases hf with hf | hf
  · have := h.least q h1 h2 hf; split <;> omega
  · have hs : (kat m q).sameKey (kat m i) = true := by simpa using hf
    have := (kat_nos m).inj q i (by omega) (by omega) (WideAt.sameKey_eq hs)
    split <;> omega
theorem Found.end {m lo hi j : Nat} {left : Lit → Bool} (h : Found m lo hi left j) (hl : lo < hi) (h0 : ∀ kl, left kl = false) : j = lo :=
  Nat.le_antisymm (h.least lo (Nat.le_refl _) hl (h0 _)) h.le
set_option maxHeartbeats 1600000 in
theorem first_any (b n : Nat) (D : DataW Unit) (m lo hi : Nat) (l : List Int) (w : World) (hown : w.ownsMap Try.prog 87 (plainElem (H := Unit) Try.prog 3) b n D) (hD : Holds (kat m) D l lo hi) (hl : lo < hi) (hm0 : 0 < m) (hm : hi ≤ 4 * m) (hm2 : m ≤ 1048576) :
    Calls Try.prog 97 #[.map (some b)] w fun e w' => e = .returned (.agg #[.int .i64 ((lo / m : Nat) : Int), .int .i64 ((lo % m : Nat) : Int)]) ∧ Below w.heap.size w w' := by
  have hbl := hown.lt
  obtain ⟨K1, K2, B0⟩ := blk_2 87 87 w #[.int .i64 0, .int .i64 0] #[.int .i64 4, .int .i64 0]
  have hown2 := (hown.alloc (.cells #[.int .i64 0, .int .i64 0] 87)).alloc (.cells #[.int .i64 4, .int .i64 0] 87)
  have e1 : ((w.alloc (.cells #[.int .i64 0, .int .i64 0] 87)).alloc (.cells #[.int .i64 4, .int .i64 0] 87)).heap.size = w.heap.size + 2 := by simp
  have HD : Hid (Holds (kat m) D l lo hi) := hD
  clear hD hown
  go_enter Try.func97, Try.ntmps97
  go_wp2_with (at_range; refine wpList_range_own _ rfl _ 84 rfl 87 3 kLaw Try.underlying84 _ b n D rfl hown2 ?_; intro w0 hrg0 hg0 hs0)
  go_frame
  rw [e1] at hrg0 hs0 ⊢
  have B1 := B0.grown hg0 (by omega) (fun j hj => by cases hj)
  have HK1 := K1.kept hg0 (by simp)
  have HK2 := K2.kept hg0 (by simp)
  clear hown2 hg0 K1 K2 B0 e1
  go_loopw [4] (fun _ wr => ∃ (left : Lit → Bool) (cnt j : Nat) (bj cj : Int), wr.ranges Try.prog 87 (plainElem (H := Unit) Try.prog 3) b (w.heap.size + 2) n D left cnt ∧ Blk 87 wr w.heap.size #[.int .i64 0, .int .i64 0] ∧ Blk 87 wr (w.heap.size + 1) #[.int .i64 bj, .int .i64 cj] ∧ Hid (bj = ((j / m : Nat) : Int) ∧ cj = ((j % m : Nat) : Int) ∧ Found m lo hi left j) ∧ Below w.heap.size w wr ∧ w.heap.size + 3 ≤ wr.heap.size)
    (fun _ wr => wr.rangeLeft b (w.heap.size + 2))
  case atStart =>
    exact ⟨_, _, 4 * m, 4, 0, hrg0, HK1, HK2, ⟨by rw [Nat.mul_div_cancel _ hm0]; rfl, by rw [Nat.mul_mod_left]; rfl, Found.start HD.out hl hm⟩, B1, by omega⟩
  case round =>
    obtain ⟨left, cnt, j, bj, cj, hrg, k1, k2, HF, hbr, hsz⟩ := hrel
    clear hrg0 hs0 B1 HK1 HK2
    go_wp2_with (first
      | (at_next; refine wpList_next_ranges _ rfl _ rfl 87 kLaw (plainElem (H := Unit) Try.prog 3) (fun x : Int × Int => Value.agg #[.int .i64 x.1, .int .i64 x.2]) (Value.int .i64) (fun key kl hk => by obtain ⟨x, h, _⟩ := key_inv hk; exact ⟨x, h⟩) (fun v y hv => by obtain ⟨c, h, _⟩ := plainElem_int_inv Try.underlying3 hv; exact ⟨c, h⟩) b (w.heap.size + 2) n D left cnt rfl hrg ?_ ?_)
      | go_in)
    · intro hc0 hl0
      have hj := HF.out.2.2.end hl hl0
      have HE : Hid (bj = ((lo / m : Nat) : Int) ∧ cj = ((lo % m : Nat) : Int)) := by rw [← hj]; exact ⟨HF.out.1, HF.out.2.1⟩
      clear hj
      go_wp2_with (first
        | (with_reducible refine wp_key_load rfl _ rfl ?_; refine ⟨w.heap.size + 1, rfl, _, _, k2, ?_⟩)
        | (with_reducible refine wp_key_store rfl _ _ rfl ?_; refine ⟨w.heap.size, rfl, _, _, rfl, _, _, k1, ?_⟩)
        | go_in)
      exact bodyPost_ret (res_key rfl _ _ _ _ _ rfl (k1.setRow _)) rfl ⟨by rw [← HE.out.1, ← HE.out.2], below_row hbr (by omega) _⟩
    · intro x1 x2 c kl y ps w1 cnt1 hkey hlk hv hat hrg1 hlt hg1 hs1 hen
      obtain ⟨i, hi1, hi2, rfl⟩ := (HD.out.has kl).1 (Maps.has_true_of_atKey hat)
      have hx := kLaw.inj hkey (kat_of (m := m) (i := i) (by omega))
      simp only [Value.agg.injEq, Array.mk.injEq, List.cons.injEq, Value.int.injEq, true_and, and_true] at hx
      have HX : Hid (x1 = ((i / m : Nat) : Int) ∧ x2 = ((i % m : Nat) : Int)) := hx
      have hah : aheadB x1 x2 bj cj = decide (i < j) := by rw [hx.1, hx.2, HF.out.1, HF.out.2.1, ahead_lt]
      have HFN : Hid (Found m lo hi (fun z => left z && !z.sameKey (kat m i)) (if i < j then i else j)) := HF.out.2.2.step hi1 hi2 (by omega)
      have HBJ : Hid (bj = ((j / m : Nat) : Int) ∧ cj = ((j % m : Nat) : Int)) := ⟨HF.out.1, HF.out.2.1⟩
      have b1 := hbr.grown hg1 hbr.size (fun q hq => by cases hq; omega)
      replace k1 := k1.kept hg1 (by simp)
      replace k2 := k2.kept hg1 (by simp)
      have e1 : w1.heap.size = wr.heap.size := hs1
      obtain ⟨KA, BA⟩ := blk_1 87 w1 #[.int .i64 x1, .int .i64 x2]
      have k2A := k2.alloc (.cells #[.int .i64 x1, .int .i64 x2] 87)
      have k1A := k1.alloc (.cells #[.int .i64 x1, .int .i64 x2] 87)
      have bA := b1.trans (BA.mono (by omega))
      have ca := ahead_any x1 x2 bj cj (w1.alloc (.cells #[.int .i64 x1, .int .i64 x2] 87))
      rw [hah] at ca
      have HRG := hrg1.alloc (.cells #[.int .i64 x1, .int .i64 x2] 87)
      have HLE : Hid (cnt1 < wr.rangeLeft b (w.heap.size + 2)) := by rw [hrg.left_eq]; exact hlt
      have hszA : w.heap.size + 3 ≤ (w1.alloc (.cells #[.int .i64 x1, .int .i64 x2] 87)).heap.size := by simp; omega
      have hga : w1.heap.size ≠ w.heap.size + 1 ∧ w.heap.size + 1 < w1.heap.size := by omega
      clear hrg HF hg1 hs1 hlk hkey hv hat hbr b1 hrg1 hlt e1 BA hx hah
      go_wp2_with (with_reducible refine wp_key_load rfl _ rfl ?_; first | refine ⟨w.heap.size + 1, rfl, _, _, k2A, ?_⟩ | refine ⟨w1.heap.size, rfl, _, _, KA, ?_⟩)
      refine ca.mono ?_
      clear ca hen k1 k2
      generalize hka : w1.heap.size = gA at KA hga ⊢
      generalize (w1.alloc (.cells #[.int .i64 x1, .int .i64 x2] 87)) = wA at k1A k2A KA bA HRG hszA
      clear hka
      rintro e w2 ⟨rfl, hb2⟩
      have hg2 : wA.grownBy w2 none := grown_of_below hb2
      have HR2 := HRG.kept hg2 (by simp) (by simp)
      replace k1A := k1A.below hb2
      replace k2A := k2A.below hb2
      replace KA := KA.below hb2
      have b2 := bA.trans (hb2.mono bA.size)
      have hsz2 : w.heap.size + 3 ≤ w2.heap.size := Nat.le_trans hszA hb2.size
      clear HRG hg2 hb2 bA hszA
      by_cases hij : i < j
      · rw [decide_eq_true hij]
        have HFI : Hid (Found m lo hi (fun z => left z && !z.sameKey (kat m i)) i) := by have := HFN.out; rwa [if_pos hij] at this
        have hg3 : w2.grownBy (w2.setRow (w.heap.size + 1) #[.int .i64 x1, .int .i64 x2]) (some (w.heap.size + 1)) := grown_row_at _ _ _
        have HR3 := HR2.kept hg3 (by intro e; have := Option.some.inj e; omega) (by intro e; have := Option.some.inj e; omega)
        have b3 := below_row b2 (g := w.heap.size + 1) (by omega) #[.int .i64 x1, .int .i64 x2]
        have k1B := k1A.setRow_other (k := w.heap.size + 1) #[.int .i64 x1, .int .i64 x2] (by omega)
        have k2B := k2A.setRow #[.int .i64 x1, .int .i64 x2]
        go_wp2_with (first
          | (with_reducible refine wp_key_load rfl _ rfl ?_; refine ⟨gA, rfl, _, _, KA, ?_⟩)
          | (with_reducible refine wp_key_store rfl _ _ rfl ?_; refine ⟨w.heap.size + 1, rfl, _, _, rfl, _, _, k2A, ?_⟩)
          | go_in)
        go_frame
        go_roundw
        case rel => exact ⟨_, cnt1, i, x1, x2, HR3, k1B, k2B, ⟨HX.out.1, HX.out.2, HFI.out⟩, b3, by simpa [World.setRow] using hsz2⟩
        case measure => rw [HR3.left_eq]; exact HLE.out
      · rw [decide_eq_false hij]
        have HFI : Hid (Found m lo hi (fun z => left z && !z.sameKey (kat m i)) j) := by have := HFN.out; rwa [if_neg hij] at this
        go_wp2
        go_roundw
        case rel => exact ⟨_, cnt1, j, bj, cj, HR2, k1A, k2A, ⟨HBJ.out.1, HBJ.out.2, HFI.out⟩, b2, hsz2⟩
        case measure => rw [HR2.left_eq]; exact HLE.out
end Go.Proofs.Ytobimpgapfecoaa
/- The list that a map of cells was made of, told again. -/
namespace Go.Proofs.Ytobimpgapfecoaa
open Go.RowKit Go.Maps
set_option maxRecDepth 100000
set_option linter.unusedSimpArgs false
theorem intZero (w : World) : (zeroValue 3).run Try.prog w = .ok (.int .i64 0) w := by kernel_rfl
theorem newc1 (w : World) (cs : Array Value) (t : TypeId) : ∀ (j : Nat) (u : Value), cs.toList[j]? = some u → (w.alloc (.cells cs t)).cell? ((⟨w.heap.size, 0, none⟩ : Addr).add j) = some u := by
  intro j u hj
  have e : (⟨w.heap.size, 0, none⟩ : Addr).add j = ⟨w.heap.size, j, none⟩ := by cases j <;> simp [Addr.add]
  rw [e, (Blk.new t w cs).cell j]
  simpa using hj
theorem Holds.done {κ : Nat → Lit} {D : DataW Unit} {l : List Int} {k n : Nat} (h : Holds κ D l k n) (x : Int) (hk : k < n) (z : DataW Unit) (hx : D.atKey (κ k) z = .lit (.int .i64 x)) : x = l.getD k 0 := by
  have := (h.at' k (Nat.le_refl _) hk z).symm.trans hx
  simpa using this.symm
set_option maxHeartbeats 1600000 in
theorem list_any (b : Nat) (D : DataW Unit) (m : Nat) (l : List Int) (w : World) (hown : w.ownsMap Try.prog 87 (plainElem (H := Unit) Try.prog 3) b l.length D) (hD : Holds (kat m) D l 0 l.length) (hm0 : 0 < m) (hm : l.length ≤ 4 * m) (hm2 : m ≤ 1048576) :
    Calls Try.prog 52 #[.map (some b)] w fun e w' => ∃ v, e = .returned v ∧ w'.ownsRow w.heap.size 3 1 v l.length (l.map (Value.int .i64)) ∧ w.grownBy w' (some b) := by
  obtain ⟨i0, hi0, hz0, hz1, hz2⟩ := info_parts intInfo
  have hbl := hown.lt
  have hsd : Maps.size D = l.length := by rw [hD.size]; omega
  have HD : Hid (Holds (kat m) D l 0 l.length) := hD
  clear hD
  go_enter Try.func52, Try.ntmps52
  go_wp2_with (first
    | (at_len; refine wpList_len_own _ rfl _ 84 rfl 87 3 Try.underlying84 _ b l.length D rfl hown ?_; rw [hsd])
    | (at_make; refine wpList_make_own _ rfl _ _ 28 rfl w.heap.size 3 i0 (.int .i64 0) 1 Try.underlying28 hi0 hz0 hz1 .i64 .i64 _ l.length rfl rfl rfl (by rw [hz2]; omega) (by unfold maxLen; omega) (Nat.le_refl _) ?_)
    | go_in)
  intro w1 ho1 hg1
  have hown1 := hown.kept hg1 (by simp)
  have hG1 : w.grownBy w1 (some b) := hg1.but _
  have hbg : b ≠ w.heap.size := by omega
  clear hown hg1
  go_wp2_with (first
    | (at_len; refine wpList_len_own _ rfl _ 84 rfl 87 3 Try.underlying84 _ b l.length D rfl hown1 ?_; rw [hsd])
    | go_in)
  go_loopw [3, 10] (fun v i wr => ∃ (k : Nat) (Dk : DataW Unit), i = .int .i64 k ∧ v = .slice (some ⟨w.heap.size, 0, none⟩) k l.length ∧ k ≤ l.length ∧ wr.ownsRow w.heap.size 3 1 (.slice (some ⟨w.heap.size, 0, none⟩) k l.length) k ((l.take k).map (Value.int .i64)) ∧ wr.ownsMap Try.prog 87 (plainElem (H := Unit) Try.prog 3) b l.length Dk ∧ Hid (Holds (kat m) Dk l k l.length) ∧ w.grownBy wr (some b)) (fun _ i _ => l.length - (intOf i).toNat)
  case atStart => exact ⟨0, D, rfl, rfl, by omega, ho1, hown1, HD.out, hG1⟩
  case round =>
    obtain ⟨k, Dk, rfl, rfl, hk, hrow, hmap, HK, hgr⟩ := hrel
    clear ho1 hown1 hG1 HD hsd
    by_cases hlt : k < l.length
    · have c1 := first_any b l.length Dk m k l.length l wr hmap HK.out hlt hm0 hm hm2
      have hkey := kat_of (m := m) (i := k) (by omega)
      obtain ⟨bk, hbk⟩ : ∃ bk : Int, bk = ((k / m : Nat) : Int) := ⟨_, rfl⟩
      obtain ⟨ck, hck⟩ : ∃ ck : Int, ck = ((k % m : Nat) : Int) := ⟨_, rfl⟩
      rw [← hbk, ← hck] at c1 hkey
      have HNEXT : Hid (∀ x : Int, Dk.atKey (kat m k) (.lit (.int .i64 0)) = .lit (.int .i64 x) → (l.take (k + 1)).map (Value.int .i64) = (l.take k).map (Value.int .i64) ++ [.int .i64 x]) := fun x hx => by
        rw [HK.out.done x hlt _ hx, List.take_succ_eq_append_getElem hlt, List.map_append, List.map_singleton, List.getD_eq_getElem?_getD, List.getElem?_eq_getElem hlt]; rfl
      have HDEL : Hid (Holds (kat m) (Dk.del (kat m k)) l (k + 1) l.length) := HK.out.del (kat_nos m) (by omega) hlt
      clear hbk hck
      generalize kat m k = kl at hkey HNEXT HDEL
      go_wp2_with fail
      refine c1.mono ?_
      clear c1
      rintro e w2 ⟨rfl, hb2⟩
      have hg2 : wr.grownBy w2 none := grown_of_below hb2
      have hsz : w.heap.size + 1 ≤ w2.heap.size := Nat.le_trans (hrow.lt w.heap.size rfl).2 hb2.size
      obtain ⟨KA, BA⟩ := blk_1 87 w2 #[.int .i64 bk, .int .i64 ck]
      have mapA := (hmap.kept hg2 (by simp)).alloc (.cells #[.int .i64 bk, .int .i64 ck] 87)
      have rowA := (own_below hrow hb2).alloc (.cells #[.int .i64 bk, .int .i64 ck] 87)
      have hgA := (hgr.andThen hg2 (fun j hj => by cases hj)).andThen (World.grownBy_alloc w2 (.cells #[.int .i64 bk, .int .i64 ck] 87) none) (fun j hj => by cases hj)
      have hszA : (w2.alloc (.cells #[.int .i64 bk, .int .i64 ck] 87)).heap.size = w2.heap.size + 1 := by simp
      clear hg2 hmap hrow hgr hb2 HK BA
      go_wp2_with (first
        | (at_lookup; refine wpList_lookup_own_int _ rfl _ _ 84 rfl 87 3 .i64 kLaw Try.underlying84 Try.underlying3 (intZero _) b l.length _ rfl mapA _ _ rfl hkey ?_)
        | go_in)
      intro x hat hwx
      have HN := HNEXT.out x hat
      have hnw := newc1 (w2.alloc (.cells #[.int .i64 bk, .int .i64 ck] 87)) #[.int .i64 x] 3
      rw [hszA] at hnw
      clear hat HNEXT
      go_wp2_with (at_builtin; refine wpList_append_fits _ rfl _ _ 28 rfl w.heap.size 3 i0 1 Try.underlying28 hi0 hz1 w.heap.size k l.length _ rfl (rowA.alloc _) ⟨w2.heap.size + 1, 0, none⟩ 1 1 [.int .i64 x] rfl rfl hnw (ints_oneCell .i64 [x]) (by omega) ?_)
      intro w3 ho3 hg3
      have hgx := (World.grownBy_alloc (w2.alloc (.cells #[.int .i64 bk, .int .i64 ck] 87)) (.cells #[.int .i64 x] 3) (some w.heap.size)).andThen hg3 (fun j hj => .inr hj)
      have KA3 := KA.kept hgx (by intro e; have := Option.some.inj e; omega)
      have map3 := mapA.kept hgx (by intro e; have := Option.some.inj e; omega)
      have hg33 := hgA.andThen hgx (fun j hj => by cases hj; exact .inl (Nat.le_refl _))
      rw [← List.map_take, ← HN] at ho3
      clear KA mapA rowA hgA hg3 hgx hnw hszA HN
      go_wp2_with (first
        | (with_reducible refine wp_key_load rfl _ rfl ?_; refine ⟨w2.heap.size, rfl, _, _, KA3, ?_⟩)
        | (at_delete; refine wpList_delete_own _ rfl _ _ 84 87 rfl 3 kLaw Try.underlying84 _ b l.length _ rfl map3 _ _ rfl hkey ?_)
        | go_in)
      intro w4 map4 hturn
      have hg4 := hturn.grown
      have row4 := ho3.kept hg4 (.inr (by simp [Value.ownBlock]; omega))
      have hgr4 := hg33.andThen hg4 (fun j hj => .inr hj)
      clear KA3 map3 ho3 hg33 hturn hg4 hkey
      go_wp2
      go_roundw
      case rel => exact ⟨k + 1, _, by go_num, rfl, by omega, row4, map4, HDEL, hgr4⟩
      case measure => simp [intOf]; omega
    · obtain rfl : k = l.length := by omega
      have HT : Hid ((l.take l.length).map (Value.int .i64) = l.map (Value.int .i64)) := by rw [List.take_length]; rfl
      rw [HT.out] at hrow
      go_wp2
      go_ret
      exact ⟨_, rfl, hrow, hgr⟩
end Go.Proofs.Ytobimpgapfecoaa
