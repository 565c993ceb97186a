/- Texts of this claim, put together: part 14. -/
import Derived.Test.YtobimpgapfecoaaFnPromisePack3
import Derived.Lib.Join
import Derived.Test.YtobimpgapfecoaaFnPromisePack13
import Derived.Lib.Split
import Derived.Lib.SplitLaws
import Derived.Lib.CountLaws
import Derived.Lib.CutLaws
import Derived.Lib.IndexLaws
import Derived.Lib.IndexBytes
import Derived.Test.YtobimpgapfecoaaFnPromisePack7
import Derived.Test.YtobimpgapfecoaaFnPromisePack4
/- An attribute that is right: which kind it is, how long its texts are. -/
namespace Go.Proofs.Ytobimpgapfecoaa
open Go.RowKit
set_option maxRecDepth 100000

/-- Texts with another one between. -/
def joinT (ss : List ByteArray) (sep : ByteArray) : ByteArray := ⟨(Lib.join (ss.map (·.data.toList)) sep.data.toList).toArray⟩
def itB (n : Int) : ByteArray := ⟨(Lib.itoa n).toArray⟩
theorem joinT_nil (sep : ByteArray) : joinT [] sep = ⟨#[]⟩ := rfl
theorem bytes_ext {a b : ByteArray} (h : a.data.toList = b.data.toList) : a = b := ByteArray.ext (Array.toList_inj.1 h)
theorem join_snoc (xs : List (List UInt8)) (x sep : List UInt8) (h : xs ≠ []) : Lib.join (xs ++ [x]) sep = Lib.join xs sep ++ sep ++ x := by
  cases xs with
  | nil => exact absurd rfl h
  | cons y r =>
    rw [List.cons_append, Lib.join_cons, Lib.join_cons]
    simp [Lib.joinTail, List.append_assoc]
theorem joinT_one (x sep : ByteArray) : joinT [x] sep = x := by
  apply bytes_ext
  simp [joinT, Lib.join_one]
theorem joinT_snoc {ss : List ByteArray} {k : Nat} (hk : k < ss.length) (h : 0 < k) (sep : ByteArray) : joinT (ss.take (k + 1)) sep = joinT (ss.take k) sep ++ sep ++ tx ss k := by
  apply bytes_ext
  have e : ss.take (k + 1) = ss.take k ++ [tx ss k] := by rw [List.take_succ_eq_append_getElem hk, tx_eq hk]
  rw [e]
  simp only [joinT, List.map_append, List.map_cons, List.map_nil]
  rw [join_snoc _ _ _ (by simp; exact ⟨by omega, fun e => by simp [e] at hk⟩)]
  simp [ByteArray.data_append]
theorem joinT_zero {ss : List ByteArray} (hk : 0 < ss.length) (sep : ByteArray) : joinT (ss.take 1) sep = tx ss 0 := by
  cases ss with
  | nil => simp at hk
  | cons x r => rw [List.take_succ_cons, List.take_zero, joinT_one]; rfl
theorem joinT_size (ss : List ByteArray) (sep : ByteArray) (m : Nat) (h : ∀ s ∈ ss, s.size ≤ m) : (joinT ss sep).size ≤ ss.length * (m + sep.size) := by
  have h1 : (joinT ss sep).size = (Lib.join (ss.map (·.data.toList)) sep.data.toList).length := by simp [joinT, ByteArray.size]
  rw [h1]
  cases ss with
  | nil => simp [Lib.join_nil]
  | cons x r =>
    rw [List.map_cons, Lib.join_length]
    have h2 : ∀ (l : List ByteArray), (∀ s ∈ l, s.size ≤ m) → Lib.lens (l.map (·.data.toList)) ≤ l.length * m := by
      intro l
      induction l with
      | nil => simp [Lib.lens]
      | cons y l ih =>
        intro hl
        have h3 := ih fun s hs => hl s (List.mem_cons_of_mem _ hs)
        have h4 : y.data.toList.length ≤ m := by have := hl y List.mem_cons_self; simpa using this
        have h5 : Lib.lens (List.map (·.data.toList) (y :: l)) = y.data.toList.length + Lib.lens (l.map (·.data.toList)) := by simp [Lib.lens]
        rw [h5, List.length_cons, Nat.succ_mul]
        omega
    have h6 := h2 (x :: r) h
    rw [List.map_cons] at h6
    have h7 : sep.data.toList.length = sep.size := by simp
    rw [h7, List.length_map, List.length_cons]
    rw [List.length_cons] at h6
    rw [Nat.mul_add, Nat.mul_comm sep.size]
    have : r.length * sep.size ≤ (r.length + 1) * sep.size := Nat.mul_le_mul_right _ (by omega)
    omega
theorem joinT_take {ss : List ByteArray} (sep : ByteArray) : ∀ {k j : Nat}, k ≤ j → j ≤ ss.length → (joinT (ss.take k) sep).size ≤ (joinT (ss.take j) sep).size := by
  intro k j hkj hj
  induction j with
  | zero => obtain rfl : k = 0 := by omega
            exact Nat.le_refl _
  | succ j ih =>
    by_cases e : k = j + 1
    · rw [e]; exact Nat.le_refl _
    · refine Nat.le_trans (ih (by omega) (by omega)) ?_
      by_cases h0 : 0 < j
      · rw [joinT_snoc (by omega) h0]; simp [ByteArray.size_append]; omega
      · obtain rfl : j = 0 := by omega
        exact Nat.zero_le _
theorem joinT_part {ss : List ByteArray} {k : Nat} (sep : ByteArray) (hk : k < ss.length) (h : 0 < k) : (joinT (ss.take k) sep).size + sep.size + (tx ss k).size ≤ (joinT ss sep).size := by
  have h1 := joinT_take (ss := ss) sep (k := k + 1) (j := ss.length) (by omega) (Nat.le_refl _)
  rw [joinT_snoc hk h, List.take_length] at h1
  simpa [ByteArray.size_append] using h1
theorem joinT_first {ss : List ByteArray} (sep : ByteArray) (hk : 0 < ss.length) : (tx ss 0).size ≤ (joinT ss sep).size := by
  have h1 := joinT_take (ss := ss) sep (k := 1) (j := ss.length) (by omega) (Nat.le_refl _)
  rwa [joinT_zero hk, List.take_length] at h1

/-- The text of an attribute. -/
def attrText (a : AttrD) : ByteArray :=
  if attrOk a = true then (if a.vals.length = 0 then a.name ++ ⟨#[58]⟩ ++ joinT (a.cuts.map itB) ⟨#[44]⟩ else a.name ++ ⟨#[61]⟩ ++ joinT a.vals ⟨#[44]⟩) else ⟨#[]⟩
theorem ok_name {a : AttrD} (h : attrOk a = true) : wordOk a.name = true := by
  unfold attrOk at h
  rw [Bool.and_eq_true] at h
  exact h.1
theorem ok_vals {a : AttrD} (h : attrOk a = true) (h0 : a.vals.length ≠ 0) : a.cuts.length = 0 ∧ 2 ≤ a.vals.length ∧ a.vals.length ≤ 4 ∧ wordsOk a.vals = true := by
  have hc : a.cuts.length = 0 := by have := ok_kind h; omega
  unfold attrOk at h
  rw [Bool.and_eq_true, if_pos hc] at h
  have h2 := h.2
  unfold choices at h2
  rw [Bool.and_eq_true, decide_eq_true_eq] at h2
  exact ⟨hc, by omega, by omega, h2.2⟩
theorem ok_cuts {a : AttrD} (h : attrOk a = true) (h0 : a.vals.length = 0) : 1 ≤ a.cuts.length ∧ a.cuts.length ≤ 3 ∧ cutsRise a.cuts = true := by
  have hc : a.cuts.length ≠ 0 := by have := ok_kind h; omega
  unfold attrOk at h
  rw [Bool.and_eq_true, if_neg hc, Bool.and_eq_true, Bool.and_eq_true, decide_eq_true_eq, decide_eq_true_eq] at h
  exact ⟨by omega, h.2.2.1, h.2.2.2⟩
theorem rise_all {cs : List Int} (h : cutsRise cs = true) {k : Nat} (hk : k < cs.length) : -9999 ≤ cs.getD k 0 ∧ cs.getD k 0 ≤ 9998 := by
  unfold cutsRise at h
  rw [List.all_eq_true] at h
  have := h k (List.mem_range.2 hk)
  unfold cutAt at this
  rw [Bool.and_eq_true, decide_eq_true_eq] at this
  exact this.1
theorem itB_size {n : Int} (h0 : -9999 ≤ n) (h1 : n ≤ 9999) : (itB n).size ≤ 5 := by
  have e : (itB n).size = (Lib.itoa n).length := by simp [itB, ByteArray.size]
  rw [e, Lib.itoa]
  have h2 := digits_len 3 n.natAbs (by omega)
  have h3 := digits_len 3 n.toNat (by omega)
  split
  · simp only [List.length_cons]; omega
  · omega
end Go.Proofs.Ytobimpgapfecoaa
/- What stands between such bytes of a text: plain facts on lists of bytes; the library's Split answers it. -/
namespace Go.Proofs.Ytobimpgapfecoaa

def cuts (b : UInt8) : List UInt8 → List UInt8 → List (List UInt8)
  | cur, [] => [cur]
  | cur, c :: r => if c = b then cur :: cuts b [] r else cuts b (cur ++ [c]) r
theorem cuts_no (b : UInt8) : ∀ (r cur : List UInt8), (∀ c ∈ r, c ≠ b) → cuts b cur r = [cur ++ r]
  | [], cur, _ => by simp [cuts]
  | c :: r, cur, h => by
    rw [cuts, if_neg (h c (List.mem_cons_self ..)), cuts_no b r _ fun x hx => h x (List.mem_cons_of_mem _ hx)]
    simp
theorem cuts_hit (b : UInt8) (r : List UInt8) : ∀ (p cur : List UInt8), (∀ c ∈ p, c ≠ b) → cuts b cur (p ++ b :: r) = (cur ++ p) :: cuts b [] r
  | [], cur, _ => by simp [cuts]
  | c :: p, cur, h => by
    rw [List.cons_append, cuts, if_neg (h c (List.mem_cons_self ..)), cuts_hit b r p _ fun x hx => h x (List.mem_cons_of_mem _ hx)]
    simp
theorem cuts_len (b : UInt8) : ∀ (r cur : List UInt8), (cuts b cur r).length ≤ r.length + 1
  | [], cur => by simp [cuts]
  | c :: r, cur => by
    unfold cuts
    split
    · have := cuts_len b r []; simp; omega
    · have := cuts_len b r (cur ++ [c]); simp; omega

/-- The pieces behind the first, each with its byte ahead. -/
def tailJ (b : UInt8) (ps : List (List UInt8)) : List UInt8 := ps.flatMap fun p => b :: p
theorem cuts_join (b : UInt8) : ∀ (r cur : List UInt8), ∃ x xs, cuts b cur r = x :: xs ∧ x ++ tailJ b xs = cur ++ r
  | [], cur => ⟨cur, [], rfl, by simp [tailJ]⟩
  | c :: r, cur => by
    unfold cuts
    split
    · next h =>
      subst h
      obtain ⟨x, xs, h1, h2⟩ := cuts_join c r []
      refine ⟨cur, cuts c [] r, rfl, ?_⟩
      rw [h1]
      simp only [tailJ, List.flatMap_cons, List.cons_append]
      simp only [tailJ, List.nil_append] at h2
      rw [h2]
    · obtain ⟨x, xs, h1, h2⟩ := cuts_join b r (cur ++ [c])
      exact ⟨x, xs, h1, by rw [h2]; simp⟩
theorem cuts_clean (b : UInt8) : ∀ (r cur : List UInt8), (∀ c ∈ cur, c ≠ b) → ∀ x ∈ cuts b cur r, ∀ c ∈ x, c ≠ b
  | [], cur, h, x, hx => by simp only [cuts, List.mem_singleton] at hx; subst hx; exact h
  | c :: r, cur, h, x, hx => by
    unfold cuts at hx
    split at hx
    · rcases List.mem_cons.1 hx with rfl | hx
      · exact h
      · exact cuts_clean b r [] (by simp) x hx
    · next hc =>
      refine cuts_clean b r _ ?_ x hx
      intro y hy
      rcases List.mem_append.1 hy with h1 | h1
      · exact h y h1
      · simp only [List.mem_singleton] at h1; subst h1; exact hc

def mkB (l : List UInt8) : ByteArray := ⟨l.toArray⟩
theorem mkB_data (l : List UInt8) : (mkB l).data.toList = l := rfl
theorem mkB_of (s : ByteArray) : mkB s.data.toList = s := by apply ByteArray.ext; simp [mkB]
/-- The pieces of a text. -/
def pieces (b : UInt8) (s : ByteArray) : List ByteArray := (cuts b [] s.data.toList).map mkB
theorem pieces_len (b : UInt8) (s : ByteArray) : (pieces b s).length ≤ s.size + 1 := by
  unfold pieces
  have := cuts_len b s.data.toList []
  simpa using this

theorem index_one' (s : ByteArray) (b : UInt8) : Lib.indexB s ⟨#[b]⟩ = Lib.indexByte s.data.toList b := by
  unfold Lib.indexB
  exact Lib.index_one _ _

theorem split_pieces (b : UInt8) : ∀ (k : Nat) (s : ByteArray), s.size ≤ k → Lib.splitB ⟨#[b]⟩ 0 (Lib.countB s ⟨#[b]⟩) s = pieces b s := by
  intro k
  induction k with
  | zero =>
    intro s hs
    have e : s.data.toList = [] := by
      apply List.eq_nil_of_length_eq_zero
      have : s.data.toList.length = s.size := by simp
      omega
    have hi : Lib.indexB s ⟨#[b]⟩ = -1 := by rw [index_one', e]; rfl
    rw [Lib.countB_miss s _ hi, Lib.splitB_zero, pieces, e]
    simp only [cuts, List.map_cons, List.map_nil]
    rw [← e, mkB_of]
  | succ k ih =>
    intro s hs
    rcases Lib.indexB_cases s ⟨#[b]⟩ with hi | ⟨i, hi, hle⟩
    · have hn := Lib.indexByte_none ((index_one' s b).symm.trans hi)
      rw [Lib.splitB_miss _ _ _ _ hi, pieces, cuts_no b _ _ (fun c hc e => by
        obtain ⟨j, hj, hcj⟩ := List.mem_iff_getElem.1 hc
        exact hn j (by rw [List.getElem?_eq_getElem hj, hcj, e]))]
      simp [mkB_of]
    · have hsome := Lib.indexByte_some ((index_one' s b).symm.trans hi)
      have hsz : (⟨#[b]⟩ : ByteArray).size = 1 := rfl
      rw [hsz] at hle
      rw [Lib.countB_hit s _ i (by rw [hsz]; exact Nat.le_refl _) hi, Nat.add_comm 1, Lib.splitB_hit _ _ _ _ i hi, hsz, ih _ (by simp; omega)]
      have hl : s.data.toList = s.data.toList.take i ++ b :: s.data.toList.drop (i + 1) := by
        have hj : i < s.data.toList.length := by simpa using (show i < s.size by omega)
        have e : s.data.toList[i] = b := by
          have := hsome.1
          rw [List.getElem?_eq_getElem hj] at this
          exact Option.some.inj this
        rw [← e, ← List.drop_eq_getElem_cons hj, List.take_append_drop]
      have hd : (s.extract (i + 1) s.size).data.toList = s.data.toList.drop (i + 1) := Lib.extract_to_end s (i + 1)
      have ht : s.extract 0 (i + 0) = mkB (s.data.toList.take i) := by
        apply ByteArray.ext
        apply Array.toList_inj.1
        rw [Lib.extract_data]; simp [mkB]
      rw [ht]
      unfold pieces
      rw [hd]
      conv => rhs; rw [hl, cuts_hit b _ _ _ (fun c hc e => by
        obtain ⟨j, hj, hcj⟩ := List.mem_iff_getElem.1 hc
        rw [List.length_take] at hj
        rw [List.getElem_take] at hcj
        exact hsome.2 j (by omega) (by rw [List.getElem?_eq_getElem (by omega), hcj, e]))]
      simp
theorem split_all (b : UInt8) (s : ByteArray) : Lib.splitB ⟨#[b]⟩ 0 (Lib.countB s ⟨#[b]⟩) s = pieces b s := split_pieces b s.size s (Nat.le_refl _)
theorem count_pieces (b : UInt8) (s : ByteArray) : Lib.countB s ⟨#[b]⟩ + 1 = (pieces b s).length := by
  rw [← split_all, Lib.splitB_all ⟨#[b]⟩ (by exact Nat.le_refl _) 0 _ s rfl]
end Go.Proofs.Ytobimpgapfecoaa
/- Chapter 7 in plain words: examples, cells, rows. -/
namespace Go.Proofs.Ytobimpgapfecoaa
open Go.RowKit
set_option maxRecDepth 100000
def askB : ByteArray := ⟨#[63]⟩
/-- What a part of a row says of an attribute. -/
def cellB (a : AttrD) (t : ByteArray) : Option Int :=
  if t = askB then some (-1)
  else if 0 < a.vals.length then (if 0 ≤ placeT a.vals t then some (placeT a.vals t) else none)
  else (sigSpec t.data.toList).map fun n => (binN a.cuts n : Int)
def cellText (a : AttrD) (b : Int) : ByteArray :=
  if attrOk a = true ∧ -1 ≤ b ∧ b ≤ bins a - 1 then
    (if b = -1 then askB else if 0 < a.vals.length then tx a.vals b.toNat
      else if b < (a.cuts.length : Int) then itB (a.cuts.getD b.toNat 0) else itB (a.cuts.getD (a.cuts.length - 1) 0 + 1))
  else ⟨#[]⟩
def classText (s : SchemaD) (c : Int) : ByteArray := if 0 ≤ c then tx s.classes c.toNat else askB
def cellsT (s : SchemaD) (e : ExD) (k : Nat) : List ByteArray := (List.range k).map fun i => cellText (ad s.attrs i) (e.bins.getD i 0)
theorem cellsT_succ (s : SchemaD) (e : ExD) (k : Nat) : cellsT s e (k + 1) = cellsT s e k ++ [cellText (ad s.attrs k) (e.bins.getD k 0)] := by simp [cellsT, List.range_succ]
theorem cellsT_len (s : SchemaD) (e : ExD) (k : Nat) : (cellsT s e k).length = k := by simp [cellsT]
def exText (s : SchemaD) (e : ExD) : ByteArray :=
  if exOk s e = true then joinT (cellsT s e e.bins.length) ⟨#[44]⟩ ++ ⟨#[124]⟩ ++ classText s e.cls else ⟨#[]⟩
/-- The bins of the first parts, as long as each says one; else the place of the first that says none. -/
def binsFrom (ls : List AttrD) (ps : List ByteArray) : Nat → Option (List Int)
  | 0 => some []
  | k + 1 => match binsFrom ls ps k, cellB (ad ls k) (tx ps k) with
    | some l, some b => some (l ++ [b])
    | _, _ => none
def firstBad (ls : List AttrD) (ps : List ByteArray) (k : Nat) : Nat → Nat
  | 0 => k
  | n + 1 => if (cellB (ad ls k) (tx ps k)).isSome then firstBad ls ps (k + 1) n else k
/-- A row: the example, the code, the place. -/
def rowOf (s : SchemaD) (row : ByteArray) : ExD × Int × Int :=
  if schemaOk s = true then
    if row.size ≤ 80 then
      let hs := pieces 124 row
      if hs.length = 2 then
        let ps := pieces 44 (tx hs 0)
        if ps.length = s.attrs.length then
          match binsFrom s.attrs ps ps.length with
          | none => (noEx, 5, (firstBad s.attrs ps 0 ps.length : Int))
          | some l => if 0 ≤ placeT s.classes (tx hs 1) ∨ tx hs 1 = askB then (⟨l, placeT s.classes (tx hs 1)⟩, 0, 0) else (noEx, 6, 0)
        else (noEx, 4, 0)
      else (noEx, 3, 0)
    else (noEx, 2, 0)
  else (noEx, 1, 0)
end Go.Proofs.Ytobimpgapfecoaa
/- An example in a block of its own: it is read and written whole, it is handed back. -/
namespace Go.Proofs.Ytobimpgapfecoaa
open Go.RowKit
set_option maxRecDepth 100000
theorem ex_size : (Try.prog.info? 33).map (·.size) = some 2 := by kernel_rfl
theorem wp_ex_load {ops : Array Oper} {rest : List Oper} {o : Oper} {a : Act} {w : World} {Q : Exit → Act → World → Prop} (hgd : o.guard = none) (x : Operand) (ho : o.op = .load 33 x)
    (h : ∃ g, a.eval x = .pointer (some ⟨g, 0, none⟩) ∧ ∃ c0 c1, Blk 33 w g #[c0, c1] ∧ wpList Try.prog ops Q rest (a.put o.dst (.agg #[c0, c1])) w) : wpList Try.prog ops Q (o :: rest) a w := by
  obtain ⟨g, hx, c0, c1, hA, hk⟩ := h
  exact wpList_load_row hgd 33 x ho g hx _ _ _ _ hA Try.underlying33 rfl ex_size hk
theorem wp_ex_store {ops : Array Oper} {rest : List Oper} {o : Oper} {a : Act} {w : World} {Q : Exit → Act → World → Prop} (hgd : o.guard = none) (x y : Operand) (ho : o.op = .store 33 x y)
    (h : ∃ g, a.eval x = .pointer (some ⟨g, 0, none⟩) ∧ ∃ o1 l1 k1 n, a.eval y = .agg #[.slice o1 l1 k1, .int .i64 n] ∧ ∃ d0 d1, Blk 33 w g #[d0, d1] ∧ wpList Try.prog ops Q rest (a.put o.dst undef) (w.setRow g #[.slice o1 l1 k1, .int .i64 n])) : wpList Try.prog ops Q (o :: rest) a w := by
  obtain ⟨g, hx, o1, l1, k1, n, hy, d0, d1, hA, hk⟩ := h
  exact wpList_store_row hgd 33 x y ho g _ hx hy _ _ hA ex_size rfl (by simp [Value.oneCell']) hk
theorem res_ex {fn : Func} {p : Tmp} (h : fn.results = #[.cell p 33]) (tmps : Array Value) (w : World) (g : Nat) (c0 c1 : Value)
    (hp : tmps.getD p undef = .pointer (some ⟨g, 0, none⟩)) (hg : Blk 33 w g #[c0, c1]) : (results fn tmps).run Try.prog w = .ok (.agg #[c0, c1]) w :=
  results_cell_row h tmps w g _ _ _ _ hp hg Try.underlying33 rfl ex_size
end Go.Proofs.Ytobimpgapfecoaa
