/- What stands between such bytes of a text: plain facts on lists of bytes; the library's Split answers it. -/
import Derived.Lib.Split
import Derived.Lib.SplitLaws
import Derived.Lib.CountLaws
import Derived.Lib.CutLaws
import Derived.Lib.IndexLaws
import Derived.Lib.IndexBytes
namespace Go.Proofs.Ytfekcckckmhioaa

def cuts (b : UInt8) : List UInt8 → List UInt8 → List (List UInt8)
  | cur, [] => [cur]
  | cur, c :: r => if c = b then cur :: cuts b [] r else cuts b (cur ++ [c]) r
theorem cuts_no (b : UInt8) : ∀ (r cur : List UInt8), (∀ c ∈ r, c ≠ b) → cuts b cur r = [cur ++ r]
  | [], cur, _ => by simp [cuts]
  | c :: r, cur, h => by
    rw [cuts, if_neg (h c (List.mem_cons_self ..)), cuts_no b r _ fun x hx => h x (List.mem_cons_of_mem _ hx)]
    simp
theorem cuts_hit (b : UInt8) (r : List UInt8) : ∀ (p cur : List UInt8), (∀ c ∈ p, c ≠ b) → cuts b cur (p ++ b :: r) = (cur ++ p) :: cuts b [] r
  | [], cur, _ => by simp [cuts]
  | c :: p, cur, h => by
    rw [List.cons_append, cuts, if_neg (h c (List.mem_cons_self ..)), cuts_hit b r p _ fun x hx => h x (List.mem_cons_of_mem _ hx)]
    simp
theorem cuts_len (b : UInt8) : ∀ (r cur : List UInt8), (cuts b cur r).length ≤ r.length + 1
  | [], cur => by simp [cuts]
  | c :: r, cur => by
    unfold cuts
    split
    · have := cuts_len b r []; simp; omega
    · have := cuts_len b r (cur ++ [c]); simp; omega

/-- The pieces behind the first, each with its byte ahead. -/
def tailJ (b : UInt8) (ps : List (List UInt8)) : List UInt8 := ps.flatMap fun p => b :: p
theorem cuts_join (b : UInt8) : ∀ (r cur : List UInt8), ∃ x xs, cuts b cur r = x :: xs ∧ x ++ tailJ b xs = cur ++ r
  | [], cur => ⟨cur, [], rfl, by simp [tailJ]⟩
  | c :: r, cur => by
    unfold cuts
    split
    · next h =>
      subst h
      obtain ⟨x, xs, h1, h2⟩ := cuts_join c r []
      refine ⟨cur, cuts c [] r, rfl, ?_⟩
      rw [h1]
      simp only [tailJ, List.flatMap_cons, List.cons_append]
      simp only [tailJ, List.nil_append] at h2
      rw [h2]
    · obtain ⟨x, xs, h1, h2⟩ := cuts_join b r (cur ++ [c])
      exact ⟨x, xs, h1, by rw [h2]; simp⟩
theorem cuts_clean (b : UInt8) : ∀ (r cur : List UInt8), (∀ c ∈ cur, c ≠ b) → ∀ x ∈ cuts b cur r, ∀ c ∈ x, c ≠ b
  | [], cur, h, x, hx => by simp only [cuts, List.mem_singleton] at hx; subst hx; exact h
  | c :: r, cur, h, x, hx => by
    unfold cuts at hx
    split at hx
    · rcases List.mem_cons.1 hx with rfl | hx
      · exact h
      · exact cuts_clean b r [] (by simp) x hx
    · next hc =>
      refine cuts_clean b r _ ?_ x hx
      intro y hy
      rcases List.mem_append.1 hy with h1 | h1
      · exact h y h1
      · simp only [List.mem_singleton] at h1; subst h1; exact hc

def mkB (l : List UInt8) : ByteArray := ⟨l.toArray⟩
theorem mkB_data (l : List UInt8) : (mkB l).data.toList = l := rfl
theorem mkB_of (s : ByteArray) : mkB s.data.toList = s := by apply ByteArray.ext; simp [mkB]
/-- The pieces of a text. -/
def pieces (b : UInt8) (s : ByteArray) : List ByteArray := (cuts b [] s.data.toList).map mkB
theorem pieces_len (b : UInt8) (s : ByteArray) : (pieces b s).length ≤ s.size + 1 := by
  unfold pieces
  have := cuts_len b s.data.toList []
  simpa using this

theorem index_one' (s : ByteArray) (b : UInt8) : Lib.indexB s ⟨#[b]⟩ = Lib.indexByte s.data.toList b := by
  unfold Lib.indexB
  exact Lib.index_one _ _

theorem split_pieces (b : UInt8) : ∀ (k : Nat) (s : ByteArray), s.size ≤ k → Lib.splitB ⟨#[b]⟩ 0 (Lib.countB s ⟨#[b]⟩) s = pieces b s := by
  intro k
  induction k with
  | zero =>
    intro s hs
    have e : s.data.toList = [] := by
      apply List.eq_nil_of_length_eq_zero
      have : s.data.toList.length = s.size := by simp
      omega
    have hi : Lib.indexB s ⟨#[b]⟩ = -1 := by rw [index_one', e]; rfl
    rw [Lib.countB_miss s _ hi, Lib.splitB_zero, pieces, e]
    simp only [cuts, List.map_cons, List.map_nil]
    rw [← e, mkB_of]
  | succ k ih =>
    intro s hs
    rcases Lib.indexB_cases s ⟨#[b]⟩ with hi | ⟨i, hi, hle⟩
    · have hn := Lib.indexByte_none ((index_one' s b).symm.trans hi)
      rw [Lib.splitB_miss _ _ _ _ hi, pieces, cuts_no b _ _ (fun c hc e => by
        obtain ⟨j, hj, hcj⟩ := List.mem_iff_getElem.1 hc
        exact hn j (by rw [List.getElem?_eq_getElem hj, hcj, e]))]
      simp [mkB_of]
    · have hsome := Lib.indexByte_some ((index_one' s b).symm.trans hi)
      have hsz : (⟨#[b]⟩ : ByteArray).size = 1 := rfl
      rw [hsz] at hle
      rw [Lib.countB_hit s _ i (by rw [hsz]; exact Nat.le_refl _) hi, Nat.add_comm 1, Lib.splitB_hit _ _ _ _ i hi, hsz, ih _ (by simp; omega)]
      have hl : s.data.toList = s.data.toList.take i ++ b :: s.data.toList.drop (i + 1) := by
        have hj : i < s.data.toList.length := by simpa using (show i < s.size by omega)
        have e : s.data.toList[i] = b := by
          have := hsome.1
          rw [List.getElem?_eq_getElem hj] at this
          exact Option.some.inj this
        rw [← e, ← List.drop_eq_getElem_cons hj, List.take_append_drop]
      have hd : (s.extract (i + 1) s.size).data.toList = s.data.toList.drop (i + 1) := Lib.extract_to_end s (i + 1)
      have ht : s.extract 0 (i + 0) = mkB (s.data.toList.take i) := by
        apply ByteArray.ext
        apply Array.toList_inj.1
        rw [Lib.extract_data]; simp [mkB]
      rw [ht]
      unfold pieces
      rw [hd]
      conv => rhs; rw [hl, cuts_hit b _ _ _ (fun c hc e => by
        obtain ⟨j, hj, hcj⟩ := List.mem_iff_getElem.1 hc
        rw [List.length_take] at hj
        rw [List.getElem_take] at hcj
        exact hsome.2 j (by omega) (by rw [List.getElem?_eq_getElem (by omega), hcj, e]))]
      simp
theorem split_all (b : UInt8) (s : ByteArray) : Lib.splitB ⟨#[b]⟩ 0 (Lib.countB s ⟨#[b]⟩) s = pieces b s := split_pieces b s.size s (Nat.le_refl _)
theorem count_pieces (b : UInt8) (s : ByteArray) : Lib.countB s ⟨#[b]⟩ + 1 = (pieces b s).length := by
  rw [← split_all, Lib.splitB_all ⟨#[b]⟩ (by exact Nat.le_refl _) 0 _ s rfl]
end Go.Proofs.Ytfekcckckmhioaa
