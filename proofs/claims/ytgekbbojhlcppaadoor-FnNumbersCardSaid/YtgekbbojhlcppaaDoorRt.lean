/- What is written is read as it was: plain facts on the bytes of numbers and texts. -/
import Derived.Test.YtgekbbojhlcppaaDoorPi
import Derived.Test.YtgekbbojhlcppaaDoorGq
namespace Go.Proofs.YtgekbbojhlcppaaDoor
open Go.RowKit

theorem num_put : ∀ (f x k : Nat) (a : Int) (r : List Int) (F : Nat), x < 128 ^ (f + 1) → f + 1 ≤ F → 0 ≤ a → a + x * 2 ^ (7 * k) ≤ 2147483647 → (0 < k → 0 < x) →
    num F k a (put f x ++ r) = some (a + x * 2 ^ (7 * k), k + (put f x).length) := by
  intro f
  induction f with
  | zero =>
    intro x k a r F hx hF ha hm h0
    obtain ⟨F', rfl⟩ : ∃ F', F = F' + 1 := ⟨F - 1, by omega⟩
    have hx' : x < 128 := by simpa using hx
    have e : (x : Int) % 128 = x := by omega
    simp only [put, List.cons_append, List.nil_append, num]
    rw [if_pos (by omega), e, if_neg (by
      rintro (⟨h1, h2⟩ | h)
      · have := h0 h1; omega
      · omega)]
    simp
  | succ f ih =>
    intro x k a r F hx hF ha hm h0
    obtain ⟨F', rfl⟩ : ∃ F', F = F' + 1 := ⟨F - 1, by omega⟩
    by_cases hl : x ≤ 127
    · have e : (x : Int) % 128 = x := by omega
      rw [put_low _ _ hl]
      simp only [List.cons_append, List.nil_append, num]
      rw [if_pos (by omega), e, if_neg (by
        rintro (⟨h1, h2⟩ | h)
        · have := h0 h1; omega
        · omega)]
      simp
    · obtain ⟨g, hg, hp, hput⟩ := put_high (f + 1) x (by omega) hx
      obtain rfl : g = f := by omega
      rw [hput]
      have hpos : (0 : Int) ≤ 2 ^ (7 * k) := Int.pow_nonneg (by omega)
      have hpw : (2 : Int) ^ (7 * (k + 1)) = 128 * 2 ^ (7 * k) := by rw [Nat.mul_add, Int.pow_add]; omega
      have e1 : (((x % 128 + 128 : Nat) : Int) % 128) = ((x % 128 : Nat) : Int) := by omega
      simp only [List.cons_append, num]
      rw [if_neg (by omega), e1]
      have e2 : a + ((x % 128 : Nat) : Int) * 2 ^ (7 * k) + ((x / 128 : Nat) : Int) * 2 ^ (7 * (k + 1)) = a + (x : Int) * 2 ^ (7 * k) := by
        rw [hpw]
        have hx2 : (x : Int) = ((x % 128 : Nat) : Int) + 128 * ((x / 128 : Nat) : Int) := by omega
        generalize (2 : Int) ^ (7 * k) = M
        rw [hx2, Int.add_mul]
        have : ((x / 128 : Nat) : Int) * (128 * M) = 128 * ((x / 128 : Nat) : Int) * M := by
          rw [← Int.mul_assoc, Int.mul_comm ((x / 128 : Nat) : Int) 128]
        omega
      rw [ih (x / 128) (k + 1) _ r F' hp (by omega) (by
        have := Int.mul_nonneg (show (0 : Int) ≤ ((x % 128 : Nat) : Int) by omega) hpos
        omega) (by rw [e2]; exact hm) (fun _ => by omega), e2]
      simp only [List.length_cons]
      congr 2
      omega

theorem getNum_put (pre r : List Int) (n : Int) (h0 : 0 ≤ n) (h1 : n ≤ 2147483647) : getNum (pre ++ (bytesOf n ++ r)) pre.length = some (n, (bytesOf n).length) := by
  obtain ⟨x, rfl⟩ := Int.eq_ofNat_of_zero_le h0
  have hb : bytesOf (x : Int) = put 4 x := by unfold bytesOf; rw [if_pos ⟨h0, h1⟩]; simp
  unfold getNum
  rw [if_neg (by omega), hb]
  simp only [Int.toNat_natCast, List.drop_left]
  rw [num_put 4 x 0 0 r 5 (by omega) (by omega) (by omega) (by omega) (by omega)]
  simp

theorem strOfNums_bytes (s : ByteArray) : strOfNums (s.data.toList.map fun b => (b.toNat : Int)) = s := by
  apply ByteArray.ext
  apply Array.toList_inj.1
  rw [strOfNums_data, List.map_map]
  have e : ((fun n : Int => UInt8.ofNat n.toNat) ∘ fun b : UInt8 => (b.toNat : Int)) = id := by
    funext b
    simp
  rw [e, List.map_id]

theorem getText_put (s : ByteArray) (r : List Int) (hs : s.size ≤ 2147483647) : getText (textOf s ++ r) 0 = some (s, ((textOf s).length : Int)) := by
  have hg : getNum (textOf s ++ r) 0 = some ((s.size : Int), (bytesOf s.size).length) := by
    have := getNum_put [] ((s.data.toList.map fun b => (b.toNat : Int)) ++ r) (s.size : Int) (by omega) (by omega)
    simpa [textOf] using this
  unfold getText
  rw [hg]
  simp only [Int.zero_add]
  have hl : (textOf s ++ r).length = (bytesOf s.size).length + s.size + r.length := by rw [List.length_append, textOf_len]
  rw [hl, if_neg (by omega)]
  have hc : cutText (textOf s ++ r) ((bytesOf s.size).length : Int) (s.size : Int) = s := by
    unfold cutText
    simp only [Int.toNat_natCast, textOf, List.append_assoc, List.drop_left]
    rw [List.take_left' (by simp)]
    exact strOfNums_bytes s
  rw [hc, textOf_len]
  simp
theorem bytesOf_bytes (n : Int) : ∀ d ∈ bytesOf n, 0 ≤ d ∧ d ≤ 255 := by
  have key : ∀ (f x : Nat), x < 128 ^ (f + 1) → ∀ d ∈ put f x, 0 ≤ d ∧ d ≤ 255 := by
    intro f
    induction f with
    | zero => intro x hx d hd; simp only [put, List.mem_singleton] at hd; subst hd; have h2 : x < 128 := (by simpa using hx); omega
    | succ f ih =>
      intro x hx d hd
      by_cases hl : x ≤ 127
      · rw [put_low _ _ hl] at hd; simp only [List.mem_singleton] at hd; omega
      · obtain ⟨g, hg, hp, hput⟩ := put_high (f + 1) x (by omega) hx
        obtain rfl : g = f := by omega
        rw [hput] at hd
        rcases List.mem_cons.1 hd with rfl | hd
        · omega
        · exact ih _ hp d hd
  unfold bytesOf
  split
  · next h => exact key 4 _ (by omega)
  · intro d hd; cases hd
theorem textOf_bytes (s : ByteArray) : ∀ d ∈ textOf s, 0 ≤ d ∧ d ≤ 255 := by
  intro d hd
  rcases List.mem_append.1 hd with h | h
  · exact bytesOf_bytes _ d h
  · obtain ⟨b, _, rfl⟩ := List.mem_map.1 h
    have := b.toNat_lt
    omega
theorem bytes_getD {zs : List Int} (h : ∀ d ∈ zs, 0 ≤ d ∧ d ≤ 255) : ∀ j : Nat, 0 ≤ zs.getD j 0 ∧ zs.getD j 0 ≤ 255 := by
  intro j
  by_cases hj : j < zs.length
  · rw [List.getD_eq_getElem?_getD, List.getElem?_eq_getElem hj]
    exact h _ (List.getElem_mem hj)
  · rw [List.getD_eq_getElem?_getD, List.getElem?_eq_none (by omega)]; simp
end Go.Proofs.YtgekbbojhlcppaaDoor
