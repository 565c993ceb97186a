/- The text that begins at a place, as a plain function. -/
import Derived.Test.YtgekbbojhlcppaaDoorGp
import Derived.Laws.BytesArg
namespace Go.Proofs.YtgekbbojhlcppaaDoor
open Go.RowKit
set_option maxRecDepth 100000

theorem num_facts : ∀ (f k : Nat) (a : Int) (r : List Int) (v : Int) (j : Nat), 0 ≤ a → (∀ d ∈ r, 0 ≤ d) → num f k a r = some (v, j) → 0 ≤ v ∧ v ≤ 2147483647 ∧ k < j ∧ j ≤ k + f ∧ j ≤ k + r.length
  | 0, _, _, _, _, _, _, _, h => by simp [num] at h
  | _ + 1, _, _, [], _, _, _, _, h => by simp [num] at h
  | f + 1, k, a, d :: r, v, j, h0, hd, h => by
    have hp : (0 : Int) ≤ d % 128 * 2 ^ (7 * k) := Int.mul_nonneg (by omega) (Int.pow_nonneg (by omega))
    unfold num at h
    split at h
    · split at h
      · cases h
      · next hn =>
        simp only [Option.some.injEq, Prod.mk.injEq] at h
        obtain ⟨rfl, rfl⟩ := h
        simp only [List.length_cons]
        refine ⟨by omega, by omega, by omega, by omega, by omega⟩
    · have := num_facts f (k + 1) _ r v j (by omega) (fun x hx => hd x (List.mem_cons_of_mem _ hx)) h
      simp only [List.length_cons]
      omega

theorem getNum_facts {zs : List Int} {p v : Int} {j : Nat} (hr : ∀ j : Nat, 0 ≤ zs.getD j 0 ∧ zs.getD j 0 ≤ 255) (h : getNum zs p = some (v, j)) : 0 ≤ v ∧ v ≤ 2147483647 ∧ 0 < j ∧ j ≤ 5 ∧ 0 ≤ p ∧ p + j ≤ zs.length := by
  unfold getNum at h
  split at h
  · cases h
  · have := num_facts 5 0 0 _ v j (by omega) (fun d hd => by
      obtain ⟨i, hi, rfl⟩ := List.mem_iff_getElem.1 hd
      have h1 := (hr (p.toNat + i)).1
      simp only [List.length_drop] at hi
      have h2 : p.toNat + i < zs.length := by omega
      simpa [List.getD_eq_getElem?_getD, List.getElem?_eq_getElem h2] using h1) h
    simp only [List.length_drop] at this
    omega

def cutText (zs : List Int) (q : Int) (n : Int) : ByteArray := strOfNums ((zs.drop q.toNat).take n.toNat)
def getText (zs : List Int) (p : Int) : Option (ByteArray × Int) :=
  match getNum zs p with
  | none => none
  | some (n, k) => if (zs.length : Int) - (p + k) < n then none else some (cutText zs (p + k) n, p + k + n)
def gotText : Option (ByteArray × Int) → Value
  | none => .tuple #[.string ByteArray.empty, .int .i64 0, .bool false]
  | some (s, q) => .tuple #[.string s, .int .i64 q, .bool true]

/-- 'string(b[q:q+m])', wherever it lies. -/
theorem conv_cut {w : World} {g o n : Nat} {zs : List Int} (hz : zs.length = n) (hc : ∀ j, j < n → w.cell? ⟨g, o + j, none⟩ = some (.int .u8 (zs.getD j 0))) (q m c : Nat) (hq : q + m ≤ n) (wx : World) (hx : ∀ j, wx.cell? ⟨g, o + j, none⟩ = w.cell? ⟨g, o + j, none⟩) :
    (convert 22 9 (.slice (some ⟨g, o + q, none⟩) m c)).run Tryd.prog wx = .ok (.string (strOfNums ((zs.drop q).take m))) wx := by
  refine run_convert_bytes_arg (P := Tryd.prog) wx 22 5 Tryd.underlying22 Tryd.underlying5 g (o + q) m c ((zs.drop q).take m) (by simp; omega) (fun i hi => ?_) _ Tryd.underlying9
  rw [Nat.add_assoc, hx, hc (q + i) (by omega)]
  simp [hi]

theorem conv_zero (wx : World) (ad : Option Addr) (c : Nat) : (convert 22 9 (.slice ad 0 c)).run Tryd.prog wx = .ok (.string ByteArray.empty) wx := by
  rw [run_convert_bytes_string wx 22 9 5 _ 0 c Tryd.underlying22 Tryd.underlying5 Tryd.underlying9]
  cases ad <;> simp [Conv.bytesToString, loadCells]
  all_goals rfl

theorem cutText_nat (zs : List Int) (q m : Nat) : cutText zs (q : Int) (m : Int) = strOfNums ((zs.drop q).take m) := by simp [cutText]
theorem cutText_zero (zs : List Int) (q : Int) : cutText zs q 0 = ByteArray.empty := by simp [cutText, strOfNums]; rfl

end Go.Proofs.YtgekbbojhlcppaaDoor
