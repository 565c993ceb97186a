/- The bytes of a number, as a plain function; what one round of the writer's loop does to it. -/
import Derived.Test.YtgekbbojhlcppaaDoorRows
import Derived.WalkKit
import Derived.ProofKit
import Derived.OpenShut
namespace Go.Proofs.YtgekbbojhlcppaaDoor
open Go.RowKit
set_option maxRecDepth 100000

def put : Nat → Nat → List Int
  | 0, n => [(n : Int)]
  | f + 1, n => if 127 < n then ((n % 128 + 128 : Nat) : Int) :: put f (n / 128) else [(n : Int)]

theorem put_len (f n : Nat) : (put f n).length ≤ f + 1 := by
  induction f generalizing n with
  | zero => simp [put]
  | succ f ih => unfold put; split <;> simp; exact ih _

theorem put_low (f x : Nat) (h : x ≤ 127) : put f x = [(x : Int)] := by
  cases f with
  | zero => rfl
  | succ f => unfold put; rw [if_neg (by omega)]

theorem put_high (f x : Nat) (h : 127 < x) (hp : x < 128 ^ (f + 1)) : ∃ g, f = g + 1 ∧ x / 128 < 128 ^ (g + 1) ∧ put f x = ((x % 128 + 128 : Nat) : Int) :: put g (x / 128) := by
  cases f with
  | zero => simp at hp; omega
  | succ g => exact ⟨g, rfl, by rw [Nat.pow_succ] at hp; exact Nat.div_lt_of_lt_mul (by rw [Nat.mul_comm]; exact hp), by rw [put, if_pos h]⟩

theorem t5info : (Tryd.prog.info? 5).map (fun i => (i.zero, i.size, i.bytes)) = some (some (.int .u8 0), 1, 1) := by kernel_rfl

theorem ownsRow_lit0 (w : World) : (w.alloc (.cells #[] 5)).ownsRow w.heap.size 5 1 (.slice (some ⟨w.heap.size, 0, none⟩) 0 0) 0 [] :=
  World.ownsRow_lit (base := w.heap.size) (e := 5) (size := 1) w #[] 0 (Nat.le_refl _) (by decide) rfl

theorem l1In_any (x lo hi : Int) (w : World) : Calls Tryd.prog 28 #[.int .i64 x, .int .i64 lo, .int .i64 hi] w fun e w' => e = .returned (.bool (decide (lo ≤ x ∧ x ≤ hi))) ∧ w' = w := by
  by_cases h0 : lo ≤ x <;> by_cases h1 : x ≤ hi
  all_goals
    go_enter Tryd.func28, Tryd.ntmps28
    go_wp2
    go_ret
    exact ⟨by simp [h0, h1], rfl⟩

set_option maxHeartbeats 400000 in
theorem spec_no (n : Int) (w : World) (h : ¬ (0 ≤ n ∧ n ≤ 2147483647)) :
    Calls Tryd.prog 12 #[.int .i64 n] w fun e w' => ∃ v, e = .returned v ∧ w'.ownsRow w.heap.size 5 1 v 0 [] ∧ Below w.heap.size w w' := by
  have hd : decide (0 ≤ n ∧ n ≤ 2147483647) = false := by simpa using h
  go_enter Tryd.func12, Tryd.ntmps12
  go_wp2_with (go_at_call 28; refine (l1In_any _ _ _ _).mono ?_; rintro e w' ⟨rfl, rfl⟩; rw [hd])
  go_ret
  exact ⟨_, rfl, ownsRow_lit0 w, (Below.refl _ _).alloc (Nat.le_refl _) _⟩

theorem rel_step {w wr w1 : World} {v v' : Value} {done : List Int} {b : Int} {o : Obj} (hs : w.heap.size ≤ wr.heap.size) (hb : Below w.heap.size w wr) (hown : wr.ownsRow w.heap.size 5 1 v done.length (done.map (Value.int .u8)))
    (hown' : w1.ownsRow w.heap.size 5 1 v' (done.length + 1) (done.map (Value.int .u8) ++ [.int .u8 b])) (hgrow : (wr.alloc o).grownBy w1 v.ownBlock) :
    w1.ownsRow w.heap.size 5 1 v' (done ++ [b]).length ((done ++ [b]).map (Value.int .u8)) ∧ Below w.heap.size w w1 := by
  refine ⟨by simpa using hown', (hb.alloc hs o).grown hgrow (by simp; omega) fun k hk => (hown.lt k hk).1⟩

theorem new_cell (w : World) (u : Value) (e : TypeId) : ∀ (j : Nat) (x : Value), [u][j]? = some x → (w.alloc (.cells #[u] e)).cell? ((⟨w.heap.size, 0, none⟩ : Addr).add j) = some x := by
  intro j x hj
  match j, hj with
  | 0, hj => simp at hj; subst hj; simp [Addr.add]

set_option maxHeartbeats 400000 in
theorem spec_yes (n0 : Nat) (w : World) (h : n0 ≤ 2147483647) :
    Calls Tryd.prog 12 #[.int .i64 n0] w fun e w' => ∃ v, e = .returned v ∧ w'.ownsRow w.heap.size 5 1 v (put 4 n0).length ((put 4 n0).map (Value.int .u8)) ∧ Below w.heap.size w w' := by
  obtain ⟨i0, hi, hz0, hz1, hz2⟩ := info_parts t5info
  have hd : decide ((0 : Int) ≤ (n0 : Int) ∧ (n0 : Int) ≤ 2147483647) = true := by simp; omega
  have HD : Hid (decide ((0 : Int) ≤ (n0 : Int) ∧ (n0 : Int) ≤ 2147483647) = true) := hd
  clear hd
  go_enter Tryd.func12, Tryd.ntmps12
  go_wp2_with (go_at_call 28; refine (l1In_any _ _ _ _).mono ?_; rintro e w' ⟨rfl, rfl⟩; rw [HD.out])
  go_loopw [0, 3] (fun n v wr => ∃ (x f : Nat) (done : List Int), n = .int .i64 x ∧ x ≤ 2147483647 ∧ x < 128 ^ (f + 1) ∧ done.length + f = 4 ∧ done ++ put f x = put 4 n0 ∧
      wr.ownsRow w.heap.size 5 1 v done.length (done.map (Value.int .u8)) ∧ Below w.heap.size w wr) (fun n _ _ => (intOf n).toNat)
  case atStart => exact ⟨n0, 4, [], rfl, h, by simp; omega, rfl, rfl, ownsRow_lit0 w, (Below.refl _ _).alloc (Nat.le_refl _) _⟩
  case round =>
    obtain ⟨x, f, done, rfl, hx, hp, hf, he, hown, hnx⟩ := hrel
    have HE : Hid (done ++ put f x = put 4 n0) := he
    have HP : Hid (x < 128 ^ (f + 1)) := hp
    have HF : Hid (done.length + f = 4) := hf
    have hl : done.length ≤ 4 := by omega
    clear he hp hf
    by_cases hlt : 127 < x
    · go_wp2_with (at_builtin; refine wpList_append_own _ rfl _ _ 22 rfl w.heap.size 5 i0 (.int .u8 0) 1 1 Tryd.underlying22 hi hz0 hz1 hz2 rfl (by decide) _ _ _ rfl (hown.alloc _) ⟨wr.heap.size, 0, none⟩ 1 1 [_] rfl rfl (new_cell _ _ _) ?c2 ?c3 ?c4 ?c5 ?_)
      case c2 => exact ints_oneCell .u8 [_]
      case c3 => unfold maxLen; omega
      case c4 => omega
      case c5 => have := hnx.size; simp; omega
      intro v' w1 hown' hgrow _
      have R := rel_step hnx.size hnx hown hown' hgrow
      clear hown' hgrow hown
      go_wp2
      go_roundw
      case rel =>
        obtain ⟨g, hg, hp', hput⟩ := put_high f x hlt HP.out
        refine ⟨x / 128, g, done ++ [((x % 128 + 128 : Nat) : Int)], by go_num, by omega, hp', ?_, ?_, ?_, R.2⟩
        · have := HF.out; simp; omega
        · have := HE.out; rw [hput] at this; simpa using this
        · simpa using R.1
      case measure => simp [intOf]; omega
    · go_wp2_with (at_builtin; refine wpList_append_own _ rfl _ _ 22 rfl w.heap.size 5 i0 (.int .u8 0) 1 1 Tryd.underlying22 hi hz0 hz1 hz2 rfl (by decide) _ _ _ rfl (hown.alloc _) ⟨wr.heap.size, 0, none⟩ 1 1 [_] rfl rfl (new_cell _ _ _) ?d2 ?d3 ?d4 ?d5 ?_)
      case d2 => exact ints_oneCell .u8 [_]
      case d3 => unfold maxLen; omega
      case d4 => omega
      case d5 => have := hnx.size; simp; omega
      intro v' w1 hown' hgrow _
      have R := rel_step hnx.size hnx hown hown' hgrow
      have hfin : done ++ [(x : Int)] = put 4 n0 := by rw [← HE.out, put_low f x (by omega)]
      have HFin : Hid (done ++ [(x : Int)] = put 4 n0) := hfin
      clear hown' hgrow hown hfin
      go_wp2
      go_ret
      exact ⟨_, rfl, by rw [← HFin.out]; exact R.1, R.2⟩
theorem and_or (x : Nat) (h : x ≤ 2147483647) : bits .or .i64 (bits .and .i64 (x : Int) 127) 128 = (x : Int) % 128 + 128 := by
  have hw : ∀ n : Int, 0 ≤ n → n < 2 ^ 31 → IntKind.i64.wrap n = n := fun n h0 h1 => by rw [IntKind.wrap_i64]; omega
  have h1 : bits .and .i64 (x : Int) 127 = ((x % 128 : Nat) : Int) := by
    have := bits_mask .i64 31 (by decide) hw 7 (by decide) (x : Int) (by omega) (by omega)
    simpa using this
  have hy : x % 128 < 128 := Nat.mod_lt _ (by decide)
  have h2 : (x % 128) ||| 128 = x % 128 + 128 := by
    have := Nat.two_pow_add_eq_or_of_lt (i := 7) (b := x % 128) (by omega) 1
    simp only [show 2 ^ 7 * 1 = 128 from rfl] at this
    rw [Nat.or_comm]; omega
  have h3 := (bits_nat .i64 31 (by decide) hw (x % 128) 128 (by omega) (by decide)).2
  rw [h2] at h3
  rw [h1]
  refine Eq.trans ?_ (Eq.trans h3 ?_)
  · rfl
  · omega

set_option maxHeartbeats 400000 in
theorem impl_no (n : Int) (w : World) (h : ¬ (0 ≤ n ∧ n ≤ 2147483647)) :
    Calls Tryd.prog 27 #[.int .i64 n] w fun e w' => ∃ v, e = .returned v ∧ w'.ownsRow w.heap.size 5 1 v 0 [] ∧ Below w.heap.size w w' := by
  by_cases h0 : 0 ≤ n
  · have h1 : ¬ n ≤ 2147483647 := fun h1 => h ⟨h0, h1⟩
    clear h
    go_enter Tryd.func27, Tryd.ntmps27
    go_wp2
    go_ret
    exact ⟨_, rfl, World.ownsRow_nil _ _ _ _, Below.refl _ _⟩
  · clear h
    go_enter Tryd.func27, Tryd.ntmps27
    go_wp2
    go_ret
    exact ⟨_, rfl, World.ownsRow_nil _ _ _ _, Below.refl _ _⟩

set_option maxHeartbeats 400000 in
theorem impl_yes (n0 : Nat) (w : World) (h : n0 ≤ 2147483647) :
    Calls Tryd.prog 27 #[.int .i64 n0] w fun e w' => ∃ v, e = .returned v ∧ w'.ownsRow w.heap.size 5 1 v (put 4 n0).length ((put 4 n0).map (Value.int .u8)) ∧ Below w.heap.size w w' := by
  obtain ⟨i0, hi, hz0, hz1, hz2⟩ := info_parts t5info
  have hd : decide ((2147483647 : Int) < (n0 : Int)) = false := by simp; omega
  go_enter Tryd.func27, Tryd.ntmps27
  go_wp2
  go_loopw [0, 3] (fun n v wr => ∃ (x f : Nat) (done : List Int), n = .int .i64 x ∧ x ≤ 2147483647 ∧ x < 128 ^ (f + 1) ∧ done.length + f = 4 ∧ done ++ put f x = put 4 n0 ∧
      wr.ownsRow w.heap.size 5 1 v done.length (done.map (Value.int .u8)) ∧ Below w.heap.size w wr) (fun n _ _ => (intOf n).toNat)
  case atStart => exact ⟨n0, 4, [], rfl, h, by simp; omega, rfl, rfl, World.ownsRow_nil _ _ _ _, Below.refl _ _⟩
  case round =>
    obtain ⟨x, f, done, rfl, hx, hp, hf, he, hown, hnx⟩ := hrel
    have HE : Hid (done ++ put f x = put 4 n0) := he
    have HP : Hid (x < 128 ^ (f + 1)) := hp
    have HF : Hid (done.length + f = 4) := hf
    have hl : done.length ≤ 4 := by omega
    have hao := and_or x hx
    clear he hp hf
    by_cases hlt : 127 < x
    · go_wp2_with (at_builtin; refine wpList_append_own _ rfl _ _ 22 rfl w.heap.size 5 i0 (.int .u8 0) 1 1 Tryd.underlying22 hi hz0 hz1 hz2 rfl (by decide) _ _ _ rfl (hown.alloc _) ⟨wr.heap.size, 0, none⟩ 1 1 [_] rfl rfl (new_cell _ _ _) ?c2 ?c3 ?c4 ?c5 ?_)
      case c2 => exact ints_oneCell .u8 [_]
      case c3 => unfold maxLen; omega
      case c4 => omega
      case c5 => have := hnx.size; simp; omega
      intro v' w1 hown' hgrow _
      have R := rel_step hnx.size hnx hown hown' hgrow
      clear hown' hgrow hown
      go_wp2
      go_roundw
      case rel =>
        obtain ⟨g, hg, hp', hput⟩ := put_high f x hlt HP.out
        refine ⟨x / 128, g, done ++ [((x % 128 + 128 : Nat) : Int)], by go_num, by omega, hp', ?_, ?_, ?_, R.2⟩
        · have := HF.out; simp; omega
        · have := HE.out; rw [hput] at this; simpa using this
        · simpa using R.1
      case measure => simp [intOf]; omega
    · go_wp2_with (at_builtin; refine wpList_append_own _ rfl _ _ 22 rfl w.heap.size 5 i0 (.int .u8 0) 1 1 Tryd.underlying22 hi hz0 hz1 hz2 rfl (by decide) _ _ _ rfl (hown.alloc _) ⟨wr.heap.size, 0, none⟩ 1 1 [_] rfl rfl (new_cell _ _ _) ?d2 ?d3 ?d4 ?d5 ?_)
      case d2 => exact ints_oneCell .u8 [_]
      case d3 => unfold maxLen; omega
      case d4 => omega
      case d5 => have := hnx.size; simp; omega
      intro v' w1 hown' hgrow _
      have R := rel_step hnx.size hnx hown hown' hgrow
      have hfin : done ++ [(x : Int)] = put 4 n0 := by rw [← HE.out, put_low f x (by omega)]
      have HFin : Hid (done ++ [(x : Int)] = put 4 n0) := hfin
      clear hown' hgrow hown hfin
      go_wp2
      go_ret
      exact ⟨_, rfl, by rw [← HFin.out]; exact R.1, R.2⟩
def bytesOf (n : Int) : List Int := if 0 ≤ n ∧ n ≤ 2147483647 then put 4 n.toNat else []
theorem bytesOf_len (n : Int) : (bytesOf n).length ≤ 5 := by unfold bytesOf; split; exact put_len 4 _; simp

theorem spec_any (n : Int) (w : World) : Calls Tryd.prog 12 #[.int .i64 n] w fun e w' => ∃ v, e = .returned v ∧ w'.ownsRow w.heap.size 5 1 v (bytesOf n).length ((bytesOf n).map (Value.int .u8)) ∧ Below w.heap.size w w' := by
  unfold bytesOf
  by_cases h : 0 ≤ n ∧ n ≤ 2147483647
  · rw [if_pos h]
    obtain ⟨m, rfl⟩ := Int.eq_ofNat_of_zero_le h.1
    exact spec_yes m w (by omega)
  · rw [if_neg h]; exact spec_no n w h

theorem impl_any (n : Int) (w : World) : Calls Tryd.prog 27 #[.int .i64 n] w fun e w' => ∃ v, e = .returned v ∧ w'.ownsRow w.heap.size 5 1 v (bytesOf n).length ((bytesOf n).map (Value.int .u8)) ∧ Below w.heap.size w w' := by
  unfold bytesOf
  by_cases h : 0 ≤ n ∧ n ≤ 2147483647
  · rw [if_pos h]
    obtain ⟨m, rfl⟩ := Int.eq_ofNat_of_zero_le h.1
    exact impl_yes m w (by omega)
  · rw [if_neg h]; exact impl_no n w h

end Go.Proofs.YtgekbbojhlcppaaDoor
