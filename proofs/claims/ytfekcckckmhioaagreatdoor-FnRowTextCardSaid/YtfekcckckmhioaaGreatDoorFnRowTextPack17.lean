/- Texts of this claim, put together: part 17. -/
import Derived.Test.YtfekcckckmhioaaGreatDoorFnRowTextPack8
import Derived.Test.YtfekcckckmhioaaGreatDoorFnRowTextPack2
import Derived.Test.YtfekcckckmhioaaGreatDoorFnRowTextPack9
import Derived.Test.YtfekcckckmhioaaGreatDoorFnRowTextPack3
/- The bin of a number, by the program. -/
namespace Go.Proofs.YtfekcckckmhioaaGreatDoor
open Go.RowKit
set_option maxRecDepth 100000
theorem implBin_any (v : Value) (cs : List Int) (x : Int) (w : World) (h : RowI w v cs) (hn : cs.length ≤ 1099511627776) :
    Calls Tryz.prog 102 #[v, .int .i64 x] w fun e w' => e = .returned (.int .i64 (binN cs x : Int)) ∧ w' = w := by
  obtain ⟨oa, cap, rfl, hc, hr⟩ := h
  have HJ : Hid (∀ k, k < cs.length → ∃ g o, oa = some ⟨g, o, none⟩ ∧ w.cell? ⟨g, o + k, none⟩ = some (.int .i64 (cs.getD k 0))) := fun k hk => by
    obtain ⟨g, o, e, hg, hj⟩ := hr (by omega)
    exact ⟨g, o, e, hj k hk⟩
  clear hr
  go_enter Tryz.func102, Tryz.ntmps102
  go_wp2
  go_loop [5, 10] (fun n i => ∃ k : Nat, i = .int .i64 k ∧ n = .int .i64 (binN (cs.take k) x : Int) ∧ k ≤ cs.length) (fun _ i => cs.length - (intOf i).toNat)
  case atStart => exact ⟨0, rfl, rfl, by omega⟩
  case round =>
    obtain ⟨k, rfl, rfl, hk⟩ := hrel
    have HL := binN_le (cs.take k) x
    rw [List.length_take] at HL
    by_cases hlt : k < cs.length
    · obtain ⟨g, o, rfl, hcell⟩ := HJ.out k hlt
      have HS : Hid (binN (cs.take (k + 1)) x = binN (cs.take k) x + (if cs.getD k 0 < x then 1 else 0)) := binN_step cs x k hlt
      generalize cs.getD k 0 = c at hcell HS
      generalize binN (cs.take k) x = b at HL HS
      by_cases hcx : c < x
      · have HE : Hid (binN (cs.take (k + 1)) x = b + 1) := by rw [HS.out, if_pos hcx]; rfl
        clear HS
        go_wp2
        go_round
        case rel => exact ⟨k + 1, by go_num, by rw [HE.out]; go_num, by omega⟩
        case measure => simp [intOf]; omega
      · have HE : Hid (binN (cs.take (k + 1)) x = b) := by rw [HS.out, if_neg hcx]; rfl
        clear HS
        go_wp2
        go_round
        case rel => exact ⟨k + 1, by go_num, by rw [HE.out], by omega⟩
        case measure => simp [intOf]; omega
    · have HE : Hid (binN (cs.take k) x = binN cs x) := by rw [List.take_of_length_le (by omega)]; rfl
      rw [HE.out]
      go_wp2
      go_ret
      exact ⟨rfl, rfl⟩
end Go.Proofs.YtfekcckckmhioaaGreatDoor
/- A row in plain words: how its reading goes on from part to part. -/
namespace Go.Proofs.YtfekcckckmhioaaGreatDoor
open Go.RowKit
set_option maxRecDepth 100000
/-- The number that goes with a part of a row, by the program and by the specification. -/
def cellXi (a : AttrD) (t : ByteArray) : Int :=
  if 0 < a.vals.length then (if t = askB then -1 else placeT a.vals t) else if t = askB then -1 else (binN a.cuts ((sigSpec t.data.toList).getD 0) : Int)
def cellXs (a : AttrD) (t : ByteArray) : Int :=
  if t = askB then -1 else if 0 < a.vals.length then placeT a.vals t else match sigSpec t.data.toList with
    | none => 0
    | some n => (binN a.cuts n : Int)
theorem cellXi_val {a : AttrD} {t : ByteArray} {b : Int} (h : cellB a t = some b) : cellXi a t = b := by
  unfold cellB at h
  unfold cellXi
  by_cases h0 : t = askB
  · rw [if_pos h0] at h
    injection h with h
    rw [if_pos h0, if_pos h0, h]; split <;> rfl
  · rw [if_neg h0] at h
    rw [if_neg h0, if_neg h0]
    by_cases hv : 0 < a.vals.length
    · rw [if_pos hv] at h ⊢
      split at h
      · injection h
      · cases h
    · rw [if_neg hv] at h ⊢
      cases hs : sigSpec t.data.toList with
      | none => rw [hs] at h; cases h
      | some n => rw [hs] at h; injection h
theorem cellXs_val {a : AttrD} {t : ByteArray} {b : Int} (h : cellB a t = some b) : cellXs a t = b := by
  unfold cellB at h
  unfold cellXs
  by_cases h0 : t = askB
  · rw [if_pos h0] at h ⊢
    injection h
  · rw [if_neg h0] at h ⊢
    by_cases hv : 0 < a.vals.length
    · rw [if_pos hv] at h ⊢
      split at h
      · injection h
      · cases h
    · rw [if_neg hv] at h ⊢
      cases hs : sigSpec t.data.toList with
      | none => rw [hs] at h; cases h
      | some n => rw [hs] at h; injection h
theorem binsFrom_step {ls : List AttrD} {ps : List ByteArray} {k : Nat} {l : List Int} {b : Int} (h : binsFrom ls ps k = some l) (hb : cellB (ad ls k) (tx ps k) = some b) : binsFrom ls ps (k + 1) = some (l ++ [b]) := by
  unfold binsFrom; rw [h, hb]
theorem binsFrom_len {ls : List AttrD} {ps : List ByteArray} : ∀ {k : Nat} {l : List Int}, binsFrom ls ps k = some l → l.length = k
  | 0, l, h => by unfold binsFrom at h; cases h; rfl
  | k + 1, l, h => by
    unfold binsFrom at h
    cases h1 : binsFrom ls ps k with
    | none => rw [h1] at h; cases h
    | some l' =>
      cases h2 : cellB (ad ls k) (tx ps k) with
      | none => rw [h1, h2] at h; cases h
      | some b =>
        rw [h1, h2] at h
        injection h with h
        rw [← h, List.length_append, binsFrom_len h1]; rfl
theorem binsFrom_all {ls : List AttrD} {ps : List ByteArray} : ∀ {k : Nat} {l : List Int}, binsFrom ls ps k = some l → ∀ j, j < k → cellB (ad ls j) (tx ps j) = some (l.getD j 0)
  | 0, l, h, j, hj => by omega
  | k + 1, l, h, j, hj => by
    unfold binsFrom at h
    cases h1 : binsFrom ls ps k with
    | none => rw [h1] at h; cases h
    | some l' =>
      cases h2 : cellB (ad ls k) (tx ps k) with
      | none => rw [h1, h2] at h; cases h
      | some b =>
        rw [h1, h2] at h
        injection h with h
        have hl := binsFrom_len h1
        subst h
        by_cases e : j = k
        · subst e; rw [h2]; simp [hl]
        · rw [binsFrom_all h1 j (by omega)]
          simp [List.getD_eq_getElem?_getD, List.getElem?_append_left (show j < l'.length by omega)]
theorem binsFrom_none {ls : List AttrD} {ps : List ByteArray} {k : Nat} (hb : cellB (ad ls k) (tx ps k) = none) : ∀ {n : Nat}, k < n → binsFrom ls ps n = none
  | 0, h => by omega
  | n + 1, h => by
    unfold binsFrom
    by_cases e : k = n
    · subst e; rw [hb]; cases binsFrom ls ps k <;> rfl
    · rw [binsFrom_none hb (by omega)]
theorem binsFrom_yes {ls : List AttrD} {ps : List ByteArray} {l : List Int} : ∀ {k : Nat}, l.length = k → (∀ j, j < k → cellB (ad ls j) (tx ps j) = some (l.getD j 0)) → binsFrom ls ps k = some l := by
  intro k
  induction k generalizing l with
  | zero => intro h _; rw [List.eq_nil_of_length_eq_zero h]; rfl
  | succ k ih =>
    intro h hj
    have h1 : binsFrom ls ps k = some (l.take k) := by
      refine ih (by simp; omega) fun j hlt => ?_
      rw [hj j (by omega)]
      simp [List.getD_eq_getElem?_getD, hlt]
    rw [binsFrom_step h1 (hj k (by omega))]
    congr 1
    apply List.ext_getElem (by simp; omega)
    intro i h1 h2
    by_cases e : i < k
    · rw [List.getElem_append_left (by simp; omega)]; simp
    · obtain rfl : i = k := by omega
      rw [List.getElem_append_right (by simp; omega)]
      simp [h2]
theorem firstBad_on {ls : List AttrD} {ps : List ByteArray} {n : Nat} : ∀ {k : Nat}, k ≤ n → (∀ j, j < k → (cellB (ad ls j) (tx ps j)).isSome = true) → firstBad ls ps 0 n = firstBad ls ps k (n - k)
  | 0, _, _ => rfl
  | k + 1, h, hj => by
    rw [firstBad_on (k := k) (by omega) fun j hlt => hj j (by omega), show n - k = (n - (k + 1)) + 1 by omega]
    conv => lhs; unfold firstBad
    rw [if_pos (hj k (by omega))]
theorem firstBad_at {ls : List AttrD} {ps : List ByteArray} {k n : Nat} (h : k < n) (hj : ∀ j, j < k → (cellB (ad ls j) (tx ps j)).isSome = true) (hb : cellB (ad ls k) (tx ps k) = none) : firstBad ls ps 0 n = k := by
  rw [firstBad_on (k := k) (by omega) hj, show n - k = (n - (k + 1)) + 1 by omega]
  unfold firstBad
  rw [hb]; rfl
theorem rowOf_1 {s : SchemaD} {row : ByteArray} (h : schemaOk s = false) : rowOf s row = (noEx, 1, 0) := by unfold rowOf; rw [if_neg (by rw [h]; simp)]
theorem rowOf_2 {s : SchemaD} {row : ByteArray} (h : schemaOk s = true) (h2 : ¬ row.size ≤ 80) : rowOf s row = (noEx, 2, 0) := by unfold rowOf; rw [if_pos h, if_neg h2]
theorem rowOf_3 {s : SchemaD} {row : ByteArray} (h : schemaOk s = true) (h2 : row.size ≤ 80) (h3 : (pieces 124 row).length ≠ 2) : rowOf s row = (noEx, 3, 0) := by
  unfold rowOf; rw [if_pos h, if_pos h2]; simp only []; rw [if_neg h3]
theorem rowOf_4 {s : SchemaD} {row : ByteArray} (h : schemaOk s = true) (h2 : row.size ≤ 80) (h3 : (pieces 124 row).length = 2) (h4 : (pieces 44 (tx (pieces 124 row) 0)).length ≠ s.attrs.length) : rowOf s row = (noEx, 4, 0) := by
  unfold rowOf; rw [if_pos h, if_pos h2]; simp only []; rw [if_pos h3, if_neg h4]
theorem rowOf_5 {s : SchemaD} {row : ByteArray} (h : schemaOk s = true) (h2 : row.size ≤ 80) (h3 : (pieces 124 row).length = 2) {ps : List ByteArray} (hp : pieces 44 (tx (pieces 124 row) 0) = ps) (h4 : ps.length = s.attrs.length)
    {k : Nat} (hk : k < ps.length) (hj : ∀ j, j < k → (cellB (ad s.attrs j) (tx ps j)).isSome = true) (hb : cellB (ad s.attrs k) (tx ps k) = none) : rowOf s row = (noEx, 5, (k : Int)) := by
  unfold rowOf; rw [if_pos h, if_pos h2]; simp only []; rw [if_pos h3, hp, if_pos h4, binsFrom_none hb hk, firstBad_at hk hj hb]
theorem rowOf_6 {s : SchemaD} {row : ByteArray} (h : schemaOk s = true) (h2 : row.size ≤ 80) (h3 : (pieces 124 row).length = 2) {ps : List ByteArray} (hp : pieces 44 (tx (pieces 124 row) 0) = ps) (h4 : ps.length = s.attrs.length)
    {l : List Int} (hl : binsFrom s.attrs ps ps.length = some l) (h6 : ¬ (0 ≤ placeT s.classes (tx (pieces 124 row) 1) ∨ tx (pieces 124 row) 1 = askB)) : rowOf s row = (noEx, 6, 0) := by
  unfold rowOf; rw [if_pos h, if_pos h2]; simp only []; rw [if_pos h3, hp, if_pos h4, hl]; simp only []; rw [if_neg h6]
theorem rowOf_0 {s : SchemaD} {row : ByteArray} (h : schemaOk s = true) (h2 : row.size ≤ 80) (h3 : (pieces 124 row).length = 2) {ps : List ByteArray} (hp : pieces 44 (tx (pieces 124 row) 0) = ps) (h4 : ps.length = s.attrs.length)
    {l : List Int} (hl : binsFrom s.attrs ps ps.length = some l) (h6 : 0 ≤ placeT s.classes (tx (pieces 124 row) 1) ∨ tx (pieces 124 row) 1 = askB) : rowOf s row = (⟨l, placeT s.classes (tx (pieces 124 row) 1)⟩, 0, 0) := by
  unfold rowOf; rw [if_pos h, if_pos h2]; simp only []; rw [if_pos h3, hp, if_pos h4, hl]; simp only []; rw [if_pos h6]
end Go.Proofs.YtfekcckckmhioaaGreatDoor
/- A text read as an attribute, in plain words: it is read just where it is an attribute's text. -/
namespace Go.Proofs.YtfekcckckmhioaaGreatDoor
open Go.RowKit
set_option maxRecDepth 100000

/-- A text without a byte. -/
def clean (b : UInt8) (s : ByteArray) : Prop := ∀ c ∈ s.data.toList, c ≠ b
theorem join_cuts (b : UInt8) (l : List UInt8) : Lib.join (cuts b [] l) [b] = l := by
  obtain ⟨x, xs, h1, h2⟩ := cuts_join b l []
  rw [h1, Lib.join_cons]
  have e : Lib.joinTail [b] xs = tailJ b xs := by simp [Lib.joinTail, tailJ, List.flatMap]
  rw [e, h2]; rfl
theorem cuts_of_join (b : UInt8) : ∀ (xs : List (List UInt8)), xs ≠ [] → (∀ x ∈ xs, ∀ c ∈ x, c ≠ b) → cuts b [] (Lib.join xs [b]) = xs
  | [], h, _ => absurd rfl h
  | [x], _, h => by rw [Lib.join_one, cuts_no b _ _ (h x List.mem_cons_self)]; rfl
  | x :: y :: r, _, h => by
    have e : Lib.join (x :: y :: r) [b] = x ++ b :: Lib.join (y :: r) [b] := by
      rw [Lib.join_cons, Lib.join_cons]
      simp [Lib.joinTail]
    rw [e, cuts_hit b _ _ _ (h x List.mem_cons_self), cuts_of_join b (y :: r) (by simp) fun z hz => h z (List.mem_cons_of_mem _ hz)]
    rfl
theorem joinT_pieces (b : UInt8) (s : ByteArray) : joinT (pieces b s) ⟨#[b]⟩ = s := by
  apply bytes_ext
  unfold joinT pieces
  rw [List.map_map]
  have e : ((fun x : ByteArray => x.data.toList) ∘ mkB) = id := by funext l; rfl
  rw [e, List.map_id]
  exact join_cuts b _
theorem pieces_joinT (b : UInt8) (ss : List ByteArray) (h : ss ≠ []) (hc : ∀ s ∈ ss, clean b s) : pieces b (joinT ss ⟨#[b]⟩) = ss := by
  unfold pieces joinT
  have e := cuts_of_join b (ss.map (·.data.toList)) (by simpa using h) (fun x hx => by
    obtain ⟨s, hs, rfl⟩ := List.mem_map.1 hx
    exact hc s hs)
  show (cuts b [] (Lib.join (ss.map (·.data.toList)) [b])).map mkB = ss
  rw [e, List.map_map]
  have e2 : (mkB ∘ fun x : ByteArray => x.data.toList) = id := by funext s; exact mkB_of s
  rw [e2, List.map_id]
theorem pieces_one (b : UInt8) (s : ByteArray) (h : clean b s) : pieces b s = [s] := by
  unfold pieces
  rw [cuts_no b _ _ h]
  simp [mkB_of]
theorem pieces_two (b : UInt8) (x y : ByteArray) (hx : clean b x) (hy : clean b y) : pieces b (x ++ ⟨#[b]⟩ ++ y) = [x, y] := by
  unfold pieces
  have e : (x ++ ⟨#[b]⟩ ++ y).data.toList = x.data.toList ++ b :: y.data.toList := by simp [ByteArray.data_append]
  rw [e, cuts_hit b _ _ _ hx, cuts_no b _ _ hy]
  simp [mkB_of]
theorem pieces_first (b : UInt8) (x y : ByteArray) (hx : clean b x) : pieces b (x ++ ⟨#[b]⟩ ++ y) = x :: pieces b y := by
  unfold pieces
  have e : (x ++ ⟨#[b]⟩ ++ y).data.toList = x.data.toList ++ b :: y.data.toList := by simp [ByteArray.data_append]
  rw [e, cuts_hit b _ _ _ hx]
  simp [mkB_of]
theorem pieces_ne (b : UInt8) (s : ByteArray) : pieces b s ≠ [] := by
  obtain ⟨x, xs, h1, _⟩ := cuts_join b s.data.toList []
  unfold pieces
  rw [h1]; simp
theorem pieces_clean (b : UInt8) (s : ByteArray) : ∀ p ∈ pieces b s, clean b p := by
  intro p hp
  unfold pieces at hp
  obtain ⟨x, hx, rfl⟩ := List.mem_map.1 hp
  exact cuts_clean b _ _ (by simp) x hx
theorem pieces_eq_two {b : UInt8} {s x y : ByteArray} (h : pieces b s = [x, y]) : s = x ++ ⟨#[b]⟩ ++ y := by
  have e := joinT_pieces b s
  rw [h] at e
  rw [← e]
  apply bytes_ext
  have e2 : Lib.join [x.data.toList, y.data.toList] [b] = x.data.toList ++ ([b] ++ y.data.toList) := by rw [Lib.join_cons]; simp [Lib.joinTail]
  show Lib.join [x.data.toList, y.data.toList] [b] = _
  rw [e2]
  simp [ByteArray.data_append]
theorem clean_word {s : ByteArray} (h : wordOk s = true) {b : UInt8} (hb : ¬ (97 ≤ b.toNat ∧ b.toNat ≤ 122)) : clean b s := by
  intro c hc e
  subst e
  unfold wordOk at h
  rw [Bool.and_eq_true, List.all_eq_true] at h
  have := h.2 c hc
  unfold lowB at this
  rw [Bool.and_eq_true, decide_eq_true_eq, decide_eq_true_eq] at this
  exact hb this
theorem dig_bytes (u : Nat) : ∀ c ∈ Lib.decDigits u, 48 ≤ c.toNat ∧ c.toNat ≤ 57 := by
  have key : ∀ (l : List UInt8) (acc v : Nat), Lib.decFrom acc l = some v → ∀ c ∈ l, 48 ≤ c.toNat ∧ c.toNat ≤ 57 := by
    intro l
    induction l with
    | nil => intro _ _ _ c hc; cases hc
    | cons d r ih =>
      intro acc v h c hc
      simp only [Lib.decFrom] at h
      cases hd : Lib.digitVal d with
      | none => simp [hd] at h
      | some x =>
        rw [hd] at h
        obtain ⟨h1, h2, _⟩ := digitVal_inv hd
        rcases List.mem_cons.1 hc with rfl | hc
        · exact ⟨h1, h2⟩
        · exact ih _ _ h c hc
  exact key _ _ _ (decFrom_digits u)
theorem clean_it (n : Int) {b : UInt8} (h0 : b.toNat ≠ 45) (h1 : ¬ (48 ≤ b.toNat ∧ b.toNat ≤ 57)) : clean b (itB n) := by
  intro c hc e
  subst e
  have hc' : c ∈ Lib.itoa n := by simpa [itB] using hc
  unfold Lib.itoa at hc'
  split at hc'
  · rcases List.mem_cons.1 hc' with rfl | h
    · exact h0 rfl
    · exact h1 (dig_bytes _ c h)
  · exact h1 (dig_bytes _ c hc')
theorem clean_join {b : UInt8} {ss : List ByteArray} {sep : ByteArray} (h : ∀ s ∈ ss, clean b s) (hs : clean b sep) : clean b (joinT ss sep) := by
  intro c hc
  have hc' : c ∈ Lib.join (ss.map (·.data.toList)) sep.data.toList := by simpa [joinT] using hc
  cases ss with
  | nil => simp [Lib.join_nil] at hc'
  | cons x r =>
    rw [List.map_cons, Lib.join_cons] at hc'
    rcases List.mem_append.1 hc' with h1 | h1
    · exact h x List.mem_cons_self c h1
    · unfold Lib.joinTail at h1
      obtain ⟨l, hl, hcl⟩ := List.mem_flatten.1 h1
      obtain ⟨l2, hl2, rfl⟩ := List.mem_map.1 hl
      obtain ⟨y, hy, rfl⟩ := List.mem_map.1 hl2
      rcases List.mem_append.1 hcl with h2 | h2
      · exact hs c h2
      · exact h y (List.mem_cons_of_mem _ hy) c h2
theorem clean_app {b : UInt8} {x y : ByteArray} (hx : clean b x) (hy : clean b y) : clean b (x ++ y) := by
  intro c hc
  rw [ByteArray.data_append, Array.toList_append] at hc
  rcases List.mem_append.1 hc with h | h
  · exact hx c h
  · exact hy c h
theorem clean_one {b d : UInt8} (h : d ≠ b) : clean b ⟨#[d]⟩ := by
  intro c hc
  simp at hc
  subst hc; exact h

/-- Texts read as numbers, each as Signed reads it. -/
def numsOf : List ByteArray → Option (List Int)
  | [] => some []
  | p :: r => match sigSpec p.data.toList with
    | none => none
    | some x => match numsOf r with
      | none => none
      | some l => some (x :: l)
theorem sig_it {p : ByteArray} {x : Int} (h : sigSpec p.data.toList = some x) : itB x = p := by
  have := ((sigSpec_iff _ _).1 h).2.2
  apply bytes_ext
  simpa [itB] using this
theorem sig_of {x : Int} (h0 : -9999 ≤ x) (h1 : x ≤ 9999) : sigSpec (itB x).data.toList = some x := (sigSpec_iff _ _).2 ⟨h0, h1, by simp [itB]⟩
theorem nums_map : ∀ {ps : List ByteArray} {zs : List Int}, numsOf ps = some zs → zs.map itB = ps
  | [], zs, h => by simp [numsOf] at h; subst h; rfl
  | p :: r, zs, h => by
    unfold numsOf at h
    cases hp : sigSpec p.data.toList with
    | none => rw [hp] at h; cases h
    | some x =>
      rw [hp] at h
      cases hr : numsOf r with
      | none => rw [hr] at h; cases h
      | some l =>
        rw [hr] at h
        simp only [Option.some.injEq] at h
        subst h
        rw [List.map_cons, sig_it hp, nums_map hr]
theorem nums_of : ∀ {zs : List Int}, (∀ z ∈ zs, -9999 ≤ z ∧ z ≤ 9999) → numsOf (zs.map itB) = some zs
  | [], _ => rfl
  | z :: r, h => by
    have hz := h z List.mem_cons_self
    rw [List.map_cons, numsOf, sig_of hz.1 hz.2, nums_of fun y hy => h y (List.mem_cons_of_mem _ hy)]

theorem text_vals {a : AttrD} (h : attrOk a = true) (h0 : a.vals.length ≠ 0) : attrText a = a.name ++ ⟨#[61]⟩ ++ joinT a.vals ⟨#[44]⟩ := by unfold attrText; rw [if_pos h, if_neg h0]
theorem text_cuts {a : AttrD} (h : attrOk a = true) (h0 : a.vals.length = 0) : attrText a = a.name ++ ⟨#[58]⟩ ++ joinT (a.cuts.map itB) ⟨#[44]⟩ := by unfold attrText; rw [if_pos h, if_pos h0]
theorem cuts_bd {a : AttrD} (h : attrOk a = true) (h0 : a.vals.length = 0) : ∀ z ∈ a.cuts, -9999 ≤ z ∧ z ≤ 9999 := by
  intro z hz
  obtain ⟨j, hj, rfl⟩ := List.mem_iff_getElem.1 hz
  have := rise_all (ok_cuts h h0).2.2 hj
  simp [hj] at this
  omega
theorem attr_eta {a : AttrD} (hv : a.vals.length = 0) : a = ⟨a.name, a.cuts, []⟩ := by
  cases a; simp at hv; simp [hv]
theorem attr_eta' {a : AttrD} (hc : a.cuts.length = 0) : a = ⟨a.name, [], a.vals⟩ := by
  cases a; simp at hc; simp [hc]

/-- What the specification makes of the parts, ahead of its last test. -/
def preS (s : ByteArray) : Option AttrD :=
  match pieces 61 s with
  | [x, y] => some ⟨x, [], pieces 44 y⟩
  | _ => match pieces 58 s with
    | [x, y] => match numsOf (pieces 44 y) with
      | none => none
      | some zs => some ⟨x, zs, []⟩
    | _ => some ⟨⟨#[]⟩, [], []⟩
def attrOfS (s : ByteArray) : Option AttrD := match preS s with
  | none => none
  | some a => if attrOk a = true ∧ attrText a = s then some a else none
theorem attrOfS_iff (s : ByteArray) (a : AttrD) : attrOfS s = some a ↔ attrOk a = true ∧ attrText a = s := by
  unfold attrOfS
  constructor
  · intro h
    cases hp : preS s with
    | none => rw [hp] at h; cases h
    | some b =>
      rw [hp] at h
      by_cases hc : attrOk b = true ∧ attrText b = s
      · simp only [if_pos hc, Option.some.injEq] at h
        subst h; exact hc
      · simp only [if_neg hc] at h; cases h
  · rintro ⟨ho, rfl⟩
    have hp : preS (attrText a) = some a := by
      have hw := ok_name ho
      by_cases h0 : a.vals.length = 0
      · have hcl : ∀ {b : UInt8}, b.toNat ≠ 45 → ¬ (48 ≤ b.toNat ∧ b.toNat ≤ 57) → (44 : UInt8) ≠ b → clean b (joinT (a.cuts.map itB) ⟨#[44]⟩) := fun h1 h2 h3 =>
          clean_join (fun s hs => by obtain ⟨z, _, rfl⟩ := List.mem_map.1 hs; exact clean_it z h1 h2) (clean_one h3)
        rw [text_cuts ho h0, preS, pieces_one 61 _ (clean_app (clean_app (clean_word hw (by decide)) (clean_one (by decide))) (hcl (by decide) (by decide) (by decide))), pieces_two 58 _ _ (clean_word hw (by decide)) (hcl (by decide) (by decide) (by decide))]
        have hl := (ok_cuts ho h0).1
        simp only
        rw [pieces_joinT 44 _ (by intro e; rw [List.map_eq_nil_iff] at e; simp [e] at hl) (fun s hs => by obtain ⟨z, _, rfl⟩ := List.mem_map.1 hs; exact clean_it z (by decide) (by decide)), nums_of (cuts_bd ho h0)]
        simp only
        rw [← attr_eta h0]
      · obtain ⟨hc, l2, l4, hwo⟩ := ok_vals ho h0
        have hcw : ∀ {b : UInt8}, ¬ (97 ≤ b.toNat ∧ b.toNat ≤ 122) → ∀ s ∈ a.vals, clean b s := fun hb s hs => clean_word (words_all hwo s hs) hb
        rw [text_vals ho h0, preS, pieces_two 61 _ _ (clean_word hw (by decide)) (clean_join (hcw (by decide)) (clean_one (by decide)))]
        simp only
        rw [pieces_joinT 44 _ (by intro e; simp [e] at h0) (hcw (by decide)), ← attr_eta' hc]
    rw [hp]
    simp [ho]

/-- Where the first sign stands: a byte 61 or 58. -/
def isSign (c : UInt8) : Bool := c == 61 || c == 58
/-- What the program makes of the parts at the first sign. -/
def readI (s : ByteArray) (k : Nat) : AttrD × Bool :=
  if s.data.toList.getD k 0 = 61 then (⟨s.extract 0 k, [], pieces 44 (s.extract (k + 1) s.size)⟩, true)
  else match numsOf (pieces 44 (s.extract (k + 1) s.size)) with
    | none => (⟨s.extract 0 k, [], []⟩, false)
    | some zs => (⟨s.extract 0 k, zs, []⟩, true)
def attrReadI (s : ByteArray) : AttrD × Bool := match s.data.toList.findIdx? isSign with
  | none => (⟨⟨#[]⟩, [], []⟩, false)
  | some k => readI s k
def attrOfI (s : ByteArray) : Option AttrD := if (attrReadI s).2 = true ∧ attrOk (attrReadI s).1 = true then some (attrReadI s).1 else none
theorem ext_all {s : ByteArray} {k : Nat} (hk : k < s.data.toList.length) : s = s.extract 0 k ++ ⟨#[s.data.toList[k]]⟩ ++ s.extract (k + 1) s.size := by
  apply bytes_ext
  have e1 : (s.extract 0 k).data.toList = s.data.toList.take k := by rw [Lib.extract_data]; simp
  have e2 : (s.extract (k + 1) s.size).data.toList = s.data.toList.drop (k + 1) := Lib.extract_to_end s (k + 1)
  rw [ByteArray.data_append, ByteArray.data_append, Array.toList_append, Array.toList_append, e1, e2, List.append_assoc, List.singleton_append, ← List.drop_eq_getElem_cons hk, List.take_append_drop]
theorem ext_app (x y : ByteArray) (c : UInt8) : (x ++ ⟨#[c]⟩ ++ y).extract 0 x.size = x ∧ (x ++ ⟨#[c]⟩ ++ y).extract (x.size + 1) (x ++ ⟨#[c]⟩ ++ y).size = y := by
  have hl : x.data.toList.length = x.size := by simp
  constructor
  · apply bytes_ext
    rw [Lib.extract_data, ByteArray.data_append, ByteArray.data_append, Array.toList_append, Array.toList_append, List.append_assoc, ← hl]
    simp
  · apply bytes_ext
    rw [Lib.extract_to_end, ByteArray.data_append, ByteArray.data_append, Array.toList_append, Array.toList_append]
    exact List.drop_left' (by simp)
theorem attrOfI_iff (s : ByteArray) (a : AttrD) : attrOfI s = some a ↔ attrOk a = true ∧ attrText a = s := by
  unfold attrOfI
  constructor
  · intro h
    by_cases hc : (attrReadI s).2 = true ∧ attrOk (attrReadI s).1 = true
    · rw [if_pos hc] at h
      injection h with h
      obtain ⟨h1, h2⟩ := hc
      rw [h] at h2
      refine ⟨h2, ?_⟩
      unfold attrReadI at h h1
      cases hf : s.data.toList.findIdx? isSign with
      | none => rw [hf] at h1; cases h1
      | some k =>
        rw [hf] at h h1
        simp only at h h1
        obtain ⟨hk, hs, _⟩ := List.findIdx?_eq_some_iff_getElem.1 hf
        have hall := ext_all hk
        have hg : s.data.toList.getD k 0 = s.data.toList[k] := by rw [List.getD_eq_getElem?_getD, List.getElem?_eq_getElem hk]; rfl
        unfold readI at h h1
        rw [hg] at h h1
        by_cases h61 : s.data.toList[k] = 61
        · simp only [if_pos h61] at h h1
          subst h
          rw [text_vals h2 (by intro e; exact pieces_ne 44 _ (List.eq_nil_of_length_eq_zero e))]
          simp only
          rw [joinT_pieces]
          rw [h61] at hall
          exact hall.symm
        · have h58 : s.data.toList[k] = 58 := by
            unfold isSign at hs
            rw [Bool.or_eq_true, beq_iff_eq, beq_iff_eq] at hs
            exact hs.resolve_left h61
          simp only [if_neg h61] at h h1
          cases hn : numsOf (pieces 44 (s.extract (k + 1) s.size)) with
          | none => rw [hn] at h1; cases h1
          | some zs =>
            rw [hn] at h
            simp only at h
            subst h
            rw [text_cuts h2 rfl]
            simp only
            rw [nums_map hn, joinT_pieces]
            rw [h58] at hall
            exact hall.symm
    · rw [if_neg hc] at h; cases h
  · rintro ⟨ho, rfl⟩
    have hw := ok_name ho
    have key : ∀ (c : UInt8) (y : ByteArray), isSign c = true → (a.name ++ ⟨#[c]⟩ ++ y).data.toList.findIdx? isSign = some a.name.size := by
      intro c y hc
      rw [List.findIdx?_eq_some_iff_getElem]
      have e : (a.name ++ ⟨#[c]⟩ ++ y).data.toList = a.name.data.toList ++ c :: y.data.toList := by simp [ByteArray.data_append]
      have hl : a.name.data.toList.length = a.name.size := by simp
      refine ⟨by rw [e]; simp, ?_, ?_⟩
      · simp only [e]; rw [List.getElem_append_right (by omega)]; simp [hc]
      · intro j hj
        simp only [e]
        rw [List.getElem_append_left (by omega)]
        have h1 := clean_word hw (b := 61) (by decide) (a.name.data.toList[j]'(by omega)) (List.getElem_mem _)
        have h2 := clean_word hw (b := 58) (by decide) (a.name.data.toList[j]'(by omega)) (List.getElem_mem _)
        unfold isSign
        rw [beq_eq_false_iff_ne.2 h1, beq_eq_false_iff_ne.2 h2]
        simp
    have hget : ∀ (c : UInt8) (y : ByteArray), (a.name ++ ⟨#[c]⟩ ++ y).data.toList.getD a.name.size 0 = c := by
      intro c y
      have e : (a.name ++ ⟨#[c]⟩ ++ y).data.toList = a.name.data.toList ++ c :: y.data.toList := by simp [ByteArray.data_append]
      have hl : a.name.data.toList.length = a.name.size := by simp
      rw [e, List.getD_eq_getElem?_getD, List.getElem?_append_right (by omega), hl]
      simp
    have hp : attrReadI (attrText a) = (a, true) := by
      by_cases h0 : a.vals.length = 0
      · have hl := (ok_cuts ho h0).1
        obtain ⟨e1, e2⟩ := ext_app a.name (joinT (a.cuts.map itB) ⟨#[44]⟩) 58
        rw [text_cuts ho h0, attrReadI, key 58 _ (by decide)]
        simp only
        rw [readI, hget, if_neg (by decide), e1, e2, pieces_joinT 44 _ (by intro e; rw [List.map_eq_nil_iff] at e; simp [e] at hl) (fun s hs => by obtain ⟨z, _, rfl⟩ := List.mem_map.1 hs; exact clean_it z (by decide) (by decide)), nums_of (cuts_bd ho h0)]
        simp only
        rw [← attr_eta h0]
      · obtain ⟨hc, l2, l4, hwo⟩ := ok_vals ho h0
        obtain ⟨e1, e2⟩ := ext_app a.name (joinT a.vals ⟨#[44]⟩) 61
        rw [text_vals ho h0, attrReadI, key 61 _ (by decide)]
        simp only
        rw [readI, hget, if_pos rfl, e1, e2, pieces_joinT 44 _ (by intro e; simp [e] at h0) (fun s hs => clean_word (words_all hwo s hs) (by decide)), ← attr_eta' hc]
    rw [hp]
    simp [ho]
theorem attrOf_one (s : ByteArray) : attrOfI s = attrOfS s := by
  apply Option.ext
  intro a
  rw [attrOfI_iff, attrOfS_iff]
end Go.Proofs.YtfekcckckmhioaaGreatDoor
/- The text of a schema, in plain words. -/
namespace Go.Proofs.YtfekcckckmhioaaGreatDoor
open Go.RowKit
set_option maxRecDepth 100000

theorem attrText_size (a : AttrD) : (attrText a).size ≤ 45 := by
  unfold attrText
  split
  · rename_i h
    have hn := (word_size (ok_name h)).2
    have h1 : (⟨#[44]⟩ : ByteArray).size = 1 := rfl
    have h2 : (⟨#[58]⟩ : ByteArray).size = 1 := rfl
    have h3 : (⟨#[61]⟩ : ByteArray).size = 1 := rfl
    split
    · rename_i h0
      obtain ⟨l1, l3, hri⟩ := ok_cuts h h0
      have hj := joinT_size (a.cuts.map itB) ⟨#[44]⟩ 5 fun s hs => by
        obtain ⟨c, hc, rfl⟩ := List.mem_map.1 hs
        obtain ⟨j, hj, rfl⟩ := List.mem_iff_getElem.1 hc
        have := rise_all hri hj
        simp [hj] at this
        exact itB_size (by omega) (by omega)
      rw [h1, List.length_map] at hj
      rw [ByteArray.size_append, ByteArray.size_append, h2]
      omega
    · rename_i h0
      obtain ⟨-, l2, l4, hwo⟩ := ok_vals h h0
      have hj := joinT_size a.vals ⟨#[44]⟩ 8 fun s hs => (word_size (words_all hwo s hs)).2
      rw [h1] at hj
      rw [ByteArray.size_append, ByteArray.size_append, h3]
      omega
  · exact Nat.zero_le _
def schemaText (s : SchemaD) : ByteArray :=
  if schemaOk s = true then joinT (s.attrs.map attrText) ⟨#[59]⟩ ++ ⟨#[124]⟩ ++ joinT s.classes ⟨#[44]⟩ else ⟨#[]⟩
theorem sch_parts {s : SchemaD} (h : schemaOk s = true) : (1 ≤ s.attrs.length ∧ s.attrs.length ≤ 5) ∧ (2 ≤ s.classes.length ∧ s.classes.length ≤ 3) ∧ wordsOk s.classes = true ∧ attrsOk s.attrs = true := by
  unfold schemaOk choices at h
  rw [Bool.and_eq_true, Bool.and_eq_true, Bool.and_eq_true, decide_eq_true_eq, decide_eq_true_eq] at h
  exact ⟨h.1, ⟨by omega, by omega⟩, h.2.1.2, h.2.2⟩
theorem sch_bounds {s : SchemaD} (h : schemaOk s = true) : (joinT (s.attrs.map attrText) ⟨#[59]⟩).size ≤ 230 ∧ (joinT s.classes ⟨#[44]⟩).size ≤ 27 := by
  obtain ⟨h1, h2, h3, h4⟩ := sch_parts h
  have g1 : (⟨#[59]⟩ : ByteArray).size = 1 := rfl
  have g2 : (⟨#[44]⟩ : ByteArray).size = 1 := rfl
  have j1 := joinT_size (s.attrs.map attrText) ⟨#[59]⟩ 45 fun t ht => by
    obtain ⟨a, _, rfl⟩ := List.mem_map.1 ht
    exact attrText_size a
  have j2 := joinT_size s.classes ⟨#[44]⟩ 8 fun t ht => (word_size (words_all h3 t ht)).2
  rw [g1, List.length_map] at j1
  rw [g2] at j2
  omega
theorem at_take {ls : List AttrD} {k : Nat} (h : k < ls.length) : (ls.take (k + 1)).map attrText = (ls.take k).map attrText ++ [attrText (ad ls k)] := by
  rw [List.take_succ_eq_append_getElem h, List.map_append, ad_eq h]; rfl
end Go.Proofs.YtfekcckckmhioaaGreatDoor
