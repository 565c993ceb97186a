/- Texts of this claim, put together: part 12. -/
import Derived.Test.YtndnplpmkkdieaaGreatDoorFnSchemaReadPack8
import Derived.Test.YtndnplpmkkdieaaGreatDoorFnSchemaReadPack11
import Derived.Test.YtndnplpmkkdieaaGreatDoorRows
import Derived.WalkKit
import Derived.ProofKit
import Derived.OpenShut
/- A text read as an attribute, in plain words: it is read just where it is an attribute's text. -/
namespace Go.Proofs.YtndnplpmkkdieaaGreatDoor
open Go.RowKit
set_option maxRecDepth 100000

/-- A text without a byte. -/
def clean (b : UInt8) (s : ByteArray) : Prop := ∀ c ∈ s.data.toList, c ≠ b
theorem join_cuts (b : UInt8) (l : List UInt8) : Lib.join (cuts b [] l) [b] = l := by
  obtain ⟨x, xs, h1, h2⟩ := cuts_join b l []
  rw [h1, Lib.join_cons]
  have e : Lib.joinTail [b] xs = tailJ b xs := by simp [Lib.joinTail, tailJ, List.flatMap]
  rw [e, h2]; rfl
theorem cuts_of_join (b : UInt8) : ∀ (xs : List (List UInt8)), xs ≠ [] → (∀ x ∈ xs, ∀ c ∈ x, c ≠ b) → cuts b [] (Lib.join xs [b]) = xs
  | [], h, _ => absurd rfl h
  | [x], _, h => by rw [Lib.join_one, cuts_no b _ _ (h x List.mem_cons_self)]; rfl
  | x :: y :: r, _, h => by
    have e : Lib.join (x :: y :: r) [b] = x ++ b :: Lib.join (y :: r) [b] := by
      rw [Lib.join_cons, Lib.join_cons]
      simp [Lib.joinTail]
    rw [e, cuts_hit b _ _ _ (h x List.mem_cons_self), cuts_of_join b (y :: r) (by simp) fun z hz => h z (List.mem_cons_of_mem _ hz)]
    rfl
theorem joinT_pieces (b : UInt8) (s : ByteArray) : joinT (pieces b s) ⟨#[b]⟩ = s := by
  apply bytes_ext
  unfold joinT pieces
  rw [List.map_map]
  have e : ((fun x : ByteArray => x.data.toList) ∘ mkB) = id := by funext l; rfl
  rw [e, List.map_id]
  exact join_cuts b _
theorem pieces_joinT (b : UInt8) (ss : List ByteArray) (h : ss ≠ []) (hc : ∀ s ∈ ss, clean b s) : pieces b (joinT ss ⟨#[b]⟩) = ss := by
  unfold pieces joinT
  have e := cuts_of_join b (ss.map (·.data.toList)) (by simpa using h) (fun x hx => by
    obtain ⟨s, hs, rfl⟩ := List.mem_map.1 hx
    exact hc s hs)
  show (cuts b [] (Lib.join (ss.map (·.data.toList)) [b])).map mkB = ss
  rw [e, List.map_map]
  have e2 : (mkB ∘ fun x : ByteArray => x.data.toList) = id := by funext s; exact mkB_of s
  rw [e2, List.map_id]
theorem pieces_one (b : UInt8) (s : ByteArray) (h : clean b s) : pieces b s = [s] := by
  unfold pieces
  rw [cuts_no b _ _ h]
  simp [mkB_of]
theorem pieces_two (b : UInt8) (x y : ByteArray) (hx : clean b x) (hy : clean b y) : pieces b (x ++ ⟨#[b]⟩ ++ y) = [x, y] := by
  unfold pieces
  have e : (x ++ ⟨#[b]⟩ ++ y).data.toList = x.data.toList ++ b :: y.data.toList := by simp [ByteArray.data_append]
  rw [e, cuts_hit b _ _ _ hx, cuts_no b _ _ hy]
  simp [mkB_of]
theorem pieces_first (b : UInt8) (x y : ByteArray) (hx : clean b x) : pieces b (x ++ ⟨#[b]⟩ ++ y) = x :: pieces b y := by
  unfold pieces
  have e : (x ++ ⟨#[b]⟩ ++ y).data.toList = x.data.toList ++ b :: y.data.toList := by simp [ByteArray.data_append]
  rw [e, cuts_hit b _ _ _ hx]
  simp [mkB_of]
theorem pieces_ne (b : UInt8) (s : ByteArray) : pieces b s ≠ [] := by
  obtain ⟨x, xs, h1, _⟩ := cuts_join b s.data.toList []
  unfold pieces
  rw [h1]; simp
theorem pieces_clean (b : UInt8) (s : ByteArray) : ∀ p ∈ pieces b s, clean b p := by
  intro p hp
  unfold pieces at hp
  obtain ⟨x, hx, rfl⟩ := List.mem_map.1 hp
  exact cuts_clean b _ _ (by simp) x hx
theorem pieces_eq_two {b : UInt8} {s x y : ByteArray} (h : pieces b s = [x, y]) : s = x ++ ⟨#[b]⟩ ++ y := by
  have e := joinT_pieces b s
  rw [h] at e
  rw [← e]
  apply bytes_ext
  have e2 : Lib.join [x.data.toList, y.data.toList] [b] = x.data.toList ++ ([b] ++ y.data.toList) := by rw [Lib.join_cons]; simp [Lib.joinTail]
  show Lib.join [x.data.toList, y.data.toList] [b] = _
  rw [e2]
  simp [ByteArray.data_append]
theorem clean_word {s : ByteArray} (h : wordOk s = true) {b : UInt8} (hb : ¬ (97 ≤ b.toNat ∧ b.toNat ≤ 122)) : clean b s := by
  intro c hc e
  subst e
  unfold wordOk at h
  rw [Bool.and_eq_true, List.all_eq_true] at h
  have := h.2 c hc
  unfold lowB at this
  rw [Bool.and_eq_true, decide_eq_true_eq, decide_eq_true_eq] at this
  exact hb this
theorem dig_bytes (u : Nat) : ∀ c ∈ Lib.decDigits u, 48 ≤ c.toNat ∧ c.toNat ≤ 57 := by
  have key : ∀ (l : List UInt8) (acc v : Nat), Lib.decFrom acc l = some v → ∀ c ∈ l, 48 ≤ c.toNat ∧ c.toNat ≤ 57 := by
    intro l
    induction l with
    | nil => intro _ _ _ c hc; cases hc
    | cons d r ih =>
      intro acc v h c hc
      simp only [Lib.decFrom] at h
      cases hd : Lib.digitVal d with
      | none => simp [hd] at h
      | some x =>
        rw [hd] at h
        obtain ⟨h1, h2, _⟩ := digitVal_inv hd
        rcases List.mem_cons.1 hc with rfl | hc
        · exact ⟨h1, h2⟩
        · exact ih _ _ h c hc
  exact key _ _ _ (decFrom_digits u)
theorem clean_it (n : Int) {b : UInt8} (h0 : b.toNat ≠ 45) (h1 : ¬ (48 ≤ b.toNat ∧ b.toNat ≤ 57)) : clean b (itB n) := by
  intro c hc e
  subst e
  have hc' : c ∈ Lib.itoa n := by simpa [itB] using hc
  unfold Lib.itoa at hc'
  split at hc'
  · rcases List.mem_cons.1 hc' with rfl | h
    · exact h0 rfl
    · exact h1 (dig_bytes _ c h)
  · exact h1 (dig_bytes _ c hc')
theorem clean_join {b : UInt8} {ss : List ByteArray} {sep : ByteArray} (h : ∀ s ∈ ss, clean b s) (hs : clean b sep) : clean b (joinT ss sep) := by
  intro c hc
  have hc' : c ∈ Lib.join (ss.map (·.data.toList)) sep.data.toList := by simpa [joinT] using hc
  cases ss with
  | nil => simp [Lib.join_nil] at hc'
  | cons x r =>
    rw [List.map_cons, Lib.join_cons] at hc'
    rcases List.mem_append.1 hc' with h1 | h1
    · exact h x List.mem_cons_self c h1
    · unfold Lib.joinTail at h1
      obtain ⟨l, hl, hcl⟩ := List.mem_flatten.1 h1
      obtain ⟨l2, hl2, rfl⟩ := List.mem_map.1 hl
      obtain ⟨y, hy, rfl⟩ := List.mem_map.1 hl2
      rcases List.mem_append.1 hcl with h2 | h2
      · exact hs c h2
      · exact h y (List.mem_cons_of_mem _ hy) c h2
theorem clean_app {b : UInt8} {x y : ByteArray} (hx : clean b x) (hy : clean b y) : clean b (x ++ y) := by
  intro c hc
  rw [ByteArray.data_append, Array.toList_append] at hc
  rcases List.mem_append.1 hc with h | h
  · exact hx c h
  · exact hy c h
theorem clean_one {b d : UInt8} (h : d ≠ b) : clean b ⟨#[d]⟩ := by
  intro c hc
  simp at hc
  subst hc; exact h

/-- Texts read as numbers, each as Signed reads it. -/
def numsOf : List ByteArray → Option (List Int)
  | [] => some []
  | p :: r => match sigSpec p.data.toList with
    | none => none
    | some x => match numsOf r with
      | none => none
      | some l => some (x :: l)
theorem sig_it {p : ByteArray} {x : Int} (h : sigSpec p.data.toList = some x) : itB x = p := by
  have := ((sigSpec_iff _ _).1 h).2.2
  apply bytes_ext
  simpa [itB] using this
theorem sig_of {x : Int} (h0 : -9999 ≤ x) (h1 : x ≤ 9999) : sigSpec (itB x).data.toList = some x := (sigSpec_iff _ _).2 ⟨h0, h1, by simp [itB]⟩
theorem nums_map : ∀ {ps : List ByteArray} {zs : List Int}, numsOf ps = some zs → zs.map itB = ps
  | [], zs, h => by simp [numsOf] at h; subst h; rfl
  | p :: r, zs, h => by
    unfold numsOf at h
    cases hp : sigSpec p.data.toList with
    | none => rw [hp] at h; cases h
    | some x =>
      rw [hp] at h
      cases hr : numsOf r with
      | none => rw [hr] at h; cases h
      | some l =>
        rw [hr] at h
        simp only [Option.some.injEq] at h
        subst h
        rw [List.map_cons, sig_it hp, nums_map hr]
theorem nums_of : ∀ {zs : List Int}, (∀ z ∈ zs, -9999 ≤ z ∧ z ≤ 9999) → numsOf (zs.map itB) = some zs
  | [], _ => rfl
  | z :: r, h => by
    have hz := h z List.mem_cons_self
    rw [List.map_cons, numsOf, sig_of hz.1 hz.2, nums_of fun y hy => h y (List.mem_cons_of_mem _ hy)]

theorem text_vals {a : AttrD} (h : attrOk a = true) (h0 : a.vals.length ≠ 0) : attrText a = a.name ++ ⟨#[61]⟩ ++ joinT a.vals ⟨#[44]⟩ := by unfold attrText; rw [if_pos h, if_neg h0]
theorem text_cuts {a : AttrD} (h : attrOk a = true) (h0 : a.vals.length = 0) : attrText a = a.name ++ ⟨#[58]⟩ ++ joinT (a.cuts.map itB) ⟨#[44]⟩ := by unfold attrText; rw [if_pos h, if_pos h0]
theorem cuts_bd {a : AttrD} (h : attrOk a = true) (h0 : a.vals.length = 0) : ∀ z ∈ a.cuts, -9999 ≤ z ∧ z ≤ 9999 := by
  intro z hz
  obtain ⟨j, hj, rfl⟩ := List.mem_iff_getElem.1 hz
  have := rise_all (ok_cuts h h0).2.2 hj
  simp [hj] at this
  omega
theorem attr_eta {a : AttrD} (hv : a.vals.length = 0) : a = ⟨a.name, a.cuts, []⟩ := by
  cases a; simp at hv; simp [hv]
theorem attr_eta' {a : AttrD} (hc : a.cuts.length = 0) : a = ⟨a.name, [], a.vals⟩ := by
  cases a; simp at hc; simp [hc]

/-- What the specification makes of the parts, ahead of its last test. -/
def preS (s : ByteArray) : Option AttrD :=
  match pieces 61 s with
  | [x, y] => some ⟨x, [], pieces 44 y⟩
  | _ => match pieces 58 s with
    | [x, y] => match numsOf (pieces 44 y) with
      | none => none
      | some zs => some ⟨x, zs, []⟩
    | _ => some ⟨⟨#[]⟩, [], []⟩
def attrOfS (s : ByteArray) : Option AttrD := match preS s with
  | none => none
  | some a => if attrOk a = true ∧ attrText a = s then some a else none
theorem attrOfS_iff (s : ByteArray) (a : AttrD) : attrOfS s = some a ↔ attrOk a = true ∧ attrText a = s := by
  unfold attrOfS
  constructor
  · intro h
    cases hp : preS s with
    | none => rw [hp] at h; cases h
    | some b =>
      rw [hp] at h
      by_cases hc : attrOk b = true ∧ attrText b = s
      · simp only [if_pos hc, Option.some.injEq] at h
        subst h; exact hc
      · simp only [if_neg hc] at h; cases h
  · rintro ⟨ho, rfl⟩
    have hp : preS (attrText a) = some a := by
      have hw := ok_name ho
      by_cases h0 : a.vals.length = 0
      · have hcl : ∀ {b : UInt8}, b.toNat ≠ 45 → ¬ (48 ≤ b.toNat ∧ b.toNat ≤ 57) → (44 : UInt8) ≠ b → clean b (joinT (a.cuts.map itB) ⟨#[44]⟩) := fun h1 h2 h3 =>
          clean_join (fun s hs => by obtain ⟨z, _, rfl⟩ := List.mem_map.1 hs; exact clean_it z h1 h2) (clean_one h3)
        rw [text_cuts ho h0, preS, pieces_one 61 _ (clean_app (clean_app (clean_word hw (by decide)) (clean_one (by decide))) (hcl (by decide) (by decide) (by decide))), pieces_two 58 _ _ (clean_word hw (by decide)) (hcl (by decide) (by decide) (by decide))]
        have hl := (ok_cuts ho h0).1
        simp only
        rw [pieces_joinT 44 _ (by intro e; rw [List.map_eq_nil_iff] at e; simp [e] at hl) (fun s hs => by obtain ⟨z, _, rfl⟩ := List.mem_map.1 hs; exact clean_it z (by decide) (by decide)), nums_of (cuts_bd ho h0)]
        simp only
        rw [← attr_eta h0]
      · obtain ⟨hc, l2, l4, hwo⟩ := ok_vals ho h0
        have hcw : ∀ {b : UInt8}, ¬ (97 ≤ b.toNat ∧ b.toNat ≤ 122) → ∀ s ∈ a.vals, clean b s := fun hb s hs => clean_word (words_all hwo s hs) hb
        rw [text_vals ho h0, preS, pieces_two 61 _ _ (clean_word hw (by decide)) (clean_join (hcw (by decide)) (clean_one (by decide)))]
        simp only
        rw [pieces_joinT 44 _ (by intro e; simp [e] at h0) (hcw (by decide)), ← attr_eta' hc]
    rw [hp]
    simp [ho]

/-- Where the first sign stands: a byte 61 or 58. -/
def isSign (c : UInt8) : Bool := c == 61 || c == 58
/-- What the program makes of the parts at the first sign. -/
def readI (s : ByteArray) (k : Nat) : AttrD × Bool :=
  if s.data.toList.getD k 0 = 61 then (⟨s.extract 0 k, [], pieces 44 (s.extract (k + 1) s.size)⟩, true)
  else match numsOf (pieces 44 (s.extract (k + 1) s.size)) with
    | none => (⟨s.extract 0 k, [], []⟩, false)
    | some zs => (⟨s.extract 0 k, zs, []⟩, true)
def attrReadI (s : ByteArray) : AttrD × Bool := match s.data.toList.findIdx? isSign with
  | none => (⟨⟨#[]⟩, [], []⟩, false)
  | some k => readI s k
def attrOfI (s : ByteArray) : Option AttrD := if (attrReadI s).2 = true ∧ attrOk (attrReadI s).1 = true then some (attrReadI s).1 else none
theorem ext_all {s : ByteArray} {k : Nat} (hk : k < s.data.toList.length) : s = s.extract 0 k ++ ⟨#[s.data.toList[k]]⟩ ++ s.extract (k + 1) s.size := by
  apply bytes_ext
  have e1 : (s.extract 0 k).data.toList = s.data.toList.take k := by rw [Lib.extract_data]; simp
  have e2 : (s.extract (k + 1) s.size).data.toList = s.data.toList.drop (k + 1) := Lib.extract_to_end s (k + 1)
  rw [ByteArray.data_append, ByteArray.data_append, Array.toList_append, Array.toList_append, e1, e2, List.append_assoc, List.singleton_append, ← List.drop_eq_getElem_cons hk, List.take_append_drop]
theorem ext_app (x y : ByteArray) (c : UInt8) : (x ++ ⟨#[c]⟩ ++ y).extract 0 x.size = x ∧ (x ++ ⟨#[c]⟩ ++ y).extract (x.size + 1) (x ++ ⟨#[c]⟩ ++ y).size = y := by
  have hl : x.data.toList.length = x.size := by simp
  constructor
  · apply bytes_ext
    rw [Lib.extract_data, ByteArray.data_append, ByteArray.data_append, Array.toList_append, Array.toList_append, List.append_assoc, ← hl]
    simp
  · apply bytes_ext
    rw [Lib.extract_to_end, ByteArray.data_append, ByteArray.data_append, Array.toList_append, Array.toList_append]
    exact List.drop_left' (by simp)
theorem attrOfI_iff (s : ByteArray) (a : AttrD) : attrOfI s = some a ↔ attrOk a = true ∧ attrText a = s := by
  unfold attrOfI
  constructor
  · intro h
    by_cases hc : (attrReadI s).2 = true ∧ attrOk (attrReadI s).1 = true
    · rw [if_pos hc] at h
      injection h with h
      obtain ⟨h1, h2⟩ := hc
      rw [h] at h2
      refine ⟨h2, ?_⟩
      unfold attrReadI at h h1
      cases hf : s.data.toList.findIdx? isSign with
      | none => rw [hf] at h1; cases h1
      | some k =>
        rw [hf] at h h1
        simp only at h h1
        obtain ⟨hk, hs, _⟩ := List.findIdx?_eq_some_iff_getElem.1 hf
        have hall := ext_all hk
        have hg : s.data.toList.getD k 0 = s.data.toList[k] := by rw [List.getD_eq_getElem?_getD, List.getElem?_eq_getElem hk]; rfl
        unfold readI at h h1
        rw [hg] at h h1
        by_cases h61 : s.data.toList[k] = 61
        · simp only [if_pos h61] at h h1
          subst h
          rw [text_vals h2 (by intro e; exact pieces_ne 44 _ (List.eq_nil_of_length_eq_zero e))]
          simp only
          rw [joinT_pieces]
          rw [h61] at hall
          exact hall.symm
        · have h58 : s.data.toList[k] = 58 := by
            unfold isSign at hs
            rw [Bool.or_eq_true, beq_iff_eq, beq_iff_eq] at hs
            exact hs.resolve_left h61
          simp only [if_neg h61] at h h1
          cases hn : numsOf (pieces 44 (s.extract (k + 1) s.size)) with
          | none => rw [hn] at h1; cases h1
          | some zs =>
            rw [hn] at h
            simp only at h
            subst h
            rw [text_cuts h2 rfl]
            simp only
            rw [nums_map hn, joinT_pieces]
            rw [h58] at hall
            exact hall.symm
    · rw [if_neg hc] at h; cases h
  · rintro ⟨ho, rfl⟩
    have hw := ok_name ho
    have key : ∀ (c : UInt8) (y : ByteArray), isSign c = true → (a.name ++ ⟨#[c]⟩ ++ y).data.toList.findIdx? isSign = some a.name.size := by
      intro c y hc
      rw [List.findIdx?_eq_some_iff_getElem]
      have e : (a.name ++ ⟨#[c]⟩ ++ y).data.toList = a.name.data.toList ++ c :: y.data.toList := by simp [ByteArray.data_append]
      have hl : a.name.data.toList.length = a.name.size := by simp
      refine ⟨by rw [e]; simp, ?_, ?_⟩
      · simp only [e]; rw [List.getElem_append_right (by omega)]; simp [hc]
      · intro j hj
        simp only [e]
        rw [List.getElem_append_left (by omega)]
        have h1 := clean_word hw (b := 61) (by decide) (a.name.data.toList[j]'(by omega)) (List.getElem_mem _)
        have h2 := clean_word hw (b := 58) (by decide) (a.name.data.toList[j]'(by omega)) (List.getElem_mem _)
        unfold isSign
        rw [beq_eq_false_iff_ne.2 h1, beq_eq_false_iff_ne.2 h2]
        simp
    have hget : ∀ (c : UInt8) (y : ByteArray), (a.name ++ ⟨#[c]⟩ ++ y).data.toList.getD a.name.size 0 = c := by
      intro c y
      have e : (a.name ++ ⟨#[c]⟩ ++ y).data.toList = a.name.data.toList ++ c :: y.data.toList := by simp [ByteArray.data_append]
      have hl : a.name.data.toList.length = a.name.size := by simp
      rw [e, List.getD_eq_getElem?_getD, List.getElem?_append_right (by omega), hl]
      simp
    have hp : attrReadI (attrText a) = (a, true) := by
      by_cases h0 : a.vals.length = 0
      · have hl := (ok_cuts ho h0).1
        obtain ⟨e1, e2⟩ := ext_app a.name (joinT (a.cuts.map itB) ⟨#[44]⟩) 58
        rw [text_cuts ho h0, attrReadI, key 58 _ (by decide)]
        simp only
        rw [readI, hget, if_neg (by decide), e1, e2, pieces_joinT 44 _ (by intro e; rw [List.map_eq_nil_iff] at e; simp [e] at hl) (fun s hs => by obtain ⟨z, _, rfl⟩ := List.mem_map.1 hs; exact clean_it z (by decide) (by decide)), nums_of (cuts_bd ho h0)]
        simp only
        rw [← attr_eta h0]
      · obtain ⟨hc, l2, l4, hwo⟩ := ok_vals ho h0
        obtain ⟨e1, e2⟩ := ext_app a.name (joinT a.vals ⟨#[44]⟩) 61
        rw [text_vals ho h0, attrReadI, key 61 _ (by decide)]
        simp only
        rw [readI, hget, if_pos rfl, e1, e2, pieces_joinT 44 _ (by intro e; simp [e] at h0) (fun s hs => clean_word (words_all hwo s hs) (by decide)), ← attr_eta' hc]
    rw [hp]
    simp [ho]
theorem attrOf_one (s : ByteArray) : attrOfI s = attrOfS s := by
  apply Option.ext
  intro a
  rw [attrOfI_iff, attrOfS_iff]
end Go.Proofs.YtndnplpmkkdieaaGreatDoor
/- A text read as a schema, in plain words. -/
namespace Go.Proofs.YtndnplpmkkdieaaGreatDoor
open Go.RowKit
set_option maxRecDepth 100000

def emptyS : SchemaD := ⟨[], []⟩
def attrsOf : List ByteArray → Option (List AttrD)
  | [] => some []
  | p :: r => match attrOfS p with
    | none => none
    | some a => match attrsOf r with
      | none => none
      | some l => some (a :: l)
def preSch (s : ByteArray) : Option SchemaD := match pieces 124 s with
  | [x, y] => match attrsOf (pieces 59 x) with
    | none => none
    | some ls => some ⟨ls, pieces 44 y⟩
  | _ => none
def schemaOf (s : ByteArray) : Option SchemaD := match preSch s with
  | none => none
  | some t => if schemaOk t = true then some t else none
theorem attrs_app : ∀ (ps qs : List ByteArray) (zs : List AttrD), attrsOf ps = some zs → attrsOf (ps ++ qs) = (attrsOf qs).map (zs ++ ·)
  | [], qs, zs, h => by
    simp [attrsOf] at h; subst h
    rw [List.nil_append]
    cases attrsOf qs <;> rfl
  | p :: r, qs, zs, h => by
    unfold attrsOf at h
    cases hp : attrOfS p with
    | none => rw [hp] at h; cases h
    | some x =>
      rw [hp] at h
      cases hr : attrsOf r with
      | none => rw [hr] at h; cases h
      | some l =>
        rw [hr] at h
        simp only [Option.some.injEq] at h
        subst h
        rw [List.cons_append, attrsOf, hp, attrs_app r qs l hr]
        cases attrsOf qs <;> rfl
theorem attrs_len : ∀ {ps : List ByteArray} {zs : List AttrD}, attrsOf ps = some zs → zs.length = ps.length
  | [], zs, h => by simp [attrsOf] at h; subst h; rfl
  | p :: r, zs, h => by
    unfold attrsOf at h
    cases hp : attrOfS p with
    | none => rw [hp] at h; cases h
    | some x =>
      rw [hp] at h
      cases hr : attrsOf r with
      | none => rw [hr] at h; cases h
      | some l =>
        rw [hr] at h
        simp only [Option.some.injEq] at h
        subst h
        rw [List.length_cons, List.length_cons, attrs_len hr]
theorem attrs_text : ∀ {ps : List ByteArray} {zs : List AttrD}, attrsOf ps = some zs → zs.map attrText = ps ∧ ∀ a ∈ zs, attrOk a = true
  | [], zs, h => by simp [attrsOf] at h; subst h; exact ⟨rfl, fun _ h => by cases h⟩
  | p :: r, zs, h => by
    unfold attrsOf at h
    cases hp : attrOfS p with
    | none => rw [hp] at h; cases h
    | some x =>
      rw [hp] at h
      cases hr : attrsOf r with
      | none => rw [hr] at h; cases h
      | some l =>
        rw [hr] at h
        simp only [Option.some.injEq] at h
        subst h
        obtain ⟨h1, h2⟩ := attrs_text hr
        obtain ⟨h3, h4⟩ := (attrOfS_iff p x).1 hp
        refine ⟨by rw [List.map_cons, h4, h1], fun a ha => ?_⟩
        rcases List.mem_cons.1 ha with rfl | ha
        · exact h3
        · exact h2 a ha
theorem attrs_of : ∀ {zs : List AttrD}, (∀ a ∈ zs, attrOk a = true) → attrsOf (zs.map attrText) = some zs
  | [], _ => rfl
  | z :: r, h => by
    have hz := h z List.mem_cons_self
    rw [List.map_cons, attrsOf, (attrOfS_iff _ z).2 ⟨hz, rfl⟩, attrs_of fun y hy => h y (List.mem_cons_of_mem _ hy)]
theorem attrs_step {ps : List ByteArray} {k : Nat} {zs : List AttrD} {x : AttrD} (hk : k < ps.length) (h : attrsOf (ps.take k) = some zs) (hx : attrOfS (tx ps k) = some x) : attrsOf (ps.take (k + 1)) = some (zs ++ [x]) := by
  rw [List.take_succ_eq_append_getElem hk, ← tx_eq hk, attrs_app _ _ zs h]
  unfold attrsOf
  rw [hx]
  rfl
theorem attrs_stop {ps : List ByteArray} {k : Nat} {zs : List AttrD} (hk : k < ps.length) (h : attrsOf (ps.take k) = some zs) (hx : attrOfS (tx ps k) = none) : attrsOf ps = none := by
  have e : ps = ps.take k ++ (tx ps k :: ps.drop (k + 1)) := by rw [tx_eq hk, ← List.drop_eq_getElem_cons hk, List.take_append_drop]
  rw [e, attrs_app _ _ zs h]
  unfold attrsOf
  rw [hx]
  rfl
theorem attrsOk_each {ls : List AttrD} (h : attrsOk ls = true) : ∀ a ∈ ls, attrOk a = true := by
  intro a ha
  obtain ⟨j, hj, rfl⟩ := List.mem_iff_getElem.1 ha
  unfold attrsOk at h
  rw [List.all_eq_true] at h
  have := h j (List.mem_range.2 hj)
  unfold attrAt at this
  rw [Bool.and_eq_true, ad_eq hj] at this
  exact this.1

/-- A text without the signs that part attributes. -/
theorem clean_attr {a : AttrD} (h : attrOk a = true) {b : UInt8} (h0 : b = 59 ∨ b = 124) : clean b (attrText a) := by
  have hw := ok_name h
  have e1 : ¬ (97 ≤ b.toNat ∧ b.toNat ≤ 122) := by rcases h0 with rfl | rfl <;> decide
  have e2 : b.toNat ≠ 45 := by rcases h0 with rfl | rfl <;> decide
  have e3 : ¬ (48 ≤ b.toNat ∧ b.toNat ≤ 57) := by rcases h0 with rfl | rfl <;> decide
  have e4 : (58 : UInt8) ≠ b := by rcases h0 with rfl | rfl <;> decide
  have e5 : (61 : UInt8) ≠ b := by rcases h0 with rfl | rfl <;> decide
  have e6 : (44 : UInt8) ≠ b := by rcases h0 with rfl | rfl <;> decide
  by_cases hv : a.vals.length = 0
  · rw [text_cuts h hv]
    exact clean_app (clean_app (clean_word hw e1) (clean_one e4)) (clean_join (fun s hs => by obtain ⟨z, _, rfl⟩ := List.mem_map.1 hs; exact clean_it z e2 e3) (clean_one e6))
  · rw [text_vals h hv]
    exact clean_app (clean_app (clean_word hw e1) (clean_one e5)) (clean_join (fun s hs => clean_word (words_all (ok_vals h hv).2.2.2 s hs) e1) (clean_one e6))
theorem schemaOf_iff (s : ByteArray) (t : SchemaD) : schemaOf s = some t ↔ schemaOk t = true ∧ schemaText t = s := by
  unfold schemaOf
  constructor
  · intro h
    cases hp : preSch s with
    | none => rw [hp] at h; cases h
    | some u =>
      rw [hp] at h
      by_cases hc : schemaOk u = true
      · simp only [if_pos hc, Option.some.injEq] at h
        subst h
        refine ⟨hc, ?_⟩
        unfold preSch at hp
        split at hp
        · rename_i x y hxy
          cases ha : attrsOf (pieces 59 x) with
          | none => rw [ha] at hp; cases hp
          | some ls =>
            rw [ha] at hp
            simp only [Option.some.injEq] at hp
            subst hp
            unfold schemaText
            rw [if_pos hc]
            simp only
            rw [(attrs_text ha).1, joinT_pieces, joinT_pieces, pieces_eq_two hxy]
        · cases hp
      · simp only [if_neg hc] at h; cases h
  · rintro ⟨ho, rfl⟩
    obtain ⟨⟨h1, h5⟩, ⟨h2, h3⟩, hwo, hat⟩ := sch_parts ho
    have hea := attrsOk_each hat
    have hp : preSch (schemaText t) = some t := by
      have e : schemaText t = joinT (t.attrs.map attrText) ⟨#[59]⟩ ++ ⟨#[124]⟩ ++ joinT t.classes ⟨#[44]⟩ := by unfold schemaText; rw [if_pos ho]
      rw [e, preSch, pieces_two 124 _ _ (clean_join (fun s hs => by obtain ⟨a, ha, rfl⟩ := List.mem_map.1 hs; exact clean_attr (hea a ha) (.inr rfl)) (clean_one (by decide))) (clean_join (fun s hs => clean_word (words_all hwo s hs) (by decide)) (clean_one (by decide)))]
      simp only
      rw [pieces_joinT 59 _ (by intro e; rw [List.map_eq_nil_iff] at e; simp [e] at h1) (fun s hs => by obtain ⟨a, ha, rfl⟩ := List.mem_map.1 hs; exact clean_attr (hea a ha) (.inl rfl)), attrs_of hea]
      simp only
      rw [pieces_joinT 44 _ (by intro e; simp [e] at h2) (fun s hs => clean_word (words_all hwo s hs) (by decide))]
    rw [hp]
    simp [ho]
theorem sof_no0 {s : ByteArray} (h : preSch s = none) : schemaOf s = none := by unfold schemaOf; rw [h]
theorem sof_no1 {s : ByteArray} {t : SchemaD} (h : preSch s = some t) (h2 : schemaOk t = false) : schemaOf s = none := by unfold schemaOf; rw [h]; simp [h2]
theorem sof_yes {s : ByteArray} {t : SchemaD} (h : preSch s = some t) (h2 : schemaOk t = true) : schemaOf s = some t := by unfold schemaOf; rw [h]; simp [h2]
theorem psch_len {s : ByteArray} (h : (pieces 124 s).length ≠ 2) : preSch s = none := by
  unfold preSch
  split
  · rename_i e; rw [e] at h; exact absurd rfl h
  · rfl
theorem psch_no {s x y : ByteArray} (h : pieces 124 s = [x, y]) (ha : attrsOf (pieces 59 x) = none) : preSch s = none := by unfold preSch; rw [h]; simp only; rw [ha]
theorem psch_yes {s x y : ByteArray} {ls : List AttrD} (h : pieces 124 s = [x, y]) (ha : attrsOf (pieces 59 x) = some ls) : preSch s = some ⟨ls, pieces 44 y⟩ := by unfold preSch; rw [h]; simp only; rw [ha]
end Go.Proofs.YtndnplpmkkdieaaGreatDoor
/- What the laws on schemas draw. -/
namespace Go.Proofs.YtndnplpmkkdieaaGreatDoor
open Go.RowKit
set_option maxRecDepth 100000
theorem tinyS.ok {d : SchemaD} (h : tinyS d) : okSch d :=
  ⟨by have := h.attrs; omega, fun a ha => by have t := h.each a ha; exact ⟨by have := t.name; omega, by have := t.cuts; omega, by have := t.vals; omega, fun s hs => by have := t.each s hs; omega⟩, by have := h.classes; omega, fun s hs => by have := h.sizes s hs; omega⟩
theorem schemaText_size (d : SchemaD) : (schemaText d).size ≤ 300 := by
  unfold schemaText
  by_cases h : schemaOk d = true
  · rw [if_pos h]
    have b := sch_bounds h
    rw [ByteArray.size_append, ByteArray.size_append]
    have : (⟨#[124]⟩ : ByteArray).size = 1 := rfl
    omega
  · rw [if_neg h]; decide
theorem schemaOf_none : schemaOf ⟨#[]⟩ = none := by
  cases h : schemaOf ⟨#[]⟩ with
  | none => rfl
  | some t =>
    obtain ⟨h1, h2⟩ := (schemaOf_iff _ _).1 h
    unfold schemaText at h2
    rw [if_pos h1] at h2
    have h3 := congrArg ByteArray.size h2
    rw [ByteArray.size_append, ByteArray.size_append] at h3
    have e1 : (⟨#[124]⟩ : ByteArray).size = 1 := rfl
    have e2 : (⟨#[]⟩ : ByteArray).size = 0 := rfl
    omega
/-- A schema is read from its text as it was; of one that is not right there is no text. -/
theorem text_read (d : SchemaD) : schemaOf (schemaText d) = if schemaOk d = true then some d else none := by
  by_cases h : schemaOk d = true
  · rw [if_pos h]
    exact (schemaOf_iff _ _).2 ⟨h, rfl⟩
  · rw [if_neg h]
    have : schemaText d = ⟨#[]⟩ := by unfold schemaText; rw [if_neg h]
    rw [this]
    exact schemaOf_none
set_option maxHeartbeats 1600000 in
theorem drawSchText_any (a : Option Addr) (len cap : Nat) (zs : List Int) (w : World) (hr : IsRow .u8 w a len cap zs) (hn : len ≤ 1048576) :
    Calls Tryz.prog 6 #[.slice a len cap] w fun e w' => ∃ v d, e = .returned v ∧ OwnS w.heap.size w' v d ∧ tinyS d ∧ Below w.heap.size w w' := by
  have B1 : Below w.heap.size w (w.alloc (.cells #[.slice none 0 0, .slice none 0 0] 27)) := (Below.refl _ _).alloc (Nat.le_refl _) _
  have R1 := Blk.new 27 w #[.slice none 0 0, .slice none 0 0]
  have hs1 : w.heap.size < (w.alloc (.cells #[.slice none 0 0, .slice none 0 0] 27)).heap.size := by simp
  have e1 := l1New_any a len cap zs (w.alloc (.cells #[.slice none 0 0, .slice none 0 0] 27)) (hr.later B1) hn
  have HR1 := hr.later B1
  rw [show (w.alloc (.cells #[.slice none 0 0, .slice none 0 0] 27)).heap.size = w.heap.size + 1 by simp] at e1
  clear hr
  go_enter Tryz.func6, Tryz.ntmps6
  go_wp2_with fail
  refine e1.mono ?_
  clear e1
  rintro e w2 ⟨rfl, c2, hb2, -⟩
  have hr2 := HR1.later (hb2.mono (by simp))
  have R2 := R1.below (hb2.mono (by simp))
  have B2 : Below w.heap.size w w2 := B1.trans (hb2.mono (by omega))
  have hg2 := c2.lt
  clear HR1 R1 B1 hb2 hs1
  go_wp2_with fail
  refine (draw5_any (w.heap.size + 1) a len cap zs w2 c2 hr2).mono ?_
  rintro e w3 ⟨v, d, rfl, ⟨va, vc, rfl, hL, hO⟩, htn, c3, h3⟩
  have hs2 := B2.size
  have R3 := R2.kept h3 (by intro e; injection e; omega)
  have B3 : Below w.heap.size w w3 := B2.grown h3 B2.size (fun k hk => by injection hk; omega)
  clear h3 c3 c2 R2 B2 hr2
  obtain ⟨ys, hrow, hdone⟩ := hL
  obtain ⟨ova, cva, rfl⟩ := own_slice hrow
  obtain ⟨ovc, cvc, rfl⟩ := own_slice hO
  go_wp2_with (with_reducible refine wp_sc_store rfl _ _ rfl ?_; refine ⟨w.heap.size, rfl, _, _, _, _, _, _, rfl, _, _, R3, ?_⟩)
  exact bodyPost_ret (res_sc rfl _ _ _ _ _ rfl (R3.setRow _)) rfl ⟨_, d, rfl, ⟨_, _, rfl, OwnL.base (OwnL.setRow ⟨ys, hrow, hdone⟩ _ _ (by omega)) (by omega), own_base (own_setRow hO _ _ (by omega)) (by omega)⟩, htn, below_row B3 (Nat.le_refl _) _⟩
set_option maxHeartbeats 1600000 in
theorem drawSchOf_any (a : Option Addr) (len cap : Nat) (zs : List Int) (w : World) (hr : IsRow .u8 w a len cap zs) (hn : len ≤ 1048576) :
    Calls Tryz.prog 12 #[.slice a len cap] w fun e w' => ∃ s : ByteArray, e = .returned (.string s) ∧ s.size ≤ 1000 ∧ Below w.heap.size w w' := by
  go_enter Tryz.func12, Tryz.ntmps12
  go_wp2_with fail
  refine (l1New_any a len cap zs w hr hn).mono ?_
  rintro e w1 ⟨rfl, c1, hb1, -⟩
  have hr1 := hr.later hb1
  clear hr
  go_wp2_with fail
  refine (draw5_any w.heap.size a len cap zs w1 c1 hr1).mono ?_
  rintro e w2 ⟨v, d, rfl, hO, htn, c2, h2⟩
  have hr2 := hr1.aside c1 h2
  have B2 := hb1.trans (grown_below h2 (Nat.le_refl _) hb1.size)
  clear hr1 c1 h2 hb1
  have e1 := specSchemaText_any v d w2 hO.at htn.ok
  have hT := schemaText_size d
  obtain ⟨va, vc, rfl, hL, hC⟩ := hO
  generalize schemaText d = T at e1 hT
  go_wp2_with fail
  refine e1.mono ?_
  clear e1 hL hC htn
  rintro e w3 ⟨rfl, hb3⟩
  have hs3 := hb3.size
  have c3 : IsCur w3 w.heap.size a len cap := c2.kept (grown_of_below hb3 none) (by intro e; cases e)
  have hr3 := hr2.later hb3
  have B3 := B2.trans (hb3.mono B2.size)
  clear c2 hr2 B2 hb3
  have e1 := l1Below_any w.heap.size a len cap zs 7 w3 c3 hr3 (by decide) (by decide)
  go_wp2_with fail
  refine e1.mono ?_
  clear e1
  rintro e w4 ⟨t, rfl, ht, c4, h4⟩
  have hr4 := hr3.aside c3 h4
  have B4 := B3.trans (grown_below h4 (Nat.le_refl _) B3.size)
  clear hr3 c3 h4 B3
  by_cases t0 : t = 0
  · subst t0
    have e1 := pickS [⟨#[44]⟩, ⟨#[124]⟩, ⟨#[59]⟩, ⟨#[120]⟩, ⟨#[44, 121, 101, 115]⟩] w.heap.size a len cap zs w4 c4 hr4 (by simp) (by simp)
    simp only [List.map_cons, List.map_nil, List.length_cons, List.length_nil, Nat.zero_add, Nat.reduceAdd] at e1
    go_wp2_with fail
    refine e1.mono ?_
    clear e1
    rintro e w5 ⟨y, rfl, hy, c5, h5⟩
    have hy16 : y.size ≤ 16 := (by decide +kernel : ∀ y ∈ ([⟨#[44]⟩, ⟨#[124]⟩, ⟨#[59]⟩, ⟨#[120]⟩, ⟨#[44, 121, 101, 115]⟩] : List ByteArray), y.size ≤ 16) y hy
    have B5 := B4.trans (grown_below h5 (Nat.le_refl _) B4.size)
    clear hy c5 h5 B4 hr4 c4
    go_wp2
    go_ret
    exact ⟨_, rfl, by rw [ByteArray.size_append]; omega, B5⟩
  have b0 : ((t : Int) == 0) = false := by rw [beq_eq_false_iff_ne]; omega
  by_cases t1 : t = 1
  · subst t1
    have e1 := pickS [⟨#[]⟩, ⟨#[124]⟩, ⟨#[97, 58, 49, 124, 120]⟩, ⟨#[97, 58, 49, 59, 97, 58, 50, 124, 120, 44, 121]⟩, ⟨#[59, 124, 120, 44, 121]⟩, ⟨#[97, 58, 49, 124, 120, 44, 121]⟩] w.heap.size a len cap zs w4 c4 hr4 (by simp) (by simp)
    simp only [List.map_cons, List.map_nil, List.length_cons, List.length_nil, Nat.zero_add, Nat.reduceAdd] at e1
    go_wp2_with fail
    refine e1.mono ?_
    clear e1
    rintro e w5 ⟨y, rfl, hy, c5, h5⟩
    have hy16 : y.size ≤ 16 := (by decide +kernel : ∀ y ∈ ([⟨#[]⟩, ⟨#[124]⟩, ⟨#[97, 58, 49, 124, 120]⟩, ⟨#[97, 58, 49, 59, 97, 58, 50, 124, 120, 44, 121]⟩, ⟨#[59, 124, 120, 44, 121]⟩, ⟨#[97, 58, 49, 124, 120, 44, 121]⟩] : List ByteArray), y.size ≤ 16) y hy
    have B5 := B4.trans (grown_below h5 (Nat.le_refl _) B4.size)
    clear hy c5 h5 B4 hr4 c4
    go_wp2
    go_ret
    exact ⟨_, rfl, by omega, B5⟩
  have b1 : ((t : Int) == 1) = false := by rw [beq_eq_false_iff_ne]; omega
  clear t0 t1
  go_wp2
  go_ret
  exact ⟨_, rfl, by omega, B4⟩
end Go.Proofs.YtndnplpmkkdieaaGreatDoor
/- Whether a code is too great. -/
namespace Go.Proofs.YtndnplpmkkdieaaGreatDoor
open Go.RowKit
set_option maxRecDepth 100000

theorem big_any (a : Option Addr) (len cap : Nat) (w : World) (hn : len ≤ 9223372036854775807) : Calls Tryz.prog 5 #[.slice a len cap] w fun e w' => e = .returned (.bool (decide (1048576 < len))) ∧ w' = w := by
  by_cases h : 1048576 < len
  all_goals
    go_enter Tryz.func5, Tryz.ntmps5
    go_wp2
    go_ret
    exact ⟨by simp; omega, rfl⟩
end Go.Proofs.YtndnplpmkkdieaaGreatDoor
