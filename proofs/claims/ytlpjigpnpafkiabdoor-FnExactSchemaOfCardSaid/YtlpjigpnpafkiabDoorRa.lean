/- The cuts of an attribute's text, read by the program. -/
import Derived.Test.YtlpjigpnpafkiabDoorAo
import Derived.Test.YtlpjigpnpafkiabDoorNcs
import Derived.Test.YtlpjigpnpafkiabDoorPq
import Derived.Test.YtlpjigpnpafkiabDoorVs
namespace Go.Proofs.YtlpjigpnpafkiabDoor
open Go.RowKit
set_option maxRecDepth 100000

/-- What the readers want of the package's variables and the library's. -/
def Env (u : TypeId) (ev : Value) (m : Int) (w : World) : Prop :=
  Ready u ev w ∧ 0 < w.heap.size ∧ w.cell? ⟨0, 0, none⟩ = some (.int .i64 m)
theorem Env.later {u : TypeId} {ev : Value} {m : Int} {w w' : World} (h : Env u ev m w) (hb : Below w.heap.size w w') : Env u ev m w' :=
  ⟨h.1.later hb, Nat.lt_of_lt_of_le h.2.1 hb.size, (hb.cell (p := ⟨0, 0, none⟩) h.2.1).trans h.2.2⟩

theorem iParts_any (s : ByteArray) (b : UInt8) (u : TypeId) (ev : Value) (m : Int) (w : World) (hs : s.size ≤ 1048576) (hE : Env u ev m w) :
    Calls Tryd.prog 50 #[.string s, .int .u8 (b.toNat : Int)] w fun e w' => ∃ v, e = .returned v ∧ w'.ownsRow w.heap.size 9 1 v (pieces b s).length ((pieces b s).map Value.string) ∧ Below w.heap.size w w' :=
  implParts_any s b m w hs hE.2.1 hE.2.2
theorem iSigned_any (s : ByteArray) (u : TypeId) (ev : Value) (m : Int) (w : World) (hs : s.size ≤ 1048576) (hE : Env u ev m w) :
    Calls Tryd.prog 73 #[.string s] w fun e w' => e = .returned (gotInt (sigSpec s.data.toList)) ∧ Below w.heap.size w w' := by
  rw [signed_one]
  exact implSigned_any s u ev w hs hE.1

theorem nums_app : ∀ (ps qs : List ByteArray) (zs : List Int), numsOf ps = some zs → numsOf (ps ++ qs) = (numsOf qs).map (zs ++ ·)
  | [], qs, zs, h => by
    simp [numsOf] at h; subst h
    rw [List.nil_append]
    cases numsOf qs <;> rfl
  | p :: r, qs, zs, h => by
    unfold numsOf at h
    cases hp : sigSpec p.data.toList with
    | none => rw [hp] at h; cases h
    | some x =>
      rw [hp] at h
      cases hr : numsOf r with
      | none => rw [hr] at h; cases h
      | some l =>
        rw [hr] at h
        simp only [Option.some.injEq] at h
        subst h
        rw [List.cons_append, numsOf, hp, nums_app r qs l hr]
        cases numsOf qs <;> rfl
theorem nums_len : ∀ {ps : List ByteArray} {zs : List Int}, numsOf ps = some zs → zs.length = ps.length := by
  intro ps zs h
  have := congrArg List.length (nums_map h)
  simpa using this
theorem nums_step {ps : List ByteArray} {k : Nat} {zs : List Int} {x : Int} (hk : k < ps.length) (h : numsOf (ps.take k) = some zs) (hx : sigSpec (tx ps k).data.toList = some x) : numsOf (ps.take (k + 1)) = some (zs ++ [x]) := by
  rw [List.take_succ_eq_append_getElem hk, ← tx_eq hk, nums_app _ _ zs h]
  unfold numsOf
  rw [hx]
  rfl
theorem nums_stop {ps : List ByteArray} {k : Nat} {zs : List Int} (hk : k < ps.length) (h : numsOf (ps.take k) = some zs) (hx : sigSpec (tx ps k).data.toList = none) : numsOf ps = none := by
  have e : ps = ps.take k ++ (tx ps k :: ps.drop (k + 1)) := by rw [tx_eq hk, ← List.drop_eq_getElem_cons hk, List.take_append_drop]
  rw [e, nums_app _ _ zs h]
  unfold numsOf
  rw [hx]
  rfl
theorem sig_in {l : List UInt8} {x : Int} (h : sigSpec l = some x) : -9999 ≤ x ∧ x ≤ 9999 := ⟨((sigSpec_iff _ _).1 h).1, ((sigSpec_iff _ _).1 h).2.1⟩

/-- What the reader of cuts hands back. -/
def CutsGot (base : Nat) (w : World) (o : Option (List Int)) (v : Value) : Prop := match o with
  | none => v = .tuple #[.slice none 0 0, .bool false]
  | some zs => ∃ c, v = .tuple #[c, .bool true] ∧ w.ownsRow base 3 1 c zs.length (zs.map (Value.int .i64))

set_option maxHeartbeats 1600000 in
theorem cutsRead_any (s : ByteArray) (u : TypeId) (ev : Value) (m : Int) (w : World) (hs : s.size ≤ 1048576) (hE : Env u ev m w) :
    Calls Tryd.prog 65 #[.string s] w fun e w' => ∃ v, e = .returned v ∧ CutsGot w.heap.size w' (numsOf (pieces 44 s)) v ∧ Below w.heap.size w w' := by
  obtain ⟨i0, hi, hz0, hz1, hz2⟩ := info_parts intInfo
  have cP := iParts_any s 44 u ev m w hs hE
  have hpl := pieces_len 44 s
  have HPS : Hid (∀ p ∈ pieces 44 s, p.size ≤ 1048576) := fun p hp => Nat.le_trans (pieces_small 44 s p hp) hs
  have HE : Hid (Env u ev m w) := hE
  clear hE
  generalize pieces 44 s = ps at cP hpl HPS
  have hps : ps.length ≤ 1048577 := by omega
  clear hpl
  go_enter Tryd.func65, Tryd.ntmps65
  go_wp2_with fail
  refine cP.mono ?_
  rintro e w1 ⟨v1, rfl, ho1, hb1⟩
  clear cP
  have hrow := RowS.of_own ho1 rfl
  obtain ⟨oa, ca, rfl, hca, hr⟩ := hrow
  have HR : Hid (0 < ps.length → ∃ g o, oa = some ⟨g, o, none⟩ ∧ g < w1.heap.size ∧ ∀ j, j < ps.length → w1.cell? ⟨g, o + j, none⟩ = some (.string (tx ps j))) := hr
  have HB1 : Hid (Below w.heap.size w w1) := hb1
  have hsz1 := hb1.size
  clear hr ho1 hb1
  go_wp2
  go_loopw [4, 12] (fun v i wr => ∃ (k : Nat) (zs : List Int), i = .int .i64 k ∧ k ≤ ps.length ∧ numsOf (ps.take k) = some zs ∧ wr.ownsRow w1.heap.size 3 1 v k (zs.map (Value.int .i64)) ∧ Below w1.heap.size w1 wr) (fun _ i _ => ps.length - (intOf i).toNat)
  case atStart => exact ⟨0, [], rfl, by omega, rfl, ⟨by simp, .inl ⟨rfl, rfl⟩⟩, Below.refl _ _⟩
  case round =>
    obtain ⟨k, zs, rfl, hk, hzs, hown, hbr⟩ := hrel
    have HZ : Hid (numsOf (ps.take k) = some zs) := hzs
    have HBW : Hid (Below w1.heap.size w1 wr) := hbr
    have hbw := HB1.out.trans (hbr.mono HB1.out.size)
    clear hzs
    by_cases hlt : k < ps.length
    · obtain ⟨g, o, rfl, hg, hj⟩ := HR.out (by omega)
      have hcell : wr.cell? ⟨g, o + k, none⟩ = some (.string (tx ps k)) := (hbr.cell (p := ⟨g, o + k, none⟩) hg).trans (hj k hlt)
      clear hj
      have cS := iSigned_any (tx ps k) u ev m wr (HPS.out _ (tx_mem hlt)) (HE.out.later hbw)
      cases hx : sigSpec (tx ps k).data.toList with
      | none =>
        have HF : Hid (numsOf ps = none) := nums_stop hlt HZ.out hx
        rw [hx] at cS
        unfold gotInt at cS
        clear hx
        go_wp2_with fail
        refine cS.mono ?_
        rintro e w2 ⟨rfl, hb2⟩
        clear cS hcell
        go_wp2
        go_ret2
        exact ⟨_, rfl, by rw [HF.out]; rfl, hbw.trans (hb2.mono hbw.size)⟩
      | some x =>
        have HN : Hid (numsOf (ps.take (k + 1)) = some (zs ++ [x])) := nums_step hlt HZ.out hx
        obtain ⟨x0, x1⟩ := sig_in hx
        rw [hx] at cS
        unfold gotInt at cS
        clear hx
        go_wp2_with fail
        refine cS.mono ?_
        rintro e w2 ⟨rfl, hb2⟩
        clear cS hcell hbw
        have hbr2 := hbr.trans (hb2.mono hbr.size)
        have hown2 := own_below hown hb2
        have hsz2 := hbr2.size
        have HB2 : Hid (Below w1.heap.size w1 w2) := hbr2
        clear hown hb2 hbr hbr2
        go_wp2_with (at_builtin; refine wpList_append_own _ rfl _ _ 22 rfl w1.heap.size 3 i0 (.int .i64 0) 1 8 Tryd.underlying22 hi hz0 hz1 hz2 rfl (by decide) _ _ _ rfl (hown2.alloc _) ⟨w2.heap.size, 0, none⟩ 1 1 [_] rfl rfl (newc _ _ _) ?d2 ?d3 ?d4 ?d5 ?_)
        case d2 => intro u hu; simp at hu; subst hu; rfl
        case d3 => unfold maxLen; omega
        case d4 => omega
        case d5 => simp; omega
        intro v' w3 hown' hgrow _
        have R : w3.ownsRow w1.heap.size 3 1 v' (k + 1) ((zs ++ [x]).map (Value.int .i64)) := by simpa using hown'
        have BB : Below w1.heap.size w1 w3 := (HB2.out.alloc hsz2 _).grown hgrow (by simp; omega) fun j hj => (hown2.lt j hj).1
        clear hown' hgrow hown2
        go_wp2
        go_roundw
        case rel => exact ⟨k + 1, _, by go_num, by omega, HN.out, R, BB⟩
        case measure => simp [intOf]; omega
    · obtain rfl : k = ps.length := by omega
      have hN := HZ.out
      rw [List.take_length] at hN
      have hln := nums_len hN
      have HF : Hid (numsOf ps = some zs) := hN
      clear hN
      go_wp2
      go_ret2
      refine ⟨_, rfl, ?_, hbw⟩
      rw [HF.out]
      refine ⟨_, rfl, ?_⟩
      rw [hln]
      exact own_base hown (by omega)
end Go.Proofs.YtlpjigpnpafkiabDoor
