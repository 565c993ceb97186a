/- Texts of this claim, put together: part 16. -/
import Derived.Test.YtfekcckckmhioaaGreatDoorRows
import Derived.WalkKit
import Derived.ProofKit
import Derived.OpenShut
import Derived.Test.YtfekcckckmhioaaGreatDoorFnRowTextPack15
import Derived.Test.YtfekcckckmhioaaGreatDoorFnRowTextPack9
import Derived.Test.YtfekcckckmhioaaGreatDoorFnRowTextPack1
import Derived.Test.YtfekcckckmhioaaGreatDoorFnRowTextPack13
/- A copy of a text, by the library. -/
namespace Go.Proofs.YtfekcckckmhioaaGreatDoor
open Go.RowKit
set_option maxRecDepth 100000
theorem clone_any (s : ByteArray) (w : World) (hs : s.size ≤ 1048576) : Calls Tryz.prog 73 #[.string s] w fun e w' => e = .returned (.string s) ∧ Below w.heap.size w w' := by
  go_enter Tryz.func73, Tryz.ntmps73
  go_wp2_with fail
  refine (Tryz.stringslite_Clone s w (by omega)).mono ?_
  rintro e w' ⟨rfl, hb⟩
  go_wp2
  go_ret
  exact ⟨rfl, hb⟩

end Go.Proofs.YtfekcckckmhioaaGreatDoor
/- Parts: the program's Split answers the pieces, each in memory of its own. -/
namespace Go.Proofs.YtfekcckckmhioaaGreatDoor
open Go.RowKit
set_option maxRecDepth 100000

theorem t9info : (Tryz.prog.info? 9).map (fun i => (i.zero, i.size, i.bytes)) = some (some (.string ⟨#[]⟩), 1, 16) := by kernel_rfl

theorem ownsRow_litS (w : World) : (w.alloc (.cells #[] 9)).ownsRow w.heap.size 9 1 (.slice (some ⟨w.heap.size, 0, none⟩) 0 0) 0 [] :=
  World.ownsRow_lit (base := w.heap.size) (e := 9) (size := 1) w #[] 0 (Nat.le_refl _) (by decide) rfl

theorem rel_stepS {w wr w1 : World} {v v' : Value} {done : List ByteArray} {b : ByteArray} {o : Obj} (hs : w.heap.size ≤ wr.heap.size) (hb : Below w.heap.size w wr) (hown : wr.ownsRow w.heap.size 9 1 v done.length (done.map Value.string))
    (hown' : w1.ownsRow w.heap.size 9 1 v' (done.length + 1) (done.map Value.string ++ [.string b])) (hgrow : (wr.alloc o).grownBy w1 v.ownBlock) :
    w1.ownsRow w.heap.size 9 1 v' (done ++ [b]).length ((done ++ [b]).map Value.string) ∧ Below w.heap.size w w1 := by
  refine ⟨by simpa using hown', (hb.alloc hs o).grown hgrow (by simp; omega) fun k hk => (hown.lt k hk).1⟩

theorem new_cellS (w : World) (u : Value) (e : TypeId) : ∀ (j : Nat) (x : Value), [u][j]? = some x → (w.alloc (.cells #[u] e)).cell? ((⟨w.heap.size, 0, none⟩ : Addr).add j) = some x := by
  intro j x hj
  match j, hj with
  | 0, hj => simp at hj; subst hj; simp [Addr.add]

theorem pieces_small (b : UInt8) (s : ByteArray) (p : ByteArray) (h : p ∈ pieces b s) : p.size ≤ s.size := by
  unfold pieces at h
  obtain ⟨x, hx, rfl⟩ := List.mem_map.1 h
  have key : ∀ (r cu : List UInt8), x ∈ cuts b cu r → x.length ≤ cu.length + r.length := by
    intro r
    induction r with
    | nil => intro cu h; simp [cuts] at h; subst h; simp
    | cons c r ih =>
      intro cu h
      unfold cuts at h
      split at h
      · rcases List.mem_cons.1 h with rfl | h
        · simp
        · have := ih [] h; simp at this ⊢; omega
      · have := ih _ h; simp at this ⊢; omega
  have h2 := key _ _ hx
  have h3 : (mkB x).size = x.length := by simp [mkB, ByteArray.size]
  rw [h3]
  simpa using h2

set_option maxHeartbeats 1600000 in
theorem implParts_any (s : ByteArray) (b : UInt8) (m : Int) (w : World) (hs : s.size ≤ 1048576) (hg : 1 < w.heap.size) (hm : w.cell? ⟨1, 0, none⟩ = some (.int .i64 m)) :
    Calls Tryz.prog 56 #[.string s, .int .u8 (b.toNat : Int)] w fun e w' => ∃ v, e = .returned v ∧ w'.ownsRow w.heap.size 9 1 v (pieces b s).length ((pieces b s).map Value.string) ∧ Below w.heap.size w w' := by
  have ot := one_text
  have S : ∀ o, Calls Tryz.prog 80 #[.string s, .string ⟨#[b]⟩] (w.alloc o) fun e w' => e = .returned (.slice (some ⟨w.heap.size + 1, 0, none⟩) (pieces b s).length (pieces b s).length) ∧ w'.ownsRow w.heap.size 9 1 (.slice (some ⟨w.heap.size + 1, 0, none⟩) (pieces b s).length (pieces b s).length) (pieces b s).length ((pieces b s).map Value.string) ∧ Below w.heap.size w w' := by
    intro o
    refine (Tryz.strings_Split s ⟨#[b]⟩ m (w.alloc o) (by omega) ((World.cell?_alloc_past _ _ _ hg).trans hm) (by exact Nat.le_refl _)).mono ?_
    rintro e w' ⟨rfl, rfl⟩
    rw [count_pieces, split_all]
    have hb := pieces_len b s
    refine ⟨by simp, ?_, ((Below.refl _ _).alloc (Nat.le_refl _) _).alloc (by simp) _⟩
    have := World.ownsRow_lit (base := w.heap.size) (e := 9) (size := 1) (w.alloc o) ((pieces b s).map Value.string).toArray (pieces b s).length (by simp) (by unfold maxLen; omega) (by simp)
    simpa using this
  have hpl := pieces_len b s
  have hps := pieces_small b s
  generalize pieces b s = ps at S hpl hps ⊢
  have HPS : Hid (∀ p, p ∈ ps → p.size ≤ s.size) := hps
  clear hps hm hg
  go_enter Tryz.func56, Tryz.ntmps56
  go_wp2_with fail
  refine (S _).mono ?_
  clear S ot
  rintro e w1 ⟨rfl, ho, hb⟩
  go_wp2
  go_loopw [15] (fun i wr => ∃ k : Nat, i = .int .i64 k ∧ k ≤ ps.length ∧ wr.ownsRow w.heap.size 9 1 (.slice (some ⟨w.heap.size + 1, 0, none⟩) ps.length ps.length) ps.length (ps.map Value.string) ∧ Below w.heap.size w wr) (fun i _ => ps.length - (intOf i).toNat)
  case atStart => exact ⟨0, rfl, by omega, ho, hb⟩
  case round =>
    obtain ⟨k, rfl, hk, hown, hbr⟩ := hrel
    clear ho hb
    by_cases hlt : k < ps.length
    · have hck : wr.cell? ⟨w.heap.size + 1, k, none⟩ = some (.string ps[k]) := by rw [hown.cellAt k (by omega)]; simp [hlt]
      have hpk : ps[k].size ≤ s.size := HPS.out _ (List.getElem_mem hlt)
      have hset : (ps.map Value.string).set k (.string ps[k]) = ps.map Value.string := by
        apply List.ext_getElem?
        intro j
        rw [List.getElem?_set]
        split
        · next e => subst e; simp [hlt]
        · rfl
      have HSet : Hid ((ps.map Value.string).set k (.string ps[k]) = ps.map Value.string) := hset
      clear hset
      generalize ps[k] = t at hck hpk HSet
      go_wp2_with fail
      refine (clone_any t wr (by omega)).mono ?_
      rintro e w2 ⟨rfl, hb2⟩
      have hown2 := own_below hown hb2
      have hs2 := hbr.size
      have hc2 : w2.cell? ⟨w.heap.size + 1, k, none⟩ = some (.string t) := (hb2.cell (p := ⟨w.heap.size + 1, k, none⟩) (hown.lt _ rfl).2).trans hck
      have hf2 : w2.frozen? ⟨w.heap.size + 1, k, none⟩ = false := hown2.frozenAt k
      have hst := hown2.stored k (.string t)
      rw [HSet.out] at hst
      have hbs : Below w.heap.size w (w2.setCell ⟨w.heap.size + 1, k, none⟩ (.string t)) := (hbr.trans (hb2.mono hs2)).setCell (p := ⟨w.heap.size + 1, k, none⟩) (by simp) _
      have HST : Hid ((w2.setCell ⟨w.heap.size + 1, k, none⟩ (.string t)).ownsRow w.heap.size 9 1 (.slice (some ⟨w.heap.size + 1, 0, none⟩) ps.length ps.length) ps.length (ps.map Value.string) ∧ Below w.heap.size w (w2.setCell ⟨w.heap.size + 1, k, none⟩ (.string t))) := ⟨hst.1, hbs⟩
      clear hst hbs hown hown2 hbr hck hb2
      go_wp2
      go_roundw
      case rel => exact ⟨k + 1, by go_num, by omega, HST.out.1, HST.out.2⟩
      case measure => simp [intOf]; omega
    · go_wp2
      go_ret
      exact ⟨_, rfl, hown, hbr⟩
end Go.Proofs.YtfekcckckmhioaaGreatDoor
/- What the readers want of the package's variables and the library's. -/
namespace Go.Proofs.YtfekcckckmhioaaGreatDoor
open Go.RowKit
set_option maxRecDepth 100000
/-- What the readers want of the package's variables and the library's. -/
def Env (u : TypeId) (ev : Value) (m : Int) (w : World) : Prop :=
  Ready u ev w ∧ 1 < w.heap.size ∧ w.cell? ⟨1, 0, none⟩ = some (.int .i64 m)
theorem Env.later {u : TypeId} {ev : Value} {m : Int} {w w' : World} (h : Env u ev m w) (hb : Below w.heap.size w w') : Env u ev m w' :=
  ⟨h.1.later hb, Nat.lt_of_lt_of_le h.2.1 hb.size, (hb.cell (p := ⟨1, 0, none⟩) h.2.1).trans h.2.2⟩

theorem iParts_any (s : ByteArray) (b : UInt8) (u : TypeId) (ev : Value) (m : Int) (w : World) (hs : s.size ≤ 1048576) (hE : Env u ev m w) :
    Calls Tryz.prog 56 #[.string s, .int .u8 (b.toNat : Int)] w fun e w' => ∃ v, e = .returned v ∧ w'.ownsRow w.heap.size 9 1 v (pieces b s).length ((pieces b s).map Value.string) ∧ Below w.heap.size w w' :=
  implParts_any s b m w hs hE.2.1 hE.2.2
theorem iSigned_any (s : ByteArray) (u : TypeId) (ev : Value) (m : Int) (w : World) (hs : s.size ≤ 1048576) (hE : Env u ev m w) :
    Calls Tryz.prog 101 #[.string s] w fun e w' => e = .returned (gotInt (sigSpec s.data.toList)) ∧ Below w.heap.size w w' := by
  rw [signed_one]
  exact implSigned_any s u ev w hs hE.1

end Go.Proofs.YtfekcckckmhioaaGreatDoor
/- Whether an attribute is nominal, by the program. -/
namespace Go.Proofs.YtfekcckckmhioaaGreatDoor
open Go.RowKit
set_option maxRecDepth 100000

theorem nominal_any (v : Value) (a : AttrD) (w : World) (h : AttrAt w v a) : Calls Tryz.prog 68 #[v] w fun e w' => e = .returned (.bool (decide (0 < a.vals.length))) ∧ Below w.heap.size w w' := by
  obtain ⟨vc, vv, rfl, hc, hv⟩ := h
  obtain ⟨ov, cv, rfl, hvc, hvr⟩ := hv
  clear hvr hc
  go_enter Tryz.func68, Tryz.ntmps68
  go_wp2
  go_ret
  exact ⟨rfl, (Below.refl _ _).alloc (Nat.le_refl _) _⟩
end Go.Proofs.YtfekcckckmhioaaGreatDoor
