/- The text of a schema, in plain words. -/
import Derived.Test.YtlpjigpnpafkiabDoorVkp
import Derived.Test.YtlpjigpnpafkiabDoorVc
namespace Go.Proofs.YtlpjigpnpafkiabDoor
open Go.RowKit
set_option maxRecDepth 100000

theorem attrText_size (a : AttrD) : (attrText a).size ≤ 45 := by
  unfold attrText
  split
  · rename_i h
    have hn := (word_size (ok_name h)).2
    have h1 : (⟨#[44]⟩ : ByteArray).size = 1 := rfl
    have h2 : (⟨#[58]⟩ : ByteArray).size = 1 := rfl
    have h3 : (⟨#[61]⟩ : ByteArray).size = 1 := rfl
    split
    · rename_i h0
      obtain ⟨l1, l3, hri⟩ := ok_cuts h h0
      have hj := joinT_size (a.cuts.map itB) ⟨#[44]⟩ 5 fun s hs => by
        obtain ⟨c, hc, rfl⟩ := List.mem_map.1 hs
        obtain ⟨j, hj, rfl⟩ := List.mem_iff_getElem.1 hc
        have := rise_all hri hj
        simp [hj] at this
        exact itB_size (by omega) (by omega)
      rw [h1, List.length_map] at hj
      rw [ByteArray.size_append, ByteArray.size_append, h2]
      omega
    · rename_i h0
      obtain ⟨-, l2, l4, hwo⟩ := ok_vals h h0
      have hj := joinT_size a.vals ⟨#[44]⟩ 8 fun s hs => (word_size (words_all hwo s hs)).2
      rw [h1] at hj
      rw [ByteArray.size_append, ByteArray.size_append, h3]
      omega
  · exact Nat.zero_le _
def schemaText (s : SchemaD) : ByteArray :=
  if schemaOk s = true then joinT (s.attrs.map attrText) ⟨#[59]⟩ ++ ⟨#[124]⟩ ++ joinT s.classes ⟨#[44]⟩ else ⟨#[]⟩
theorem sch_parts {s : SchemaD} (h : schemaOk s = true) : (1 ≤ s.attrs.length ∧ s.attrs.length ≤ 5) ∧ (2 ≤ s.classes.length ∧ s.classes.length ≤ 3) ∧ wordsOk s.classes = true ∧ attrsOk s.attrs = true := by
  unfold schemaOk choices at h
  rw [Bool.and_eq_true, Bool.and_eq_true, Bool.and_eq_true, decide_eq_true_eq, decide_eq_true_eq] at h
  exact ⟨h.1, ⟨by omega, by omega⟩, h.2.1.2, h.2.2⟩
theorem sch_bounds {s : SchemaD} (h : schemaOk s = true) : (joinT (s.attrs.map attrText) ⟨#[59]⟩).size ≤ 230 ∧ (joinT s.classes ⟨#[44]⟩).size ≤ 27 := by
  obtain ⟨h1, h2, h3, h4⟩ := sch_parts h
  have g1 : (⟨#[59]⟩ : ByteArray).size = 1 := rfl
  have g2 : (⟨#[44]⟩ : ByteArray).size = 1 := rfl
  have j1 := joinT_size (s.attrs.map attrText) ⟨#[59]⟩ 45 fun t ht => by
    obtain ⟨a, _, rfl⟩ := List.mem_map.1 ht
    exact attrText_size a
  have j2 := joinT_size s.classes ⟨#[44]⟩ 8 fun t ht => (word_size (words_all h3 t ht)).2
  rw [g1, List.length_map] at j1
  rw [g2] at j2
  omega
theorem at_take {ls : List AttrD} {k : Nat} (h : k < ls.length) : (ls.take (k + 1)).map attrText = (ls.take k).map attrText ++ [attrText (ad ls k)] := by
  rw [List.take_succ_eq_append_getElem h, List.map_append, ad_eq h]; rfl
end Go.Proofs.YtlpjigpnpafkiabDoor
