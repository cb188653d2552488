/-
  The plain mathematics of a class's bytes: they rise, each is in the class, and each byte of the class is among them; no condition.
-/
import Derived.Test.YtgoejdakmbpcmaaMath
namespace Go.Proofs.Ytgoejdakmbpcmaa.Cls

/-- The byte at place k, as a number. -/
def nth (c : Cl) (k : Nat) : Nat := ((List.range 256).filter (mem c)).getD k 0
theorem bytes_length (c : Cl) : (bytes c).length = count c := bytesTo_length c 256
theorem nums_length (c : Cl) : ((List.range 256).filter (mem c)).length = count c := by unfold count; rw [List.countP_eq_length_filter]
theorem nth_mem (c : Cl) (k : Nat) (hk : k < count c) : nth c k < 256 ∧ mem c (nth c k) = true := by
  have hl : k < ((List.range 256).filter (mem c)).length := by rw [nums_length]; exact hk
  have e : nth c k = ((List.range 256).filter (mem c))[k] := by unfold nth; simp [List.getD, hl]
  have := List.getElem_mem hl
  rw [← e] at this
  obtain ⟨h1, h2⟩ := List.mem_filter.1 this
  exact ⟨List.mem_range.1 h1, h2⟩
theorem nth_rise (c : Cl) (j k : Nat) (hjk : j < k) (hk : k < count c) : nth c j < nth c k := by
  have hl : k < ((List.range 256).filter (mem c)).length := by rw [nums_length]; exact hk
  have ej : nth c j = ((List.range 256).filter (mem c))[j]'(by omega) := by unfold nth; simp [List.getD, show j < ((List.range 256).filter (mem c)).length by omega]
  have ek : nth c k = ((List.range 256).filter (mem c))[k] := by unfold nth; simp [List.getD, hl]
  rw [ej, ek]
  exact List.pairwise_iff_getElem.1 ((List.pairwise_lt_range (n := 256)).filter (mem c)) j k (by omega) hl hjk
theorem nth_all (c : Cl) (x : Nat) (hx : x < 256) (h : mem c x = true) : ∃ k, k < count c ∧ nth c k = x := by
  have : x ∈ (List.range 256).filter (mem c) := List.mem_filter.2 ⟨List.mem_range.2 hx, h⟩
  obtain ⟨k, hk, e⟩ := List.mem_iff_getElem.1 this
  refine ⟨k, by rw [← nums_length]; exact hk, ?_⟩
  unfold nth
  simp [List.getD, hk, e]
theorem bytes_nth (c : Cl) (k : Nat) (hk : k < count c) : ((bytes c).getD k 0).toNat = nth c k := by
  have hl : k < ((List.range 256).filter (mem c)).length := by rw [nums_length]; exact hk
  have e : (bytes c).getD k 0 = (nth c k).toUInt8 := by
    unfold nth bytes bytesTo
    simp [List.getD, hl]
  rw [e]
  show (UInt8.ofNat (nth c k)).toNat = _
  rw [UInt8.toNat_ofNat']
  have := (nth_mem c k hk).1
  omega
theorem bytes_size (c : Cl) : (⟨(bytes c).toArray⟩ : ByteArray).size = count c := by
  show (bytes c).toArray.size = _
  simp [bytes_length]
end Go.Proofs.Ytgoejdakmbpcmaa.Cls
