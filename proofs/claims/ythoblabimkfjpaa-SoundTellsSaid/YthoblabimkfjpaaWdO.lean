/- Arguments opened: texts, lists of texts, numbers. -/
import Derived.Test.YthoblabimkfjpaaWdT
import Derived.Deep.Slices
import Derived.Deep.Fields
import Derived.OpenShut
import Derived.ShutString
import Derived.ChangeOld
import Derived.ChangeSame
import Derived.ChangeMaps5
import Derived.SliceStrings
namespace Go.Proofs.Ythoblabimkfjpaa
open Go.RowKit Go.ChangeShapes Go.WideShapes Go.Deep
set_option maxHeartbeats 3200000
set_option maxRecDepth 100000
theorem pf_u32 {a : Int} (h : (Lit.int .u32 a).wf = true) : 0 ≤ a ∧ a < 4294967296 := by
  simp only [Lit.wf, Bool.and_eq_true, decide_eq_true_eq] at h
  have h1 : IntKind.u32.min = 0 := rfl
  have h2 : IntKind.u32.max = 4294967295 := rfl
  rw [h1, h2] at h
  omega
theorem pf_i64 {a : Int} (h : (Lit.int .i64 a).wf = true) : -9223372036854775808 ≤ a ∧ a ≤ 9223372036854775807 := by
  simp only [Lit.wf, Bool.and_eq_true, decide_eq_true_eq] at h
  have h1 : IntKind.i64.min = -9223372036854775808 := rfl
  have h2 : IntKind.i64.max = 9223372036854775807 := rfl
  rw [h1, h2] at h
  exact h
theorem to_txt (b : ByteArray) : ∃ l : List UInt8, b = txt l := ⟨b.data.toList, by apply ByteArray.ext; show b.data = b.data.toList.toArray; rw [Array.toArray_toList]⟩
theorem txt_max {l : List UInt8} (h : (txt l).size ≤ maxLen) : l.length ≤ 9223372036854775807 := by
  rw [txt_size] at h; unfold maxLen at h; omega
theorem to_u32 {b : Int} (h : (Lit.int .u32 b).wf = true) : ∃ a : Nat, b = (a : Int) ∧ a < 4294967296 := by
  have u := pf_u32 h
  obtain ⟨a, rfl⟩ := Int.eq_ofNat_of_zero_le u.1
  exact ⟨a, rfl, by omega⟩
theorem to_u8 {a : Int} (h : (Lit.int .u8 a).wf = true) : ∃ x : UInt8, a = (x.toNat : Int) := by
  simp only [Lit.wf, Bool.and_eq_true, decide_eq_true_eq] at h
  have h1 : IntKind.u8.min = 0 := rfl
  have h2 : IntKind.u8.max = 255 := rfl
  rw [h1, h2] at h
  refine ⟨byt a, ?_⟩
  have := byt_val a
  omega
end Go.Proofs.Ythoblabimkfjpaa
