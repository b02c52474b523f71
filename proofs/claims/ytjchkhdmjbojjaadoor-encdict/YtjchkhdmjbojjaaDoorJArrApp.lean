/-
  Bytes behind bytes.
-/
import Derived.Test.YtjchkhdmjbojjaaDoorJChk
import Derived.Test.YtjchkhdmjbojjaaDoorJBMath
namespace Go.Proofs.YtjchkhdmjbojjaaDoor
open Go.RowKit
theorem arr_app (l m : List UInt8) : (⟨l.toArray⟩ : ByteArray) ++ ⟨m.toArray⟩ = ⟨(l ++ m).toArray⟩ := by
  apply ByteArray.ext
  rw [ByteArray.data_append]
  simp
theorem txt_arr (s : ByteArray) : (⟨(Um.uv s.size).toArray⟩ : ByteArray) ++ s = ⟨(Um.txt s.data.toList).toArray⟩ := by
  have e : s = ⟨s.data.toList.toArray⟩ := by cases s; simp
  have h := arr_app (Um.uv s.size) s.data.toList
  rw [← e] at h
  rw [h]
  unfold Um.txt
  rw [Array.length_toList]; rfl
end Go.Proofs.YtjchkhdmjbojjaaDoor
