/-
  Plain facts on texts of bytes. No condition.
-/
import Derived.Test.YtglabaajdabooaaDoorWbits
namespace Go.Proofs.YtglabaajdabooaaDoor
open Go.RowKit
set_option linter.unusedVariables false

theorem mk_size (l : List UInt8) : (ByteArray.mk l.toArray).size = l.length := by simp [ByteArray.size]
theorem extract_one (s : ByteArray) (k : Nat) (h : k < s.size) : s.extract k (k + 1) = ⟨[s[k]].toArray⟩ := by
  apply ByteArray.ext
  simp only [ByteArray.data_extract]
  apply Array.ext
  · simp; have : s.data.size = s.size := rfl; omega
  · intro i h1 h2
    have : i = 0 := by simp at h2; omega
    subst this
    simp; rfl
theorem app_one (o : List UInt8) (s : ByteArray) (k : Nat) (h : k < s.size) : ({ data := o.toArray } : ByteArray) ++ s.extract k (k + 1) = ⟨(o ++ [s[k]]).toArray⟩ := by
  rw [extract_one s k h, ByteArray.mk_append_mk]
theorem u8_eq {c d : UInt8} (h : c.toNat = d.toNat) : c = d := by rw [← UInt8.toNat_inj]; exact h
theorem u8_49 {c : UInt8} (h : ((c.toNat : Int) == 49) = true) : c = 49 := u8_eq (by show _ = 49; simp at h; omega)
theorem u8_not49 {c : UInt8} (h : ((c.toNat : Int) == 49) = false) : c ≠ 49 := by rintro rfl; simp at h
theorem ret_str {a b : ByteArray} (h : a = b) : Ending.returned (.string a) = .returned (.string b) := by rw [h]
theorem str_of {a b : List UInt8} (h : a = b) : Value.string ⟨a.toArray⟩ = .string ⟨b.toArray⟩ := by rw [h]
theorem info5 : (Tryd.prog.info? 5).map (fun i => (i.zero, i.size, i.bytes)) = some (some (.int .u8 0), 1, 1) := by kernel_rfl
theorem all_at {s : ByteArray} (k : Nat) (h : k < s.size) (ha : s.data.toList.all isBit = true) : isBit s[k] = true :=
  List.all_eq_true.1 ha _ (by rw [show s[k] = s.data.toList[k]'(by simpa using h) from rfl]; exact List.getElem_mem _)
end Go.Proofs.YtglabaajdabooaaDoor
