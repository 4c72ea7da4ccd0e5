/-
  Are two entries alike: as the program compares them.
-/
import Derived.Test.YtjmblgahoejoiaaGreatDoorPsto
import Derived.Laws.StructEq
namespace Go.Proofs.YtjmblgahoejoiaaGreatDoor
open Go.RowKit Tx
namespace St

def fd (n : String) (t o b : Nat) : Field := { name := n, type := t, offset := o, embedded := false, tag := "", pkgPath := "", byteOffset := b }
theorem entFields : (Tryz.prog.fieldsOf 37).toList = [fd "Kind" 3 0 0, fd "Mode" 3 1 8, fd "Data" 9 2 16] := by kernel_rfl
theorem toList_eq (a b : ByteArray) : a.toList = b.toList ↔ a = b := by
  constructor
  · intro h
    rw [ByteArray.toList_eq, ByteArray.toList_eq] at h
    exact toL_inj h
  · rintro rfl; rfl
theorem ent_eq (a b : Ent) (w : World) : (binOp .eql 37 (entV a) (entV b)).run Tryz.prog w = .ok (.bool (decide (a = b))) w := by
  obtain ⟨k, m, d⟩ := a
  obtain ⟨k', m', d'⟩ := b
  unfold entV
  rw [run_eql_struct, run_equalIn_agg w 9999 37 _ _ (by kernel_rfl) (by kernel_rfl), entFields]
  simp [Op.eqFields, fd, go_sem, toList_eq]
  by_cases h1 : k = k'
  · by_cases h2 : m = m'
    · by_cases h3 : d = d' <;> simp [h1, h2, h3]
    · simp [h1, h2]
  · simp [h1]
theorem ent_eq' (k m : Int) (d : ByteArray) (k' m' : Int) (d' : ByteArray) (w : World) : (binOp .eql 37 (.agg #[.int .i64 k, .int .i64 m, .string d]) (.agg #[.int .i64 k', .int .i64 m', .string d'])).run Tryz.prog w = .ok (.bool (decide ((⟨k, m, d⟩ : Ent) = ⟨k', m', d'⟩))) w :=
  ent_eq ⟨k, m, d⟩ ⟨k', m', d'⟩ w
end St
end Go.Proofs.YtjmblgahoejoiaaGreatDoor
