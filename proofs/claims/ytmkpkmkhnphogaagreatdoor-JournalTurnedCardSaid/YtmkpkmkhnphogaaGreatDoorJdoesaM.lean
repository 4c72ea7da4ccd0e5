/-
  does: any act at both journals.
-/
import Derived.Test.YtmkpkmkhnphogaaGreatDoorJdoesoM
namespace Go.Proofs.YtmkpkmkhnphogaaGreatDoor
open Go.RowKit Tx Dv
namespace Jr
theorem does_any {K : World → Prop} {Dev : World → (Nat → Prop) → Value → Disk → Prop} {Pp : World → (Nat → Prop) → Value → Value → Disk → Jn.Jour → Prop} (w0 w : World) (L : Lore (K := K) (Dev := Dev) (Pp := Pp) w0) (x : Nat) (U V : Nat → Prop) (d p r q : Value) (D : Disk) (J : Jn.Jour)
    (h : Duo Pp w0.heap.size w0 w0 (fun _ => False) w x U V d p r q p q D J D J) (what k : Nat) (s : ByteArray) (m : Nat) (hk : k < 256) (hm : m < 18446744073709551616) (hs : s.size ≤ 1000000) :
    Calls Tryz.prog 11 #[.pointer (some ⟨x, 0, none⟩), .agg #[.int .u8 what, .int .u8 k, .string s, .int .u64 m]] w fun e w' => e = .returned (.bool true) ∧ ∃ U' V' p' q' D' J', Duo Pp w0.heap.size w0 w0 (fun _ => False) w' x U' V' d p' r q' p' q' D' J' D' J' := by
  by_cases h5 : what % 8 = 5
  · exact does_power w0 w L x U V d p r q D J h what k s m hk hs hm (by omega)
  · by_cases h6 : what % 8 = 6
    · exact does_open w0 w L x U V d p r q D J h what k s m hs (by omega)
    · by_cases h7 : what % 8 = 7
      · exact does_clear w0 w L x U V d p r q D J h what k s m hs (by omega)
      · refine does_append w0 w L x U V d p r q D J h what k s m hs _ rfl ?_ ?_ ?_
        · rw [beq_eq_false_iff_ne]; omega
        · rw [beq_eq_false_iff_ne]; omega
        · rw [beq_eq_false_iff_ne]; omega
end Jr
end Go.Proofs.YtmkpkmkhnphogaaGreatDoor
