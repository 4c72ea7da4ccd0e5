/-
  What is asked of the program's device (Means), and the document's device as one of that kind; both at once (Two).
-/
import Derived.Test.YtmkpkmkhnphogaaGreatDoorMeanM
import Derived.Test.YtmkpkmkhnphogaaGreatDoorGdr
namespace Go.Proofs.YtmkpkmkhnphogaaGreatDoor
open Go.RowKit Tx
namespace Dv

/-- The document's device, likewise. -/
def Ref (w : World) (B : Nat → Prop) (p : Value) (D : Disk) : Prop := ∃ b g v, p = .pointer (some ⟨g, 0, none⟩) ∧ (∀ k, B k ↔ blocks g v k) ∧ RefAt w b g v D ∧ 0 < D.S.length
section
variable {w w' : World} {B : Nat → Prop} {p : Value} {D : Disk}
theorem Ref.lt (h : Ref w B p D) : ∀ k, B k → k < w.heap.size := by
  obtain ⟨b, g, v, rfl, hB, h, _⟩ := h
  intro k hk
  rcases (hB k).1 hk with rfl | hk
  · exact h.lt
  · exact (h.es.lt k hk).2
theorem Ref.keep (h : Ref w B p D) (hk : ∀ k, B k → w'.heap[k]? = w.heap[k]?) (hs : w.heap.size ≤ w'.heap.size) : Ref w' B p D := by
  obtain ⟨b, g, v, rfl, hB, h, hp⟩ := h
  exact ⟨b, g, v, rfl, hB, h.keep (hk g ((hB g).2 (.inl rfl))) (fun k hk2 => hk k ((hB k).2 (.inr hk2))) hs, hp⟩
theorem Ref.ptr (h : Ref w B p D) : ∃ a, p = .pointer (some a) := by obtain ⟨b, g, v, rfl, _⟩ := h; exact ⟨_, rfl⟩
theorem refWrite {b g : Nat} {v : Value} (h : RefAt w b g v D) (hp : 0 < D.S.length) (k : Int) (s : ByteArray) (hk0 : -9223372036854775808 ≤ k) (hk1 : k ≤ 9223372036854775807) (hs : s.size ≤ 9223372036854775807) :
    Calls Tryz.prog 17 #[.pointer (some ⟨g, 0, none⟩), .int .i64 k, .string s] w fun e w' => e = .returned (.int .i64 (D.write k (toL s)).1) ∧ Written b g v w w' (D.write k (toL s)).2 := by
  by_cases hh : D.has k ∧ (toL s).length ≤ 64
  · have hh0 := hh
    obtain ⟨⟨h0, h1⟩, h64⟩ := hh
    rw [toL_length] at h64
    obtain ⟨j, rfl⟩ := Int.eq_ofNat_of_zero_le h0
    have hj : j < D.S.length := by omega
    by_cases hpw : D.power = 0
    · by_cases hm : D.mask = 0
      · rw [Disk.write_none h.ok hh0 hpw hm]
        refine (write_none w b g v D h j hj s h64 hpw hm).mono ?_
        rintro e w' ⟨rfl, rfl⟩
        exact ⟨rfl, h, Only.refl _ _⟩
      · obtain ⟨r, cap, rfl, _⟩ := h.form hp
        refine (write_torn w b g r _ cap D h rfl j hj s h64 hpw D.mask rfl hm).mono ?_
        rintro e w' ⟨rfl, hw⟩
        exact ⟨by rw [Disk.write_dead hh0 hpw], hw⟩
    · obtain ⟨r, cap, rfl, _⟩ := h.form hp
      refine (write_on w b g r _ cap D h rfl j hj s h64 hpw).mono ?_
      rintro e w' ⟨rfl, hw⟩
      exact ⟨by rw [Disk.write_on hh0 hpw], hw⟩
  · rw [Disk.write_out hh]
    refine (write_out w b g v D h hp k hk0 hk1 s hs hh).mono ?_
    rintro e w' ⟨rfl, rfl⟩
    exact ⟨rfl, h, Only.refl _ _⟩
theorem Ref.write (h : Ref w B p D) (k : Int) (s : ByteArray) (hk0 : -9223372036854775808 ≤ k) (hk1 : k ≤ 9223372036854775807) (hs : s.size ≤ 9223372036854775807) :
    Calls Tryz.prog 17 #[p, .int .i64 k, .string s] w fun e w' => e = .returned (.int .i64 (D.write k (toL s)).1) ∧ Ref w' B p (D.write k (toL s)).2 ∧ Only B w w' := by
  obtain ⟨b, g, v, rfl, hB, h, hp⟩ := h
  refine (refWrite h hp k s hk0 hk1 hs).mono ?_
  rintro e w' ⟨rfl, hw⟩
  exact ⟨rfl, ⟨b, g, v, rfl, hB, hw.is, by rw [write_length]; exact hp⟩, hw.only.mono fun i _ hi => (hB i).2 hi⟩
theorem Ref.limit (h : Ref w B p D) (n : Int) (m : Nat) (h1 : n ≤ 9223372036854775807) (hm : m < 18446744073709551616) :
    Calls Tryz.prog 30 #[p, .int .i64 n, .int .u64 m] w fun e w' => e = .returned (.tuple #[]) ∧ Ref w' B p (D.limit n m) ∧ Only B w w' := by
  obtain ⟨b, g, v, rfl, hB, h, hp⟩ := h
  refine (limit_any w b g v D h n m h1 hm).mono ?_
  rintro e w' ⟨rfl, h2, ho⟩
  exact ⟨rfl, ⟨b, g, v, rfl, hB, h2, hp⟩, ho.mono fun i _ hi => (hB i).2 hi⟩
theorem Ref.restart (h : Ref w B p D) :
    Calls Tryz.prog 31 #[p] w fun e w' => e = .returned (.tuple #[]) ∧ Ref w' B p D.restart ∧ Only B w w' := by
  obtain ⟨b, g, v, rfl, hB, h, hp⟩ := h
  refine (restart_any w b g v D h).mono ?_
  rintro e w' ⟨rfl, h2, ho⟩
  exact ⟨rfl, ⟨b, g, v, rfl, hB, h2, hp⟩, ho.mono fun i _ hi => (hB i).2 hi⟩
theorem Ref.size (h : Ref w B p D) : Calls Tryz.prog 33 #[p] w fun e w' => e = .returned (.int .i64 D.S.length) ∧ w' = w := by
  obtain ⟨b, g, v, rfl, hB, h, hp⟩ := h
  exact size_any w b g v D h hp
theorem Ref.read (h : Ref w B p D) (k : Int) (hk0 : -9223372036854775808 ≤ k) (hk1 : k ≤ 9223372036854775807) :
    Calls Tryz.prog 22 #[p, .int .i64 k] w fun e w' => ∃ t : ByteArray, e = .returned (.tuple #[.string t, .int .i64 (D.read k).2]) ∧ Kept (t = bs (D.read k).1) ∧ w' = w := by
  obtain ⟨b, g, v, rfl, hB, h, hp⟩ := h
  exact read_any w b g v D h hp k hk0 hk1
theorem Ref.new (n : Nat) (w : World) (h1 : 1 ≤ n) (h2 : n ≤ 4096) : Calls Tryz.prog 29 #[.int .i64 n] w fun e w' => ∃ B p, e = .returned (.tuple #[p, .int .i64 0]) ∧ Ref w' B p (fresh n) ∧ (∀ k, B k → w.heap.size ≤ k) ∧ Below w.heap.size w w' := by
  refine (new_any n w h1 h2).mono ?_
  rintro e w' ⟨rfl, ⟨v, h⟩, hb⟩
  refine ⟨blocks w.heap.size v, _, rfl, ⟨_, _, v, rfl, fun _ => Iff.rfl, h, by simp [fresh]; omega⟩, fun k hk => ?_, hb⟩
  rcases hk with rfl | hk
  · exact Nat.le_refl _
  · exact (h.es.lt k hk).1
end

/-- The program's device holds D, the document's E, each in blocks of its own, from n on. -/
structure Two (Dev : World → (Nat → Prop) → Value → Disk → Prop) (n : Nat) (w : World) (d r : Value) (D E : Disk) (B C : Nat → Prop) : Prop where
  dev : Dev w B d D
  ref : Ref w C r E
  apart : ∀ k, B k → ¬ C k
  high : ∀ k, B k ∨ C k → n ≤ k
section
variable {Dev : World → (Nat → Prop) → Value → Disk → Prop} {n : Nat} {w w' : World} {d r : Value} {D E F : Disk} {B C B' : Nat → Prop}
/-- Whatever is done elsewhere. -/
theorem Two.below (h : Two Dev n w d r D E B C) (M : Means Dev) (hb : Below w.heap.size w w') : Two Dev n w' d r D E B C :=
  ⟨M.keep h.dev (fun k hk => hb.block k (M.lt h.dev k hk)) hb.size, h.ref.keep (fun k hk => hb.block k (h.ref.lt k hk)) hb.size, h.apart, h.high⟩
/-- The program's device has turned. -/
theorem Two.dev' (h : Two Dev n w d r D E B C) (hd : Dev w' B' d F) (ho : Only B w w') (hB : ∀ i, B' i → B i ∨ w.heap.size ≤ i) (hn : n ≤ w.heap.size) : Two Dev n w' d r F E B' C := by
  refine ⟨hd, h.ref.keep (fun k hk => ho.block k (h.ref.lt k hk) (fun b => h.apart k b hk)) ho.size, fun k hk hc => ?_, fun k hk => ?_⟩
  · rcases hB k hk with h1 | h1
    · exact h.apart k h1 hc
    · have := h.ref.lt k hc
      omega
  · rcases hk with h1 | h1
    · rcases hB k h1 with h2 | h2
      · exact h.high k (.inl h2)
      · omega
    · exact h.high k (.inr h1)
/-- The document's device has turned. -/
theorem Two.ref' (h : Two Dev n w d r D E B C) (M : Means Dev) (hd : Ref w' C r F) (ho : Only C w w') : Two Dev n w' d r D F B C :=
  ⟨M.keep h.dev (fun k hk => ho.block k (M.lt h.dev k hk) (fun c => h.apart k hk c)) ho.size, hd, h.apart, h.high⟩
theorem Two.belowB (h : Two Dev n w d r D E B C) (ho : Only B w w') (hn : n ≤ w.heap.size) : Below n w w' := ho.toBelow (fun k hk b => by have := h.high k (.inl b); omega) hn
theorem Two.belowC (h : Two Dev n w d r D E B C) (ho : Only C w w') (hn : n ≤ w.heap.size) : Below n w w' := ho.toBelow (fun k hk b => by have := h.high k (.inr b); omega) hn
/-- A block of neither. -/
theorem Two.else (h : Two Dev n w d r D E B C) {X : Nat → Prop} (ho : Only X w w') {g : Nat} (hg : g < w.heap.size) (hX : ¬ X g) : w'.heap[g]? = w.heap[g]? := ho.block g hg hX
end
end Dv
end Go.Proofs.YtmkpkmkhnphogaaGreatDoor
