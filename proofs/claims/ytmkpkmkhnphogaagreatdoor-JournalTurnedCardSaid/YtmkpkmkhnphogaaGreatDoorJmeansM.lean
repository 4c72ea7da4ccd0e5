/-
  The document's journal as one of the kind that is asked (Jour4).
-/
import Derived.Test.YtmkpkmkhnphogaaGreatDoorJour4M
import Derived.Test.YtmkpkmkhnphogaaGreatDoorRjrestM
namespace Go.Proofs.YtmkpkmkhnphogaaGreatDoor
open Go.RowKit Tx Dv
namespace Jr

/-- The document's. -/
def Rp (w : World) (U : Nat → Prop) (d p : Value) (D : Disk) (J : Jn.Jour) : Prop := ∃ B b g v, p = .pointer (some ⟨g, 0, none⟩) ∧ (∀ k, U k ↔ B k ∨ blocks g v k) ∧ Ref w B d D ∧ JAt w b g d v J ∧ (∀ k, B k → ¬ blocks g v k) ∧ J.L.length ≤ J.pos ∧ J.pos ≤ D.S.length

theorem append_S (D : Disk) (J : Jn.Jour) (s : List UInt8) (h : J.L.length ≤ J.pos) (h2 : J.pos ≤ D.S.length) : (Jn.append D J s).2.2.L.length ≤ (Jn.append D J s).2.2.pos ∧ (Jn.append D J s).2.2.pos ≤ (Jn.append D J s).2.1.S.length := by
  rw [Jn.append_length]
  unfold Jn.append
  split
  · exact ⟨h, h2⟩
  · split
    · exact ⟨h, h2⟩
    · rename_i h3
      split
      · simp only [List.length_append, List.length_cons, List.length_nil]
        omega
      · exact ⟨h, h2⟩
theorem clear_S (D : Disk) (J : Jn.Jour) (h : J.L.length ≤ J.pos) (h2 : J.pos ≤ D.S.length) : (Jn.clear D J).2.2.L.length ≤ (Jn.clear D J).2.2.pos ∧ (Jn.clear D J).2.2.pos ≤ (Jn.clear D J).2.1.S.length := by
  unfold Jn.clear
  split
  · exact ⟨Nat.le_refl _, Nat.zero_le _⟩
  · rw [write_length]; exact ⟨h, h2⟩

theorem AppOut.pr {w w' : World} {B U : Nat → Prop} {b g : Nat} {d v v' : Value} {J : Jn.Jour} {X : Disk} (h : AppOut w w' B b g d v v' J X) (hU : ∀ k, U k ↔ B k ∨ blocks g v k) (hg : g < w.heap.size) (h1 : J.L.length ≤ J.pos) (h2 : J.pos ≤ X.S.length) :
    ∃ U', Rp w' U' d (.pointer (some ⟨g, 0, none⟩)) X J ∧ Only U w w' ∧ ∀ i, U' i → U i ∨ w.heap.size ≤ i := by
  refine ⟨fun k => B k ∨ blocks g v' k, ⟨B, b, g, v', rfl, fun _ => Iff.rfl, h.dev, h.at', h.apart, h1, h2⟩, h.only.mono fun i _ hi => (hU i).2 hi, fun i hi => ?_⟩
  rcases hi with hi | hi | hi
  · exact .inl ((hU i).2 (.inl hi))
  · exact .inl ((hU i).2 (.inr (.inl hi)))
  · rcases h.row i hi with h3 | h3
    · exact .inl ((hU i).2 (.inr (.inr h3)))
    · exact .inr h3

theorem refJour : Jour4 (fun _ => True) 19 14 21 Ref Rp where
  lt := by
    rintro w U d p D J ⟨B, b, g, v, rfl, hU, hd, hj, ha, _⟩ k hk
    rcases (hU k).1 hk with h | rfl | h
    · exact hd.lt k h
    · exact hj.lt
    · exact (hj.es.lt k h).2
  keep := by
    rintro w w' U d p D J ⟨B, b, g, v, rfl, hU, hd, hj, ha, h⟩ hk hs
    exact ⟨B, b, g, v, rfl, hU, hd.keep (fun k h => hk k ((hU k).2 (.inl h))) hs, hj.keep (hk g ((hU g).2 (.inr (.inl rfl)))) (fun k h => hk k ((hU k).2 (.inr (.inr h)))) hs, ha, h⟩
  ptr := by
    rintro w U d p D J ⟨B, b, g, v, rfl, _⟩
    exact ⟨_, rfl⟩
  dev := by
    rintro w U d p D J ⟨B, b, g, v, rfl, hU, hd, hj, ha, h1, h2⟩
    refine ⟨B, fun k h => (hU k).2 (.inl h), hd, fun w' B' D' hd' hl ho hB => ⟨fun k => B' k ∨ blocks g v k, ⟨B', b, g, v, rfl, fun _ => Iff.rfl, hd', ?_, fun k hk hb => ?_, h1, by rw [hl]; exact h2⟩, fun i hi => ?_⟩⟩
    · exact hj.keep (ho.block g hj.lt (fun k => ha g k (.inl rfl))) (fun k hk => ho.block k (hj.es.lt k hk).2 (fun e => ha k e (.inr hk))) ho.size
    · rcases hB k hk with h | h
      · exact ha k h hb
      · rcases hb with rfl | hb
        · have := hj.lt; omega
        · have := (hj.es.lt k hb).2; omega
    · rcases hi with hi | hi
      · rcases hB i hi with h | h
        · exact .inl ((hU i).2 (.inl h))
        · exact .inr h
      · exact .inl ((hU i).2 (.inr hi))
  few := by
    rintro w U d p D J ⟨B, b, g, v, rfl, hU, hd, hj, ha, h1, h2⟩
    obtain ⟨_, _, _, _, _, h, hp⟩ := hd
    exact ⟨h.ok, hp, h1, h2⟩
  opens := by
    rintro w B d D - hd
    refine (open_any w B d D hd).mono ?_
    rintro e w' ⟨v, L, a, rfl, hj, ho, hb⟩
    have hle := ho.le
    refine ⟨fun k => B k ∨ blocks w.heap.size v k, _, L, a, rfl, ⟨B, _, _, v, rfl, fun _ => Iff.rfl, Ref.below hd hb, hj, fun k hk hb2 => ?_, hle.1, hle.2⟩, ho, fun i hi => ?_, hb⟩
    · have h1 := hd.lt k hk
      rcases hb2 with rfl | h
      · omega
      · have := (hj.es.lt k h).1; omega
    · rcases hi with hi | rfl | hi
      · exact .inl hi
      · exact .inr (Nat.le_refl _)
      · exact .inr (hj.es.lt i hi).1
  records := by
    rintro w U d p D J ⟨B, b, g, v, rfl, hU, hd, hj, ha, _⟩
    exact records_any w b g d v J hj
  append := by
    rintro w U d p D J - ⟨B, b, g, v, rfl, hU, hd, hj, ha, h1, h2⟩ s hs
    obtain ⟨dp, rfl⟩ := hd.ptr
    have hA : AppIn w w B b g (.pointer (some dp)) v J D := ⟨hj, hd, ha, Only.refl _ _⟩
    by_cases hl : s.size ≤ 100000
    · by_cases hr : J.pos + 1 + Jn.count s.size ≤ D.S.length
      · obtain ⟨L, a⟩ := J
        obtain ⟨A, m, hv⟩ := hj.es.len
        rw [List.length_map] at hv
        subst hv
        refine (append_main w B b g A m dp D L a s hA hl _ _ rfl rfl hr h1).mono ?_
        rintro e w' ⟨rfl, v', ho⟩
        have h3 := append_S D ⟨L, a⟩ (toL s) h1 h2
        exact ⟨rfl, ho.pr hU hj.lt h3.1 h3.2⟩
      · have e : Jn.append D J (toL s) = (12, D, J) := by
          unfold Jn.append
          rw [if_neg (by rw [toL_length]; omega), if_pos (by rw [toL_length]; omega)]
        refine (append_full w B b g v dp D J s hA hl _ _ rfl rfl (by omega)).mono ?_
        rintro e' w' ⟨rfl, ho⟩
        rw [e]
        exact ⟨rfl, ho.out.pr hU hj.lt h1 h2⟩
    · have e : Jn.append D J (toL s) = (2, D, J) := by
        unfold Jn.append
        rw [if_pos (by rw [toL_length]; omega)]
      refine (append_long w _ s hl).mono ?_
      rintro e' w' ⟨rfl, rfl⟩
      rw [e]
      exact ⟨rfl, hA.out.pr hU hj.lt h1 h2⟩
theorem refClear : JourC 27 Rp where
  clear := by
    rintro w U d p D J ⟨B, b, g, v, rfl, hU, hd, hj, ha, h1, h2⟩
    obtain ⟨dp, rfl⟩ := hd.ptr
    have hA : AppIn w w B b g (.pointer (some dp)) v J D := ⟨hj, hd, ha, Only.refl _ _⟩
    refine (clear_any w B b g v dp D J hA).mono ?_
    rintro e w' ⟨rfl, v', ho⟩
    have h3 := clear_S D J h1 h2
    exact ⟨rfl, ho.pr hU hj.lt h3.1 h3.2⟩
end Jr
end Go.Proofs.YtmkpkmkhnphogaaGreatDoor
