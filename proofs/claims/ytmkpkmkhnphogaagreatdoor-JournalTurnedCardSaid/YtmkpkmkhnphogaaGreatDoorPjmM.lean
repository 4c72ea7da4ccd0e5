/-
  The program's journal: Records, Clear; it is one of the kind that is asked (Jour4).
-/
import Derived.Test.YtmkpkmkhnphogaaGreatDoorPjappM
import Derived.Test.YtmkpkmkhnphogaaGreatDoorJour4M
import Derived.Test.YtmkpkmkhnphogaaGreatDoorGtr
namespace Go.Proofs.YtmkpkmkhnphogaaGreatDoor
open Go.RowKit Tx Dv
namespace Pj

theorem AppOut.of_only {Dev : World → (Nat → Prop) → Value → Disk → Prop} {U B B' : Nat → Prop} {w w' : World} {b g : Nat} {d v : Value} {J : Jn.Jour} {X : Disk} (hat : Jr.JAt w b g d v J) (hd : Dev w' B' d X) (ho : Only B w w') (hB : ∀ k, B' k → B k ∨ w.heap.size ≤ k) (hap : ∀ k, B k → ¬ blocks g v k) (hBU : ∀ k, B k → U k) (hgU : ∀ k, blocks g v k → U k) (hult : ∀ k, U k → k < w.heap.size) : AppOut Dev U w w' b g d v v J X :=
  ⟨hat.keep (ho.block g hat.lt (fun k => hap g k (.inl rfl))) (fun k hk => ho.block k (hat.es.lt k hk).2 (fun e => hap k e (.inr hk))) ho.size,
    ⟨B', hd, fun k hk hb => by
      rcases hB k hk with h | h
      · exact hap k h hb
      · have := hult k (hgU k hb); omega, fun k hk => (hB k hk).imp (hBU k) id⟩, ho.mono fun k _ hk => hBU k hk, fun _ e => .inl e⟩
theorem AppOut.cleared {Dev : World → (Nat → Prop) → Value → Disk → Prop} (M : Means Dev) {U : Nat → Prop} {w w' : World} {b g : Nat} {d v : Value} {J : Jn.Jour} {X : Disk} (h : AppOut Dev U w w' b g d v v J X) (hgU : ∀ k, blocks g v k → U k) :
    AppOut Dev U w ((w'.setCell ⟨g, 1, none⟩ (.slice none 0 0)).setCell ⟨g, 2, none⟩ (.int .i64 0)) b g d v (.slice none 0 0) ⟨[], 0⟩ X := by
  have hs : ((w'.setCell ⟨g, 1, none⟩ (.slice none 0 0)).setCell ⟨g, 2, none⟩ (.int .i64 0)).heap.size = w'.heap.size := by simp only [World.setCell, Array.size_modify]
  have c : ∀ i, i ≠ 1 → i ≠ 2 → ((w'.setCell ⟨g, 1, none⟩ (.slice none 0 0)).setCell ⟨g, 2, none⟩ (.int .i64 0)).cell? ⟨g, i, none⟩ = w'.cell? ⟨g, i, none⟩ := fun i h1 h2 =>
    (World.cell?_setCell_other _ _ _ _ (fun e => h2 (by injection e with e1 e2; exact e2.symm))).trans (World.cell?_setCell_other _ _ _ _ (fun e => h1 (by injection e with e1 e2; exact e2.symm)))
  have h2 : (w'.setCell ⟨g, 1, none⟩ (.slice none 0 0)).cell? ⟨g, 2, none⟩ = some (.int .i64 J.pos) := (World.cell?_setCell_other _ _ _ _ (by simp)).trans h.at'.c2
  obtain ⟨B, hd, ha, hB⟩ := h.dev
  refine ⟨⟨by rw [hs]; exact h.at'.lt, h.at'.low, (c 0 (by decide) (by decide)).trans h.at'.c0, (World.cell?_setCell_other _ _ _ _ (by simp)).trans (World.cell?_setCell_same _ _ _ h.at'.c1), World.cell?_setCell_same _ _ _ h2,
    fun j hj => by rw [World.frozen?_setCell, World.frozen?_setCell]; exact h.at'.free j hj, Own.Es.nil _ _ _, (fun e => by cases e), h.at'.ptr, by simp, by simp⟩,
    ⟨B, M.keep hd (fun k hk => ?_) (by rw [hs]; exact Nat.le_refl _), fun k hk hb => ?_, hB⟩, ?_, fun k hk => by cases hk⟩
  · have hkg : k ≠ g := fun e => ha k hk (.inl e)
    rw [heap_setCell_other _ _ _ _ hkg, heap_setCell_other _ _ _ _ hkg]
  · rcases hb with hb | hb
    · exact ha k hk (.inl hb)
    · cases hb
  · exact Only.setCell (Only.setCell h.only _ _ (fun _ => hgU g (.inl rfl))) _ _ (fun _ => hgU g (.inl rfl))

section
variable {Dev : World → (Nat → Prop) → Value → Disk → Prop} (M : Means Dev) (U B : Nat → Prop) (w : World) (b g : Nat) (dp : Addr) (v : Value) (D : Disk) (J : Jn.Jour)
  (hat : Jr.JAt w b g (.pointer (some dp)) v J) (hdev : Dev w B (.pointer (some dp)) D) (hap : ∀ k, B k → ¬ blocks g v k) (hBU : ∀ k, B k → U k) (hgU : ∀ k, blocks g v k → U k) (hult : ∀ k, U k → k < w.heap.size)
include M hat hdev hap hBU hgU hult

set_option maxHeartbeats 1000000 in
set_option maxRecDepth 100000 in
theorem clear_any :
    Calls Tryz.prog 26 #[.pointer (some ⟨g, 0, none⟩)] w fun e w' => e = .returned (.int .i64 (Jn.clear D J).1) ∧ ∃ v', AppOut Dev U w w' b g (.pointer (some dp)) v v' (Jn.clear D J).2.2 (Jn.clear D J).2.1 := by
  have c0 := hat.c0
  obtain ⟨E, hE⟩ : ∃ E, (D.write (0 : Nat) []).1 = E := ⟨_, rfl⟩
  have hw : Calls Tryz.prog 16 #[.pointer (some dp), .int .i64 0, .string ⟨#[]⟩] w fun e w' => e = .returned (.int .i64 E) ∧ AppOut Dev U w w' b g (.pointer (some dp)) v v J (D.write (0 : Nat) []).2 := by
    refine (M.write hdev 0 ⟨#[]⟩ (by decide) (by decide) (by decide)).mono ?_
    rintro e w' ⟨B', rfl, hd, ho, hB⟩
    have e : D.write (0 : Int) (toL ⟨#[]⟩) = D.write (0 : Nat) [] := rfl
    rw [e] at hd ⊢
    exact ⟨by rw [hE], AppOut.of_only hat hd ho hB hap hBU hgU hult⟩
  have HW := Kept.mk hw
  have HGU := Kept.mk hgU
  clear hat hdev hap hBU hgU hult hw
  by_cases h0 : E = 0
  · have HC : Kept (Jn.clear D J = (0, (D.write (0 : Nat) []).2, ⟨[], 0⟩)) := ⟨by unfold Jn.clear; rw [if_pos (hE.trans h0)]⟩
    have q0 : (E == 0) = true := by simpa using h0
    have q1 : (E != 0) = false := by simpa using h0
    clear h0 hE
    go_enter Tryz.func26, Tryz.ntmps26
    go_wp2_with (go_at_call 16
                 refine HW.out.mono ?_
                 rintro e w1 ⟨rfl, h1⟩
                 have H1 := Kept.mk h1
                 have d1 := H1.out.at'.c1
                 have d2 := H1.out.at'.c2
                 have f1 := H1.out.at'.free 1 (by omega)
                 have f2 := H1.out.at'.free 2 (by omega)
                 clear h1)
    go_ret
    refine ⟨by rw [HC.out]; rfl, .slice none 0 0, ?_⟩
    rw [HC.out]
    exact H1.out.cleared M HGU.out
  · have HC : Kept (Jn.clear D J = (E, (D.write (0 : Nat) []).2, J)) := ⟨by unfold Jn.clear; rw [if_neg (by rw [hE]; exact h0), hE]⟩
    have q0 : (E == 0) = false := by simpa using h0
    have q1 : (E != 0) = true := by simpa using h0
    clear h0 hE
    go_enter Tryz.func26, Tryz.ntmps26
    go_wp2_with (go_at_call 16
                 refine HW.out.mono ?_
                 rintro e w1 ⟨rfl, h1⟩
                 have H1 := Kept.mk h1
                 clear h1)
    go_ret
    refine ⟨by rw [HC.out]; rfl, v, ?_⟩
    rw [HC.out]
    exact H1.out
end

set_option maxHeartbeats 1000000 in
set_option maxRecDepth 100000 in
theorem records_any (w : World) (b g : Nat) (d v : Value) (J : Jn.Jour) (h : Jr.JAt w b g d v J) :
    Calls Tryz.prog 13 #[.pointer (some ⟨g, 0, none⟩)] w fun e w' => ∃ v, e = .returned v ∧ Own.Es Value.string w' w.heap.size v (J.L.map bs) ∧ Below w.heap.size w w' := by
  have c1 := h.c1
  obtain ⟨A, k, hv⟩ := h.es.len
  have hR : Kept (Tup.Rd w A (J.L.map bs)) := ⟨by
    obtain ⟨A', k', hv', hr⟩ := Tup.Rd.of_es h.es
    rw [hv] at hv'
    injection hv' with e1 _ _
    subst e1
    exact hr⟩
  have hnil : Kept (A = none → (J.L.map bs).length = 0 ∧ k = 0) := ⟨fun e => by
    subst e
    rcases h.es with ⟨h1, h2⟩ | ⟨_, _, h1, _⟩
    · rw [hv] at h1
      injection h1 with _ e2 e3
      exact ⟨e2, e3⟩
    · rw [hv] at h1
      injection h1 with h1
      cases h1⟩
  have hf := h.few
  have HL1 : Kept ((([] : List ByteArray).length + (J.L.map bs).length) * 16 ≤ 140737488355328) := ⟨by simp only [List.length_nil, List.length_map]; omega⟩
  have HL2 : Kept (([] : List ByteArray).length + (J.L.map bs).length ≤ maxLen) := ⟨by simp only [List.length_nil, List.length_map]; unfold maxLen; omega⟩
  obtain ⟨n, hn⟩ : ∃ n, (J.L.map bs).length = n := ⟨_, rfl⟩
  have hn2 : J.L.length = n := by rw [← hn, List.length_map]
  have HN := Kept.mk (And.intro hn hn2)
  rw [hv, hn] at c1
  rw [hn] at hnil HL1 HL2
  generalize J.L.map bs = l at *
  clear hv hf h hn hn2
  go_enter Tryz.func13, Tryz.ntmps13
  go_wp2_with (refine Tup.wpList_appendRd Jr.strTy rfl _ _ rfl rfl (Own.Es.nil _ _ w.heap.size) (Nat.le_refl _) rfl hR.out HN.out.1 hnil.out HL1.out HL2.out ?_
               intro v1 w1 hE hg
               rw [List.nil_append] at hE
               have H1 := Kept.mk (And.intro hE hg)
               clear hE hg)
  go_ret
  exact ⟨_, rfl, H1.out.1, ⟨H1.out.2.os, H1.out.2.tape, H1.out.2.output, H1.out.2.size, fun k hk => H1.out.2.block k hk (fun e => by have e2 : some k = (none : Option Nat) := e; cases e2)⟩⟩

/-! ### The program's journal is one -/
def Pp (Dev : World → (Nat → Prop) → Value → Disk → Prop) (w : World) (U : Nat → Prop) (d p : Value) (D : Disk) (J : Jn.Jour) : Prop := ∃ B b g v, p = .pointer (some ⟨g, 0, none⟩) ∧ (∀ k, U k ↔ B k ∨ blocks g v k) ∧ Dev w B d D ∧ Jr.JAt w b g d v J ∧ (∀ k, B k → ¬ blocks g v k) ∧ J.L.length ≤ J.pos ∧ J.pos ≤ D.S.length
theorem append_S (D : Disk) (J : Jn.Jour) (s : List UInt8) (h : J.L.length ≤ J.pos) (h2 : J.pos ≤ D.S.length) : (Jn.append D J s).2.2.L.length ≤ (Jn.append D J s).2.2.pos ∧ (Jn.append D J s).2.2.pos ≤ (Jn.append D J s).2.1.S.length := by
  rw [Jn.append_length]
  unfold Jn.append
  split
  · exact ⟨h, h2⟩
  · split
    · exact ⟨h, h2⟩
    · rename_i h3
      split
      · simp only [List.length_append, List.length_cons, List.length_nil]
        omega
      · exact ⟨h, h2⟩
theorem clear_S (D : Disk) (J : Jn.Jour) (h : J.L.length ≤ J.pos) (h2 : J.pos ≤ D.S.length) : (Jn.clear D J).2.2.L.length ≤ (Jn.clear D J).2.2.pos ∧ (Jn.clear D J).2.2.pos ≤ (Jn.clear D J).2.1.S.length := by
  unfold Jn.clear
  split
  · exact ⟨Nat.le_refl _, Nat.zero_le _⟩
  · rw [write_length]; exact ⟨h, h2⟩
theorem AppOut.pr {Dev : World → (Nat → Prop) → Value → Disk → Prop} {w w' : World} {B U : Nat → Prop} {b g : Nat} {d v v' : Value} {J : Jn.Jour} {X : Disk} (h : AppOut Dev U w w' b g d v v' J X) (hU : ∀ k, U k ↔ B k ∨ blocks g v k) (h1 : J.L.length ≤ J.pos) (h2 : J.pos ≤ X.S.length) :
    ∃ U', Pp Dev w' U' d (.pointer (some ⟨g, 0, none⟩)) X J ∧ Only U w w' ∧ ∀ i, U' i → U i ∨ w.heap.size ≤ i := by
  obtain ⟨B', hd, ha, hB⟩ := h.dev
  refine ⟨fun k => B' k ∨ blocks g v' k, ⟨B', b, g, v', rfl, fun _ => Iff.rfl, hd, h.at', ha, h1, h2⟩, h.only, fun i hi => ?_⟩
  rcases hi with hi | hi | hi
  · exact hB i hi
  · exact .inl ((hU i).2 (.inr (.inl hi)))
  · rcases h.row i hi with h3 | h3
    · exact .inl ((hU i).2 (.inr (.inr h3)))
    · exact .inr h3

theorem jour {Dev : World → (Nat → Prop) → Value → Disk → Prop} (M : Means Dev) (MC : InCells Dev) : Jr.Jour4 JK 18 13 20 Dev (Pp Dev) where
  lt := by
    rintro w U d p D J ⟨B, b, g, v, rfl, hU, hd, hj, ha, _⟩ k hk
    rcases (hU k).1 hk with h | rfl | h
    · exact M.lt hd k h
    · exact hj.lt
    · exact (hj.es.lt k h).2
  keep := by
    rintro w w' U d p D J ⟨B, b, g, v, rfl, hU, hd, hj, ha, h⟩ hk hs
    exact ⟨B, b, g, v, rfl, hU, M.keep hd (fun k h => hk k ((hU k).2 (.inl h))) hs, hj.keep (hk g ((hU g).2 (.inr (.inl rfl)))) (fun k h => hk k ((hU k).2 (.inr (.inr h)))) hs, ha, h⟩
  ptr := by
    rintro w U d p D J ⟨B, b, g, v, rfl, _⟩
    exact ⟨_, rfl⟩
  dev := by
    rintro w U d p D J ⟨B, b, g, v, rfl, hU, hd, hj, ha, h1, h2⟩
    refine ⟨B, fun k h => (hU k).2 (.inl h), hd, fun w' B' D' hd' hl ho hB => ⟨fun k => B' k ∨ blocks g v k, ⟨B', b, g, v, rfl, fun _ => Iff.rfl, hd', ?_, fun k hk hb => ?_, h1, by rw [hl]; exact h2⟩, fun i hi => ?_⟩⟩
    · exact hj.keep (ho.block g hj.lt (fun k => ha g k (.inl rfl))) (fun k hk => ho.block k (hj.es.lt k hk).2 (fun e => ha k e (.inr hk))) ho.size
    · rcases hB k hk with h | h
      · exact ha k h hb
      · rcases hb with rfl | hb
        · have := hj.lt; omega
        · have := (hj.es.lt k hb).2; omega
    · rcases hi with hi | hi
      · rcases hB i hi with h | h
        · exact .inl ((hU i).2 (.inl h))
        · exact .inr h
      · exact .inl ((hU i).2 (.inr hi))
  few := by
    rintro w U d p D J ⟨B, b, g, v, rfl, hU, hd, hj, ha, h1, h2⟩
    obtain ⟨ho, hp⟩ := M.ok hd
    exact ⟨ho, hp, h1, h2⟩
  opens := by
    rintro w B d D hK hd
    refine (open_any M w B d D hd hK).mono ?_
    rintro e w' ⟨v, L, a, rfl, hj, ho, hb⟩
    have hle := ho.le
    refine ⟨fun k => B k ∨ blocks w.heap.size v k, _, L, a, rfl, ⟨B, _, _, v, rfl, fun _ => Iff.rfl, Mbelow M hd hb, hj, fun k hk hb2 => ?_, hle.1, hle.2⟩, ho, fun i hi => ?_, hb⟩
    · have h1 := M.lt hd k hk
      rcases hb2 with rfl | h
      · omega
      · have := (hj.es.lt k h).1; omega
    · rcases hi with hi | rfl | hi
      · exact .inl hi
      · exact .inr (Nat.le_refl _)
      · exact .inr (hj.es.lt i hi).1
  records := by
    rintro w U d p D J ⟨B, b, g, v, rfl, hU, hd, hj, ha, _⟩
    exact records_any w b g d v J hj
  append := by
    rintro w U d p D J hK ⟨B, b, g, v, rfl, hU, hd, hj, ha, h1, h2⟩ s hs
    obtain ⟨dp, rfl⟩ := M.ptr hd
    have hBU : ∀ k, B k → U k := fun k h => (hU k).2 (.inl h)
    have hgU : ∀ k, blocks g v k → U k := fun k h => (hU k).2 (.inr h)
    have hult : ∀ k, U k → k < w.heap.size := fun k hk => by
      rcases (hU k).1 hk with h | rfl | h
      · exact M.lt hd k h
      · exact hj.lt
      · exact (hj.es.lt k h).2
    by_cases hl : s.size ≤ 100000
    · obtain ⟨L, a⟩ := J
      obtain ⟨A, m, hv⟩ := hj.es.len
      rw [List.length_map] at hv
      subst hv
      by_cases hr : a + 1 + Jn.count s.size ≤ D.S.length
      · refine (append_main M MC U B w b g A m dp D L a s hj hd ha hBU hgU hult hK hl _ _ rfl rfl hr h1).mono ?_
        rintro e w' ⟨rfl, v', ho⟩
        have h3 := append_S D ⟨L, a⟩ (toL s) h1 h2
        exact ⟨rfl, ho.pr hU h3.1 h3.2⟩
      · have e : Jn.append D ⟨L, a⟩ (toL s) = (12, D, ⟨L, a⟩) := by
          unfold Jn.append
          rw [if_neg (by rw [toL_length]; omega), if_pos (by rw [toL_length]; simp only; omega)]
        refine (append_full M U B w b g A m dp D L a s hj hd ha hBU hgU hult hl _ _ rfl rfl (by omega) (by have := (M.ok hd).1.few; simp only at h2; omega)).mono ?_
        rintro e' w' ⟨rfl, ho⟩
        rw [e]
        exact ⟨rfl, ho.pr hU h1 h2⟩
    · have e : Jn.append D J (toL s) = (2, D, J) := by
        unfold Jn.append
        rw [if_pos (by rw [toL_length]; omega)]
      refine (append_long w _ s hl).mono ?_
      rintro e' w' ⟨rfl, hb⟩
      rw [e]
      refine ⟨rfl, U, ⟨B, b, g, v, rfl, hU, Mbelow M hd hb, hj.below hb, ha, h1, h2⟩, (Only.refl U w).below hb, fun i hi => .inl hi⟩
theorem jourC {Dev : World → (Nat → Prop) → Value → Disk → Prop} (M : Means Dev) : Jr.JourC 26 (Pp Dev) where
  clear := by
    rintro w U d p D J ⟨B, b, g, v, rfl, hU, hd, hj, ha, h1, h2⟩
    obtain ⟨dp, rfl⟩ := M.ptr hd
    have hult : ∀ k, U k → k < w.heap.size := fun k hk => by
      rcases (hU k).1 hk with h | rfl | h
      · exact M.lt hd k h
      · exact hj.lt
      · exact (hj.es.lt k h).2
    refine (clear_any M U B w b g dp v D J hj hd ha (fun k h => (hU k).2 (.inl h)) (fun k h => (hU k).2 (.inr h)) hult).mono ?_
    rintro e w' ⟨rfl, v', ho⟩
    have h3 := clear_S D J h1 h2
    exact ⟨rfl, ho.pr hU h3.1 h3.2⟩
end Pj
end Go.Proofs.YtmkpkmkhnphogaaGreatDoor
