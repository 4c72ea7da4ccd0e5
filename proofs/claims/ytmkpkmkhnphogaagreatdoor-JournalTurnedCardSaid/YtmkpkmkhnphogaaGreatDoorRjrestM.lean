/-
  The document's journal: Append that is refused, Records, Clear.
-/
import Derived.Test.YtmkpkmkhnphogaaGreatDoorRjappM
import Derived.Test.YtmkpkmkhnphogaaGreatDoorGtr
namespace Go.Proofs.YtmkpkmkhnphogaaGreatDoor
open Go.RowKit Tx Dv
namespace Jr

/-- A journal that is cleared. -/
theorem AppIn.cleared {w wr : World} {B : Nat → Prop} {b g : Nat} {d v : Value} {J : Jn.Jour} {X : Disk} (h : AppIn w wr B b g d v J X) :
    AppOut w ((wr.setCell ⟨g, 1, none⟩ (.slice none 0 0)).setCell ⟨g, 2, none⟩ (.int .i64 0)) B b g d v (.slice none 0 0) ⟨[], 0⟩ X := by
  have hs : ((wr.setCell ⟨g, 1, none⟩ (.slice none 0 0)).setCell ⟨g, 2, none⟩ (.int .i64 0)).heap.size = wr.heap.size := by simp only [World.setCell, Array.size_modify]
  have c : ∀ i, i ≠ 1 → i ≠ 2 → ((wr.setCell ⟨g, 1, none⟩ (.slice none 0 0)).setCell ⟨g, 2, none⟩ (.int .i64 0)).cell? ⟨g, i, none⟩ = wr.cell? ⟨g, i, none⟩ := fun i h1 h2 =>
    (World.cell?_setCell_other _ _ _ _ (fun e => h2 (by injection e with e1 e2; exact e2.symm))).trans (World.cell?_setCell_other _ _ _ _ (fun e => h1 (by injection e with e1 e2; exact e2.symm)))
  have h2 : (wr.setCell ⟨g, 1, none⟩ (.slice none 0 0)).cell? ⟨g, 2, none⟩ = some (.int .i64 J.pos) := (World.cell?_setCell_other _ _ _ _ (by simp)).trans h.at'.c2
  refine ⟨⟨by rw [hs]; exact h.at'.lt, h.at'.low, (c 0 (by decide) (by decide)).trans h.at'.c0, (World.cell?_setCell_other _ _ _ _ (by simp)).trans (World.cell?_setCell_same _ _ _ h.at'.c1), World.cell?_setCell_same _ _ _ h2,
    fun j hj => by rw [World.frozen?_setCell, World.frozen?_setCell]; exact h.at'.free j hj, Own.Es.nil _ _ _, (fun e => by cases e), h.at'.ptr, by simp, by simp⟩,
    h.dev.keep (fun k hk => ?_) (by rw [hs]; exact Nat.le_refl _), fun k hk hb => ?_, ?_, fun k hk => by cases hk⟩
  · have hkg : k ≠ g := fun e => h.apart k hk (.inl e)
    rw [heap_setCell_other _ _ _ _ hkg, heap_setCell_other _ _ _ _ hkg]
  · rcases hb with hb | hb
    · exact h.apart k hk (.inl hb)
    · cases hb
  · exact Only.setCell (Only.setCell h.only _ _ (fun _ => .inr (.inl rfl))) _ _ (fun _ => .inr (.inl rfl))

set_option maxRecDepth 100000 in
theorem append_long (w : World) (p : Value) (s : ByteArray) (hs : ¬ s.size ≤ 100000) :
    Calls Tryz.prog 21 #[p, .string s] w fun e w' => e = .returned (.int .i64 2) ∧ w' = w := by
  have z : (100000 : Int) < s.size := by omega
  go_enter Tryz.func21, Tryz.ntmps21
  go_wp2
  go_ret
  exact ⟨rfl, rfl⟩

set_option maxHeartbeats 1000000 in
set_option maxRecDepth 100000 in
theorem append_full (w : World) (B : Nat → Prop) (b g : Nat) (v : Value) (dp : Addr) (D : Disk) (J : Jn.Jour) (s : ByteArray) (hA : AppIn w w B b g (.pointer (some dp)) v J D)
    (hs : s.size ≤ 100000) (n Z : Nat) (hn : Jn.count s.size = n) (hZ : D.S.length = Z) (hr : Z < J.pos + 1 + n) :
    Calls Tryz.prog 21 #[.pointer (some ⟨g, 0, none⟩), .string s] w fun e w' => e = .returned (.int .i64 12) ∧ AppIn w w' B b g (.pointer (some dp)) v J D := by
  have hZ4 : Z ≤ 4096 := by obtain ⟨_, _, _, _, _, h, _⟩ := hA.dev; have := h.ok.few; omega
  have hn2 : n ≤ 2000 := by rw [← hn]; unfold Jn.count; omega
  have HA := Kept.mk hA
  have HC : Kept (∀ w, Calls Tryz.prog 41 #[.int .i64 s.size] w fun e w' => e = .returned (.int .i64 n) ∧ w' = w) := ⟨fun w => by have := count_any s.size w (by omega); rw [hn] at this; exact this⟩
  have HZ := Kept.mk hZ
  have c0 := hA.at'.c0
  have c2 := hA.at'.c2
  have hp := hA.at'.pos
  generalize J.pos = a at c2 hr hp
  have z1 : ¬ (100000 : Int) < s.size := by omega
  have y1 : IntKind.i64.wrap ((a : Int) + 1) = (a : Int) + 1 := IntWalk.i64_in _ (by omega)
  have y2 : IntKind.i64.wrap ((a : Int) + 1 + n) = (a : Int) + 1 + n := IntWalk.i64_in _ (by omega)
  have z2 : (Z : Int) < (a : Int) + 1 + n := by omega
  have z4 : (0 : Int) ≤ a := by omega
  have z5 : (0 : Int) ≤ n := by omega
  have z6 : (a : Int) ≤ 4096 := by omega
  have z7 : (n : Int) ≤ 2000 := by omega
  clear hA hn hZ hs
  go_enter Tryz.func21, Tryz.ntmps21
  go_wp2_with (go_at_call 41
               refine (HC.out _).mono ?_
               rintro e w1 ⟨rfl, hw⟩
               obtain rfl := hw.symm)
  refine wp_region_still_lit (by kernel_rfl) (by kernel_rfl) ?_
  repeat (first | still_step | still_call (HA.out.size HZ.out))
  refine wpStill_nil ?_
  refine HA.out.again (P := fun W => Exit.then _ _ _ _ W) ?_
  intro W1 h1
  have H1 := Kept.mk h1
  clear h1 c0 c2
  go_wp2
  go_ret
  exact ⟨rfl, H1.out⟩

set_option maxRecDepth 100000 in
theorem clear_any (w : World) (B : Nat → Prop) (b g : Nat) (v : Value) (dp : Addr) (D : Disk) (J : Jn.Jour) (hA : AppIn w w B b g (.pointer (some dp)) v J D) :
    Calls Tryz.prog 27 #[.pointer (some ⟨g, 0, none⟩)] w fun e w' => e = .returned (.int .i64 (Jn.clear D J).1) ∧ ∃ v', AppOut w w' B b g (.pointer (some dp)) v v' (Jn.clear D J).2.2 (Jn.clear D J).2.1 := by
  have HA := Kept.mk hA
  have c0 := hA.at'.c0
  obtain ⟨E, hE⟩ : ∃ E, (D.write (0 : Nat) []).1 = E := ⟨_, rfl⟩
  have hw := hA.dev.write 0 ⟨#[]⟩ (by decide) (by decide) (by decide)
  have e : D.write (0 : Int) (toL ⟨#[]⟩) = D.write (0 : Nat) [] := rfl
  rw [e, hE] at hw
  have HW := Kept.mk hw
  clear hA hw e
  by_cases h0 : E = 0
  · have HC : Kept (Jn.clear D J = (0, (D.write (0 : Nat) []).2, ⟨[], 0⟩)) := ⟨by unfold Jn.clear; rw [if_pos (hE.trans h0)]⟩
    have HE := Kept.mk hE
    have q0 : (E == 0) = true := by simpa using h0
    clear h0 hE
    go_enter Tryz.func27, Tryz.ntmps27
    go_wp2_with (go_at_call 17
                 refine HW.out.mono ?_
                 rintro e w1 ⟨rfl, hd, ho⟩
                 have h1 := HA.out.wrote hd ho
                 have H1 := Kept.mk h1
                 have d1 := H1.out.at'.c1
                 have d2 := H1.out.at'.c2
                 have f1 := H1.out.at'.free 1 (by omega)
                 have f2 := H1.out.at'.free 2 (by omega)
                 clear h1 hd ho)
    go_ret
    have hE0 : E = 0 := by simpa using q0
    subst hE0
    refine ⟨by rw [HC.out]; rfl, .slice none 0 0, ?_⟩
    rw [HC.out]
    exact H1.out.cleared
  · have HC : Kept (Jn.clear D J = (E, (D.write (0 : Nat) []).2, J)) := ⟨by unfold Jn.clear; rw [if_neg (by rw [hE]; exact h0), hE]⟩
    have HE := Kept.mk hE
    have q0 : (E == 0) = false := by simpa using h0
    clear h0 hE
    go_enter Tryz.func27, Tryz.ntmps27
    go_wp2_with (go_at_call 17
                 refine HW.out.mono ?_
                 rintro e w1 ⟨rfl, hd, ho⟩
                 have h1 := HA.out.wrote hd ho
                 have H1 := Kept.mk h1
                 clear h1 hd ho)
    go_ret
    refine ⟨by rw [HC.out]; rfl, v, ?_⟩
    rw [HC.out]
    exact H1.out.out

set_option maxRecDepth 100000 in
theorem records_any (w : World) (b g : Nat) (d v : Value) (J : Jn.Jour) (h : JAt w b g d v J) :
    Calls Tryz.prog 14 #[.pointer (some ⟨g, 0, none⟩)] w fun e w' => ∃ v, e = .returned v ∧ Own.Es Value.string w' w.heap.size v (J.L.map bs) ∧ Below w.heap.size w w' := by
  have c1 := h.c1
  obtain ⟨A, k, hv⟩ := h.es.len
  have hR : Kept (Tup.Rd w A (J.L.map bs)) := ⟨by
    obtain ⟨A', k', hv', hr⟩ := Tup.Rd.of_es h.es
    rw [hv] at hv'
    injection hv' with e1 _ _
    subst e1
    exact hr⟩
  have hnil : Kept (A = none → (J.L.map bs).length = 0 ∧ k = 0) := ⟨fun e => by
    subst e
    rcases h.es with ⟨h1, h2⟩ | ⟨_, _, h1, _⟩
    · rw [hv] at h1
      injection h1 with _ e2 e3
      exact ⟨e2, e3⟩
    · rw [hv] at h1
      injection h1 with h1
      cases h1⟩
  have hf := h.few
  have HL1 : Kept ((([] : List ByteArray).length + (J.L.map bs).length) * 16 ≤ 140737488355328) := ⟨by simp only [List.length_nil, List.length_map]; omega⟩
  have HL2 : Kept (([] : List ByteArray).length + (J.L.map bs).length ≤ maxLen) := ⟨by simp only [List.length_nil, List.length_map]; unfold maxLen; omega⟩
  obtain ⟨n, hn⟩ : ∃ n, (J.L.map bs).length = n := ⟨_, rfl⟩
  have hn2 : J.L.length = n := by rw [← hn, List.length_map]
  have HN := Kept.mk (And.intro hn hn2)
  rw [hv, hn] at c1
  rw [hn] at hnil HL1 HL2
  generalize J.L.map bs = l at *
  clear hv hf h hn hn2
  go_enter Tryz.func14, Tryz.ntmps14
  go_wp2_with (refine Tup.wpList_appendRd strTy rfl _ _ rfl rfl (Own.Es.nil _ _ w.heap.size) (Nat.le_refl _) rfl hR.out HN.out.1 hnil.out HL1.out HL2.out ?_
               intro v1 w1 hE hg
               rw [List.nil_append] at hE
               have H1 := Kept.mk (And.intro hE hg)
               clear hE hg)
  go_ret
  exact ⟨_, rfl, H1.out.1, ⟨H1.out.2.os, H1.out.2.tape, H1.out.2.output, H1.out.2.size, fun k hk => H1.out.2.block k hk (fun e => by have e2 : some k = (none : Option Nat) := e; cases e2)⟩⟩
end Jr
end Go.Proofs.YtmkpkmkhnphogaaGreatDoor
