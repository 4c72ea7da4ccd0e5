/-
  The program's Match.
-/
import Derived.Test.YtkifnabkoidhcaaPpe
namespace Go.Proofs.Ytkifnabkoidhcaa
open Go.RowKit Go.Shelf Tx
attribute [local go_sem] Oper.semAt_some
namespace Pm

set_option maxRecDepth 100000 in
theorem prefixes_any (w : World) (A : Option Addr) (n k : Nat) (s : ByteArray) : Calls Try.prog 25 #[.slice A n k, .string s] w fun e w' =>
    e = .returned (.func (.func 36) #[] #[.pointer (some ⟨w.heap.size, 0, none⟩), .pointer (some ⟨w.heap.size + 1, 0, none⟩)]) ∧ w' = (w.alloc (.cells #[.slice A n k] 40)).alloc (.cells #[.string s] 9) := by
  go_enter Try.func25, Try.ntmps25
  go_wp2_with fail
  go_ret
  exact ⟨rfl, rfl⟩
/-- Match, between two rounds. -/
structure MI (w : World) (sb rb : Nat) (s : ByteArray) (ys : List Nat) (W : World) : Prop where
  no : s.size ∉ ys
  r : W.heap[rb]? = some (.cells #[.bool false] 4 (0, 0))
  c : W.cell? ⟨sb, 0, none⟩ = some (.string s)
  bel : Below w.heap.size w W
/-- Where it has found its end. -/
structure MX (w : World) (rb : Nat) (s : ByteArray) (c : Code) (ys : List Nat) (W : World) : Prop where
  c : c = .ret
  yes : s.size ∈ ys
  r : W.cell? ⟨rb, 0, none⟩ = some (.bool true)
  bel : Below w.heap.size w W
theorem MI.low {w : World} {sb rb n : Nat} {s : ByteArray} (h1 : sb < n) (h2 : rb < n) (h3 : w.heap.size ≤ n) : Rg.Low n (MI w sb rb s) := fun _ys _A _B h hb =>
  ⟨h.no, (hb.block rb h2).trans h.r, (World.cell?_of_block (a := ⟨sb, 0, none⟩) (hb.block sb h1)).trans h.c, h.bel.trans (hb.mono h3)⟩
theorem MX.low {w : World} {rb n : Nat} {s : ByteArray} (c : Code) (h2 : rb < n) (h3 : w.heap.size ≤ n) : Rg.Low n (MX w rb s c) := fun _ys _A _B h hb =>
  ⟨h.c, h.yes, (World.cell?_of_block (a := ⟨rb, 0, none⟩) (hb.block rb h2)).trans h.r, h.bel.trans (hb.mono h3)⟩
/-- A block of another type is none of the elements'. -/
theorem ES.apart {w : World} {B r : Nat} {v : Value} {ts : List PT} {l : List PE} {cs : Array Value} {T : TypeId} {z : Nat × Nat} (h : ES w B v ts l) (hr : w.heap[r]? = some (.cells cs T z)) (h1 : T ≠ 61) (h2 : T ≠ 78) : v.ownBlock ≠ some r ∧ ∀ t ∈ ts, t.p ≠ some r := by
  refine ⟨fun e => ?_, fun t ht e => ?_⟩
  · obtain ⟨_, ds, hd⟩ := own_row h.own e
    exact type_ne hd hr (fun e => h1 e.symm) rfl
  · obtain ⟨i, hi⟩ := List.getElem?_of_mem ht
    have hil : i < l.length := by rw [← h.len]; exact (List.getElem?_eq_some_iff.1 hi).1
    have hE := h.ok i _ t (List.getElem?_eq_getElem hil) hi
    generalize l[i] = x at hE
    cases x with
    | star => have hE : t = ⟨2, 0, none⟩ := hE; subst hE; cases e
    | any => have hE : t = ⟨1, 0, none⟩ := hE; subst hE; cases e
    | one c => have hE : t = ⟨0, (c.toNat : Int), none⟩ := hE; subst hE; cases e
    | set us =>
      obtain ⟨q, rfl, hq⟩ := hE
      injection e with e
      subst e
      exact hq.ne hr h2 rfl
theorem res_match (tmps : Array Value) (W : World) (a : Addr) (v : Value) (ht : tmps[4]?.getD undef = .pointer (some a)) (hc : W.cell? a = some v) : (results Try.f13 tmps).run Try.prog W = .ok v W := by
  simp [results, Try.f13, go_sem, ht, hc]
set_option maxHeartbeats 4000000 in
set_option maxRecDepth 100000 in
theorem match_any (p s : ByteArray) (w : World) (hp : p.size ≤ 2000) (hs : s.size ≤ 2000) : Calls Try.prog 13 #[.string p, .string s] w fun e w' => e = .returned (.bool (mat (toL p) (toL s))) ∧ Below w.heap.size w w' := by
  have HP := Kept.mk hp
  have HS := Kept.mk hs
  clear hp hs
  refine (callsIn_wide (n := 5)).1 ?_
  refine callsIn_of_wp_marks Try.func13 rfl trivial ?_ rfl
  simp only [Try.ntmps13, List.size_toArray, List.length_cons, List.length_nil, Nat.reduceAdd, Nat.reduceSub, Array.replicate_succ, Array.replicate_zero, List.push_toArray, List.append_toArray, List.nil_append, List.cons_append]
  gi_wp2
  have HA : Kept (Below w.heap.size w ((w.alloc (.cells #[.string s] 9)).alloc (.cells #[.bool false] 4))) := ⟨((Below.refl _ _).alloc (Nat.le_refl _) _).alloc (by simp) _⟩
  have h0 : ((w.alloc (.cells #[.string s] 9)).alloc (.cells #[.bool false] 4)).heap[w.heap.size]? = some (.cells #[.string s] 9 (0, 0)) := (Below.heap_alloc _ _ _ (by simp)).trans (heap_alloc_new w _)
  have h1 : ((w.alloc (.cells #[.string s] 9)).alloc (.cells #[.bool false] 4)).heap[w.heap.size + 1]? = some (.cells #[.bool false] 4 (0, 0)) := by
    have := heap_alloc_new (w.alloc (.cells #[.string s] 9)) (.cells #[.bool false] 4)
    rwa [World.size_alloc] at this
  generalize ((w.alloc (.cells #[.string s] 9)).alloc (.cells #[.bool false] 4)) = W at *
  have HR := Kept.mk (And.intro h0 h1)
  have c0 := cell_of_row _ _ 0 _ _ _ h0
  have c0d : W.drew.cell? ⟨w.heap.size, 0, none⟩ = some (.string s) := c0
  clear h0 h1
  refine wpIn_wide.2 ?_
  go_region_held3 (fun w' => w'.cell? ⟨w.heap.size, 0, none⟩ = some (.string s))
    (first
      | exact c2
      | exact c3
      | exact c0)
    (first
      | (go_at_call 26
         refine (elements_any p _ HP.out).mono ?_
         rintro e w2 ⟨v, ts, l, rfl, HE2, HES2, HB2, HF2⟩
         obtain ⟨A2, q2, rfl⟩ := own_shape HES2.out.own
         have c2 := (World.cell?_of_block (a := ⟨w.heap.size, 0, none⟩) (HB2.out.block w.heap.size (Array.getElem?_eq_some_iff.1 HR.out.1).1)).trans c0d)
      | (go_at_call 25
         refine (prefixes_any _ _ _ _ _).mono ?_
         rintro e w3 ⟨rfl, rfl⟩
         have hA3 := ((Below.refl w2.heap.size w2).alloc (Nat.le_refl _) (.cells #[.slice A2 ts.length q2] 40)).alloc (by simp) (.cells #[.string s] 9)
         have HA3 := Kept.mk hA3
         have c3 := (World.cell?_of_block (a := ⟨w.heap.size, 0, none⟩) (hA3.block w.heap.size (World.block_lt_of_cell? w2 _ c2))).trans c2))
  have hB3 : Below W.heap.size W ((w2.alloc (.cells #[.slice A2 ts.length q2] 40)).alloc (.cells #[.string s] 9)) := (Below.drew (Below.refl _ _)).trans (HB2.out.trans (hA3.mono HB2.out.size))
  have hl3 : ((w2.alloc (.cells #[.slice A2 ts.length q2] 40)).alloc (.cells #[.string s] 9)).cell? ⟨w2.heap.size, 0, none⟩ = some (.slice A2 ts.length q2) := cell_of_row _ _ 0 _ _ _ ((Below.heap_alloc _ _ _ (by simp)).trans (heap_alloc_new w2 _))
  have hs3 : ((w2.alloc (.cells #[.slice A2 ts.length q2] 40)).alloc (.cells #[.string s] 9)).cell? ⟨w2.heap.size + 1, 0, none⟩ = some (.string s) := by
    have := heap_alloc_new (w2.alloc (.cells #[.slice A2 ts.length q2] 40)) (.cells #[.string s] 9)
    rw [World.size_alloc] at this
    exact cell_of_row _ _ 0 _ _ _ this
  have hz3 : ((w2.alloc (.cells #[.slice A2 ts.length q2] 40)).alloc (.cells #[.string s] 9)).heap.size = w2.heap.size + 2 := by simp
  have hES3 := MM.es_below HES2.out hA3
  have hr3 := (hB3.block (w.heap.size + 1) (Array.getElem?_eq_some_iff.1 HR.out.2).1).trans HR.out.2
  have hbelow := HA.out.trans (hB3.mono HA.out.size)
  have hsz2 : W.heap.size ≤ w2.heap.size := HB2.out.size
  have hWz : w.heap.size + 1 < W.heap.size := (Array.getElem?_eq_some_iff.1 HR.out.2).1
  clear c0 c0d c2 HA3 hA3 HA HB2 HES2
  generalize ((w2.alloc (.cells #[.slice A2 ts.length q2] 40)).alloc (.cells #[.string s] 9)) = w3 at *
  have hap := hES3.apart hr3 (by decide) (by decide)
  have hEls : ∀ t, mat (toL p) t = matE (fns l) t := els_mat HE2.out (toL p) rfl (fun h => by cases h)
  have HEls := Kept.mk hEls
  have HI0 : MI w w.heap.size (w.heap.size + 1) s [] w3 := ⟨by simp, hr3, c3, hbelow⟩
  have hit := iter_any (5 - 1) (w.heap.size + 1) w3 W.drew.heap.size w2.heap.size (w2.heap.size + 1) _ ts l s hl3 hs3 hES3 ⟨HF2.out, HS.out⟩ ⟨by omega, by omega, hap⟩ (by omega) (by omega)
  clear hEls hES3 hr3 hl3 hs3 hbelow hB3 hap c3
  gi_wp2
  refine Rg.range_low rfl (by omega) (gf := 36) (lb := #[.pointer (some ⟨w2.heap.size, 0, none⟩), .pointer (some ⟨w2.heap.size + 1, 0, none⟩)]) rfl trivial (enters_of Try.func36 (by kernel_rfl) rfl)
    hit (Below.refl _ _) (by omega) rfl (MI w w.heap.size (w.heap.size + 1) s) (MX w (w.heap.size + 1) s) (MI.low (by omega) (by omega) (by omega)) (fun c => MX.low c (by omega) (by omega)) HI0
    (fun x => { tmps := #[.string p, .string s, undef, .pointer (some ⟨w.heap.size, 0, none⟩), .pointer (some ⟨w.heap.size + 1, 0, none⟩), .int .i64 (x : Int), .string p, .slice A2 ts.length q2, .string s, .func (.func 36) #[] #[.pointer (some ⟨w2.heap.size, 0, none⟩), .pointer (some ⟨w2.heap.size + 1, 0, none⟩)], .int .i64 (x : Int), undef, undef, undef, undef], defers := [] }) ?assign ?body ?done ?stop
  case assign =>
    intro lp x W K hK
    gi_wp2
    exact hK
  case body =>
    rintro lp pre x W hI _
    have HI := Kept.mk hI
    have d0 := hI.c
    have r0 := cell_of_row _ _ 0 _ _ _ hI.r
    have rf := frozen_of_row _ _ 0 _ _ hI.r
    clear hI hit HI0
    by_cases hx : x = s.size
    · have q0 : ((x : Int) == (s.size : Int)) = true := by rw [beq_iff_eq]; omega
      have q1 : (x : Int) = (s.size : Int) := by omega
      gi_wp2
      exact ⟨(Rg.But.refl _ _).cell _, rfl, by rw [hx]; simp, World.cell?_setCell_same _ _ _ r0, HI.out.bel.setCell (p := ⟨w.heap.size + 1, 0, none⟩) (by show w.heap.size ≤ w.heap.size + 1; omega) _⟩
    · have q0 : ((x : Int) == (s.size : Int)) = false := by rw [beq_eq_false_iff_ne]; omega
      have q1 : ¬ (x : Int) = (s.size : Int) := by omega
      gi_wp2
      exact ⟨Rg.But.refl _ _, fun h => (List.mem_append.1 h).elim HI.out.no (fun h => hx (List.mem_singleton.1 h).symm), HI.out.r, HI.out.c, HI.out.bel⟩
  case done =>
    rintro D9 xs W hD9 hxs hI hK9
    have HAns : Kept (mat (toL p) (toL s) = false) := ⟨by rw [mat_whole HEls.out hxs, toL_length]; exact decide_eq_false hI.no⟩
    have r0 := cell_of_row _ _ 0 _ _ _ hI.r
    have rf := frozen_of_row _ _ 0 _ _ hI.r
    have HI := Kept.mk hI
    have HK9 := Kept.mk hK9
    have HD9 := Kept.mk hD9
    clear hxs hI hit HI0 hK9
    gi_wp2
    have hne : D9 ≠ w.heap.size + 1 := by have := HD9.out; omega
    have hK3 : (W.setCell ⟨w.heap.size + 1, 0, none⟩ (.bool false)).heap[D9]? = some (.deferred (some [])) := (Below.heap_setCell _ _ _ D9 hne).trans HK9.out
    refine ⟨by simp, .inl ⟨_, _, rfl, run_takeDeferred hK3, ?_⟩⟩
    have hc : ((W.setCell ⟨w.heap.size + 1, 0, none⟩ (.bool false)).putObj D9 (.deferred none)).cell? ⟨w.heap.size + 1, 0, none⟩ = some (.bool false) := (World.cell?_of_block (a := ⟨w.heap.size + 1, 0, none⟩) ((Rg.put_low (b := w.heap.size + 2) _ (by have := HD9.out; omega)).block (w.heap.size + 1) (by omega))).trans (World.cell?_setCell_same _ _ _ r0)
    have hb : Below w.heap.size w ((W.setCell ⟨w.heap.size + 1, 0, none⟩ (.bool false)).putObj D9 (.deferred none)) := (HI.out.bel.setCell (p := ⟨w.heap.size + 1, 0, none⟩) (by show w.heap.size ≤ w.heap.size + 1; omega) _).trans (Rg.put_low _ (by have := HD9.out; omega))
    exact ⟨_, res_match _ _ _ _ rfl hc, by rw [HAns.out], hb⟩
  case stop =>
    rintro D9 c pre W hD9 hpre hX hK9
    obtain rfl := hX.c
    have HAns : Kept (mat (toL p) (toL s) = true) := ⟨mat_part HEls.out hpre (by rw [toL_length]; exact hX.yes)⟩
    have HX := Kept.mk hX
    have HK9 := Kept.mk hK9
    have HD9 := Kept.mk hD9
    clear hX hpre hit HI0 hK9
    gi_wp2
    refine ⟨by simp, .inl ⟨_, _, rfl, run_takeDeferred HK9.out, ?_⟩⟩
    have hc : (W.putObj D9 (.deferred none)).cell? ⟨w.heap.size + 1, 0, none⟩ = some (.bool true) := (World.cell?_of_block (a := ⟨w.heap.size + 1, 0, none⟩) ((Rg.put_low (b := w.heap.size + 2) _ (by have := HD9.out; omega)).block (w.heap.size + 1) (by omega))).trans HX.out.r
    exact ⟨_, res_match _ _ _ _ rfl hc, by rw [HAns.out], HX.out.bel.trans (Rg.put_low _ (by have := HD9.out; omega))⟩
end Pm
end Go.Proofs.Ytkifnabkoidhcaa
