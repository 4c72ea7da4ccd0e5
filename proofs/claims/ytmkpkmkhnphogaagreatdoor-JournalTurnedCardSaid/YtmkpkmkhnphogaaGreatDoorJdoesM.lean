/-
  does: an act at both journals.
-/
import Derived.Test.YtmkpkmkhnphogaaGreatDoorDuoM
import Derived.Deep.RegionHeld3
namespace Go.Proofs.YtmkpkmkhnphogaaGreatDoor
open Go.RowKit Tx Dv
namespace Jr

/-- An act's fields at block g. -/
structure ActAt (w : World) (g : Nat) (what k : Int) (s : ByteArray) (m : Nat) : Prop where
  c0 : w.cell? ⟨g, 0, none⟩ = some (.int .u8 what)
  c1 : w.cell? ⟨g, 1, none⟩ = some (.int .u8 k)
  c2 : w.cell? ⟨g, 2, none⟩ = some (.string s)
  c3 : w.cell? ⟨g, 3, none⟩ = some (.int .u64 m)
theorem ActAt.new (w : World) (t : TypeId) (what k : Int) (s : ByteArray) (m : Nat) : ActAt (w.alloc (.cells #[.int .u8 what, .int .u8 k, .string s, .int .u64 m] t)) w.heap.size what k s m := by
  have hc : ∀ j, (w.alloc (.cells #[.int .u8 what, .int .u8 k, .string s, .int .u64 m] t)).cell? ⟨w.heap.size, j, none⟩ = (#[Value.int .u8 what, .int .u8 k, .string s, .int .u64 m] : Array Value)[j]? := fun j => cell_of_row _ _ j _ _ (0, 0) (heap_alloc_new w _)
  exact ⟨hc 0, hc 1, hc 2, hc 3⟩
theorem ActAt.keep {w w' : World} {g : Nat} {what k : Int} {s : ByteArray} {m : Nat} (h : ActAt w g what k s m) (hb : w'.heap[g]? = w.heap[g]?) : ActAt w' g what k s m :=
  ⟨(World.cell?_of_block (w := w) (a := ⟨g, 0, none⟩) hb).trans h.c0, (World.cell?_of_block (w := w) (a := ⟨g, 1, none⟩) hb).trans h.c1, (World.cell?_of_block (w := w) (a := ⟨g, 2, none⟩) hb).trans h.c2, (World.cell?_of_block (w := w) (a := ⟨g, 3, none⟩) hb).trans h.c3⟩

/-- Both, with an act in a block of its own. -/
structure Doing (Pp : World → (Nat → Prop) → Value → Value → Disk → Jn.Jour → Prop) (w0 w1 w : World) (x g : Nat) (what k : Int) (s : ByteArray) (m : Nat) (U V : Nat → Prop) (d p r q cp cq : Value) (D : Disk) (J : Jn.Jour) (E : Disk) (I : Jn.Jour) : Prop where
  duo : Duo Pp w0.heap.size w0 w1 (fun k => k = g) w x U V d p r q cp cq D J E I
  act : ActAt w1 g what k s m
section
variable {K : World → Prop} {fO fR fA fC : FuncId} {Dev : World → (Nat → Prop) → Value → Disk → Prop} {Pp : World → (Nat → Prop) → Value → Value → Disk → Jn.Jour → Prop} {x g : Nat} {w0 w1 w w' : World} {what k : Int} {s : ByteArray} {m : Nat} {Z U V : Nat → Prop} {d p r q cp cq : Value} {D E : Disk} {J I : Jn.Jour}
theorem Doing.start (h : Duo Pp w0.heap.size w0 w1 Z w x U V d p r q cp cq D J E I) (M4 : Jour4 K fO fR fA Dev Pp) (t : TypeId) (what k : Int) (s : ByteArray) (m : Nat) :
    Doing Pp w0 (w.alloc (.cells #[.int .u8 what, .int .u8 k, .string s, .int .u64 m] t)) (w.alloc (.cells #[.int .u8 what, .int .u8 k, .string s, .int .u64 m] t)) x w.heap.size what k s m U V d p r q cp cq D J E I :=
  ⟨(h.byBelow M4 ((Below.refl _ _).alloc (Nat.le_refl _) _)).watch _ _ (fun g hg => by
    subst hg
    refine ⟨by simp, fun u => ?_, fun v => ?_, fun e => ?_, rfl⟩
    · have := M4.lt h.four.pr _ u; omega
    · have := refJour.lt h.four.rp _ v; omega
    · have := h.at'.lt; omega), ActAt.new _ _ _ _ _ _⟩
theorem Doing.here (h : Doing Pp w0 w1 w x g what k s m U V d p r q cp cq D J E I) : ActAt w g what k s m := h.act.keep (h.duo.side g rfl).2.2.2.2
theorem Doing.drew (h : Doing Pp w0 w1 w x g what k s m U V d p r q cp cq D J E I) (M4 : Jour4 K fO fR fA Dev Pp) : Doing Pp w0 w1 w.drew x g what k s m U V d p r q cp cq D J E I := ⟨h.duo.byBelow M4 (Below.refl _ _).drew, h.act⟩
end

/-- What is known once for all the acts. -/
structure Lore {K : World → Prop} {Dev : World → (Nat → Prop) → Value → Disk → Prop} {Pp : World → (Nat → Prop) → Value → Value → Disk → Jn.Jour → Prop} (w0 : World) : Prop where
  M : Means Dev
  M4 : Jour4 K 18 13 20 Dev Pp
  MC : JourC 26 Pp
  hK : ∀ w', Below w0.heap.size w0 w' → K w'

set_option maxHeartbeats 400000 in
set_option maxRecDepth 100000 in
theorem does_power {K : World → Prop} {Dev : World → (Nat → Prop) → Value → Disk → Prop} {Pp : World → (Nat → Prop) → Value → Value → Disk → Jn.Jour → Prop} (w0 w : World) (L : Lore (K := K) (Dev := Dev) (Pp := Pp) w0) (x : Nat) (U V : Nat → Prop) (d p r q : Value) (D : Disk) (J : Jn.Jour)
    (h : Duo Pp w0.heap.size w0 w0 (fun _ => False) w x U V d p r q p q D J D J) (what k : Nat) (s : ByteArray) (m : Nat) (hk : k < 256) (hs : s.size ≤ 1000000) (hm : m < 18446744073709551616) (hc : (what : Int) % 8 = 5) :
    Calls Tryz.prog 11 #[.pointer (some ⟨x, 0, none⟩), .agg #[.int .u8 what, .int .u8 k, .string s, .int .u64 m]] w fun e w' => e = .returned (.bool true) ∧ ∃ U' V' p' q' D' J', Duo Pp w0.heap.size w0 w0 (fun _ => False) w' x U' V' d p' r q' p' q' D' J' D' J' := by
  have H0 := Kept.mk (Doing.start h L.M4 29 what k s m)
  have HL := Kept.mk L
  have HK := Kept.mk (And.intro hk hm)
  have hk0 : (0 : Int) ≤ k := by omega
  have hk2 : (k : Int) < 256 := by omega
  have HC : Kept (0 ≤ (k : Int).tmod 9 ∧ (k : Int).tmod 9 < 9) := ⟨by rw [Int.tmod_eq_emod_of_nonneg (by omega)]; omega⟩
  clear hm hs hk
  clear h L
  go_enter Tryz.func11, Tryz.ntmps11
  go_wp2
  generalize w.alloc (.cells #[.int .u8 what, .int .u8 k, .string s, .int .u64 m] 29) = w1 at H0 ⊢
  generalize w.heap.size = g at H0 ⊢
  clear hc
  have HD := Kept.mk (H0.out.drew HL.out.M4)
  clear H0
  have b0 := HD.out.duo.at'.c0
  have a1 := HD.out.here.c1
  have a3 := HD.out.here.c3
  refine wp_region_still_tail 10 (by kernel_rfl) (by kernel_rfl) ?_
  simp only [List.take_succ_cons, List.take_zero, List.drop_succ_cons, List.drop_zero]
  repeat still_step
  refine wpStill_nil ?_
  go_wp2_with (go_at_call 24
               refine (HD.out.duo.limitP HL.out.M HL.out.M4 ((k : Int).tmod 9) m (Int.le_trans (by decide) HC.out.1) (Int.le_trans (Int.le_of_lt HC.out.2) (by decide)) HK.out.2).mono ?_
               rintro e w2 ⟨U1, rfl, h1⟩
               have H1 : Kept (Doing Pp w0 w1 w2 x g what k s m U1 V d p r q p q (D.limit ((k : Int).tmod 9) m) J D J) := ⟨⟨h1, HD.out.act⟩⟩
               clear h1 b0 a1 a3 HD)
  have HE := Kept.mk (H1.out.drew HL.out.M4)
  clear H1
  have b0 := HE.out.duo.at'.c2
  have a1 := HE.out.here.c1
  have a3 := HE.out.here.c3
  refine wp_region_still_tail 10 (by kernel_rfl) (by kernel_rfl) ?_
  simp only [List.take_succ_cons, List.take_zero, List.drop_succ_cons, List.drop_zero]
  repeat still_step
  refine wpStill_nil ?_
  go_wp2_with (go_at_call 30
               refine (HE.out.duo.limitR HL.out.M4 ((k : Int).tmod 9) m (Int.le_trans (Int.le_of_lt HC.out.2) (by decide)) HK.out.2).mono ?_
               rintro e w3 ⟨V1, rfl, h1⟩
               have H2 := Kept.mk h1.blind
               clear h1 b0 a1 a3 HE)
  go_ret
  exact ⟨rfl, U1, V1, p, q, _, J, H2.out⟩

set_option maxHeartbeats 1000000 in
set_option maxRecDepth 100000 in
theorem does_clear {K : World → Prop} {Dev : World → (Nat → Prop) → Value → Disk → Prop} {Pp : World → (Nat → Prop) → Value → Value → Disk → Jn.Jour → Prop} (w0 w : World) (L : Lore (K := K) (Dev := Dev) (Pp := Pp) w0) (x : Nat) (U V : Nat → Prop) (d p r q : Value) (D : Disk) (J : Jn.Jour)
    (h : Duo Pp w0.heap.size w0 w0 (fun _ => False) w x U V d p r q p q D J D J) (what k : Nat) (s : ByteArray) (m : Nat) (hs : s.size ≤ 1000000) (hc : (what : Int) % 8 = 7) :
    Calls Tryz.prog 11 #[.pointer (some ⟨x, 0, none⟩), .agg #[.int .u8 what, .int .u8 k, .string s, .int .u64 m]] w fun e w' => e = .returned (.bool true) ∧ ∃ U' V' p' q' D' J', Duo Pp w0.heap.size w0 w0 (fun _ => False) w' x U' V' d p' r q' p' q' D' J' D' J' := by
  have H0 := Kept.mk (Doing.start h L.M4 29 what k s m)
  have HL := Kept.mk L
  obtain ⟨y, hy⟩ : ∃ y, Jn.clear D J = y := ⟨_, rfl⟩
  obtain ⟨e0, X, I⟩ := y
  have HX := Kept.mk hy
  clear h L hs hy
  go_enter Tryz.func11, Tryz.ntmps11
  go_wp2
  generalize w.alloc (.cells #[.int .u8 what, .int .u8 k, .string s, .int .u64 m] 29) = w1 at H0 ⊢
  generalize w.heap.size = g at H0 ⊢
  clear hc
  have b1 := H0.out.duo.at'.c1
  have b3 := H0.out.duo.at'.c3
  go_region_held3 (fun w' => w'.cell? ⟨x, 1, none⟩ = some p ∧ w'.cell? ⟨x, 3, none⟩ = some q)
    (first
      | go_keep
      | exact ⟨d1, d3⟩
      | exact ⟨e1, e3⟩)
    (first
      | (go_at_call 26
         refine ((H0.out.drew HL.out.M4).duo.clearP HL.out.MC).mono ?_
         rintro e w2 ⟨U1, rfl, h1⟩
         rw [HX.out] at h1 ⊢
         have H1 := Kept.mk h1
         have d1 := H1.out.at'.c1
         have d3 := H1.out.at'.c3
         clear h1)
      | (go_at_call 27
         refine (H1.out.clearR HL.out.M4).mono ?_
         rintro e w3 ⟨V1, rfl, h1⟩
         rw [HX.out] at h1 ⊢
         have H2 := Kept.mk h1
         have e1 := H2.out.at'.c1
         have e3 := H2.out.at'.c3
         clear h1))
  all_goals
    go_wp2
    go_ret
    exact ⟨rfl, U1, V1, p, q, _, _, H2.out.blind⟩

set_option maxHeartbeats 1000000 in
set_option maxRecDepth 100000 in
theorem does_append {K : World → Prop} {Dev : World → (Nat → Prop) → Value → Disk → Prop} {Pp : World → (Nat → Prop) → Value → Value → Disk → Jn.Jour → Prop} (w0 w : World) (L : Lore (K := K) (Dev := Dev) (Pp := Pp) w0) (x : Nat) (U V : Nat → Prop) (d p r q : Value) (D : Disk) (J : Jn.Jour)
    (h : Duo Pp w0.heap.size w0 w0 (fun _ => False) w x U V d p r q p q D J D J) (what k : Nat) (s : ByteArray) (m : Nat) (hs : s.size ≤ 1000000) (c : Int) (hc : (what : Int) % 8 = c) (h5 : (c == 5) = false) (h6 : (c == 6) = false) (h7 : (c == 7) = false) :
    Calls Tryz.prog 11 #[.pointer (some ⟨x, 0, none⟩), .agg #[.int .u8 what, .int .u8 k, .string s, .int .u64 m]] w fun e w' => e = .returned (.bool true) ∧ ∃ U' V' p' q' D' J', Duo Pp w0.heap.size w0 w0 (fun _ => False) w' x U' V' d p' r q' p' q' D' J' D' J' := by
  have H0 := Kept.mk (Doing.start h L.M4 29 what k s m)
  have HL := Kept.mk L
  have HS : Kept (s.size ≤ 9223372036854775807) := ⟨by omega⟩
  obtain ⟨y, hy⟩ : ∃ y, Jn.append D J (toL s) = y := ⟨_, rfl⟩
  obtain ⟨e0, X, I⟩ := y
  have HX := Kept.mk hy
  clear h L hs hy
  go_enter Tryz.func11, Tryz.ntmps11
  go_wp2
  generalize w.alloc (.cells #[.int .u8 what, .int .u8 k, .string s, .int .u64 m] 29) = w1 at H0 ⊢
  generalize w.heap.size = g at H0 ⊢
  clear hc h5 h6 h7
  have b1 := H0.out.duo.at'.c1
  have b3 := H0.out.duo.at'.c3
  have a2 := H0.out.here.c2
  go_region_held3 (fun w' => w'.cell? ⟨x, 1, none⟩ = some p ∧ w'.cell? ⟨x, 3, none⟩ = some q ∧ w'.cell? ⟨g, 2, none⟩ = some (.string s))
    (first
      | go_keep
      | exact ⟨d1, d3, d2⟩
      | exact ⟨e1, e3, e2⟩)
    (first
      | (go_at_call 20
         refine ((H0.out.drew HL.out.M4).duo.appendP HL.out.M4 HL.out.hK s HS.out).mono ?_
         rintro e w2 ⟨U1, rfl, h1⟩
         rw [HX.out] at h1 ⊢
         have H1 : Kept (Doing Pp w0 w1 w2 x g what k s m U1 V d p r q p q X I D J) := ⟨⟨h1, H0.out.act⟩⟩
         have d1 := H1.out.duo.at'.c1
         have d3 := H1.out.duo.at'.c3
         have d2 := H1.out.here.c2
         clear h1)
      | (go_at_call 21
         refine (H1.out.duo.appendR HL.out.M4 s HS.out).mono ?_
         rintro e w3 ⟨V1, rfl, h1⟩
         rw [HX.out] at h1 ⊢
         have H2 : Kept (Doing Pp w0 w1 w3 x g what k s m U1 V1 d p r q p q X I X I) := ⟨⟨h1, H0.out.act⟩⟩
         have e1 := H2.out.duo.at'.c1
         have e3 := H2.out.duo.at'.c3
         have e2 := H2.out.here.c2
         clear h1))
  all_goals
    go_wp2
    go_ret
    exact ⟨rfl, U1, V1, p, q, _, _, H2.out.duo.blind⟩
end Jr
end Go.Proofs.YtmkpkmkhnphogaaGreatDoor
