/-
  The program's journal: Append.
-/
import Derived.Test.YtmkpkmkhnphogaaGreatDoorPjrM
namespace Go.Proofs.YtmkpkmkhnphogaaGreatDoor
open Go.RowKit Go.Shelf Tx Dv
attribute [local go_sem] Oper.semAt_some
namespace Pj

theorem cell_new (W : World) (v : Value) (t : TypeId) : (W.alloc (.cells #[v] t)).cell? ⟨W.heap.size, 0, none⟩ = some v ∧ (W.alloc (.cells #[v] t)).frozen? ⟨W.heap.size, 0, none⟩ = false :=
  ⟨(cell_of_row _ _ 0 _ _ (0, 0) (heap_alloc_new W _)).trans rfl, frozen_of_row _ _ 0 _ _ (heap_alloc_new W _)⟩
/-- What Append leaves. -/
structure AppOut (Dev : World → (Nat → Prop) → Value → Disk → Prop) (U : Nat → Prop) (w w' : World) (b g : Nat) (d v v' : Value) (J : Jn.Jour) (X : Disk) : Prop where
  at' : Jr.JAt w' b g d v' J
  dev : ∃ B, Dev w' B d X ∧ (∀ k, B k → ¬ blocks g v' k) ∧ ∀ k, B k → U k ∨ w.heap.size ≤ k
  only : Only U w w'
  row : ∀ k, v'.ownBlock = some k → v.ownBlock = some k ∨ w.heap.size ≤ k
/-- Before the writes. -/
structure Pre (Dev : World → (Nat → Prop) → Value → Disk → Prop) (U : Nat → Prop) (w : World) (b g : Nat) (d v : Value) (J : Jn.Jour) (X : Disk) (W : World) : Prop where
  at' : Jr.JAt W b g d v J
  dev : ∃ B, Dev W B d X ∧ (∀ k, B k → ¬ blocks g v k) ∧ ∀ k, B k → U k
  box : W.cell? ⟨w.heap.size, 0, none⟩ = some (.pointer (some ⟨g, 0, none⟩))
  res : W.cell? ⟨w.heap.size + 1, 0, none⟩ = some (.int .i64 0)
  fz : W.frozen? ⟨w.heap.size + 1, 0, none⟩ = false
  below : Below w.heap.size w W
  size : w.heap.size + 2 ≤ W.heap.size
section
variable {Dev : World → (Nat → Prop) → Value → Disk → Prop} {U : Nat → Prop} {w W W' : World} {b g : Nat} {d v : Value} {J : Jn.Jour} {X : Disk}
theorem Pre.on (h : Pre Dev U w b g d v J X W) (M : Means Dev) (hb : Below W.heap.size W W') : Pre Dev U w b g d v J X W' := by
  obtain ⟨B, hd, h1, h2⟩ := h.dev
  have hs := Same.below hb
  have := h.size
  exact ⟨h.at'.below hb, ⟨B, Mbelow M hd hb, h1, h2⟩, hs.cell h.box, hs.cell h.res, (hs.frozen h.res).trans h.fz, h.below.trans (hb.mono (by omega)), Nat.le_trans h.size hb.size⟩
theorem Pre.size_any (h : Pre Dev U w b g d v J X W) (M : Means Dev) : Calls Tryz.prog 32 #[d] W fun e w' => e = .returned (.int .i64 X.S.length) ∧ Pre Dev U w b g d v J X w' := by
  obtain ⟨B, hd, _, _⟩ := h.dev
  refine (M.size hd).mono ?_
  rintro e w' ⟨rfl, hb⟩
  exact ⟨rfl, h.on M hb⟩
theorem Pre.full (h : Pre Dev U w b g d v J X W) (M : Means Dev) (hgU : ∀ k, blocks g v k → U k) (hult : ∀ k, U k → k < w.heap.size) (x : Value) : AppOut Dev U w (W.setCell ⟨w.heap.size + 1, 0, none⟩ x) b g d v v J X := by
  obtain ⟨B, hd, h1, h2⟩ := h.dev
  have hne : ∀ k, U k → k ≠ w.heap.size + 1 := fun k hk e => by have := hult k hk; omega
  have hz : (W.setCell ⟨w.heap.size + 1, 0, none⟩ x).heap.size = W.heap.size := by simp only [World.setCell, Array.size_modify]
  have hk : ∀ k, k ≠ w.heap.size + 1 → (W.setCell ⟨w.heap.size + 1, 0, none⟩ x).heap[k]? = W.heap[k]? := fun k hk => heap_setCell_other _ _ _ _ hk
  exact ⟨h.at'.keep (hk g (hne g (hgU g (.inl rfl)))) (fun k e => hk k (hne k (hgU k (.inr e)))) (by rw [hz]; exact Nat.le_refl _),
    ⟨B, M.keep hd (fun k hk2 => hk k (hne k (h2 k hk2))) (by rw [hz]; exact Nat.le_refl _), h1, fun k hb => .inl (h2 k hb)⟩,
    ((Only.refl U w).below h.below).setCell _ _ (fun hlt => by have e : w.heap.size + 1 < w.heap.size := hlt; omega), fun _ e => .inl e⟩
theorem Pre.start {B : Nat → Prop} (M : Means Dev) (hat : Jr.JAt w b g d v J) (hd : Dev w B d X) (h1 : ∀ k, B k → ¬ blocks g v k) (h2 : ∀ k, B k → U k) (t t2 : TypeId) :
    Pre Dev U w b g d v J X ((w.alloc (.cells #[.pointer (some ⟨g, 0, none⟩)] t)).alloc (.cells #[.int .i64 0] t2)) := by
  have hb : Below w.heap.size w ((w.alloc (.cells #[.pointer (some ⟨g, 0, none⟩)] t)).alloc (.cells #[.int .i64 0] t2)) := ((Below.refl _ _).alloc (Nat.le_refl _) _).alloc (by simp) _
  have c0 := cell_new w (.pointer (some ⟨g, 0, none⟩)) t
  have c1 := cell_new (w.alloc (.cells #[.pointer (some ⟨g, 0, none⟩)] t)) (.int .i64 0) t2
  rw [World.size_alloc] at c1
  exact ⟨hat.below hb, ⟨B, Mbelow M hd hb, h1, h2⟩, (Same.below ((Below.refl _ _).alloc (Nat.le_refl _) _)).cell c0.1, c1.1, c1.2, hb, by simp⟩
end

/-- Behind the writes. -/
structure Fin (Dev : World → (Nat → Prop) → Value → Disk → Prop) (U : Nat → Prop) (w w1 : World) (b g : Nat) (d v v' : Value) (J : Jn.Jour) (X : Disk) (W : World) : Prop where
  at' : Jr.JAt W b g d v' J
  dev : ∃ B, Dev W B d X ∧ (∀ k, B k → ¬ blocks g v' k) ∧ ∀ k, B k → U k ∨ w1.heap.size ≤ k
  only : Only U w W
  row : ∀ k, v'.ownBlock = some k → v.ownBlock = some k ∨ w1.heap.size ≤ k
section
variable {Dev : World → (Nat → Prop) → Value → Disk → Prop} {U : Nat → Prop} {w w1 W W' : World} {rb b g : Nat} {d v v' : Value} {J J' : Jn.Jour} {X : Disk}
theorem RIn.fin (h : RIn Dev U w w1 rb b g d v J X W) : Fin Dev U w w1 b g d v v J X W := ⟨h.at', h.dev, h.only, fun _ e => .inl e⟩
theorem RIn.added (h : RIn Dev U w w1 rb b g d v J X W) (u : RUp U w w1 rb g v) (M : Means Dev) (ha : Added W W' b g d v v' J') : Fin Dev U w w1 b g d v v' J' X W' := by
  obtain ⟨B, hd, h1, h2⟩ := h.dev
  refine ⟨ha.at', ⟨B, M.keep hd (fun k hk => ha.only.block k (M.lt hd k hk) (h1 k hk)) ha.only.size, fun k hk hb => ?_, h2⟩, h.only.trans ha.only (fun k _ hb => u.own k hb), fun k e => ?_⟩
  · rcases hb with hb | hb
    · exact h1 k hk (.inl hb)
    · rcases ha.row k hb with h3 | h3
      · exact h1 k hk (.inr h3)
      · have := M.lt hd k hk; omega
  · rcases ha.row k e with h3 | h3
    · exact .inl h3
    · have := h.big; exact .inr (by omega)
theorem Fin.setRes (h : Fin Dev U w w1 b g d v v' J X W) (u : RUp U w w1 rb g v) (M : Means Dev) (x : Value) : Fin Dev U w w1 b g d v v' J X (W.setCell ⟨rb, 0, none⟩ x) := by
  obtain ⟨B, hd, ha, hB⟩ := h.dev
  have hne : ∀ k, U k → k ≠ rb := fun k hk e => by have := u.ult k hk; have := u.rb0; omega
  have hz : (W.setCell ⟨rb, 0, none⟩ x).heap.size = W.heap.size := by simp only [World.setCell, Array.size_modify]
  have hk : ∀ k, k ≠ rb → (W.setCell ⟨rb, 0, none⟩ x).heap[k]? = W.heap[k]? := fun k hk => heap_setCell_other _ _ _ _ hk
  refine ⟨h.at'.keep (hk g (hne g (u.own g (.inl rfl)))) (fun k e => hk k (fun e2 => ?_)) (by rw [hz]; exact Nat.le_refl _),
    ⟨B, M.keep hd (fun k hk2 => hk k (fun e => ?_)) (by rw [hz]; exact Nat.le_refl _), ha, hB⟩, h.only.setCell _ _ (fun hlt => ?_), h.row⟩
  · rcases h.row k e with h1 | h1
    · exact hne k (u.own k (.inr h1)) e2
    · have := u.rb1; omega
  · rcases hB k hk2 with h1 | h1
    · exact hne k h1 e
    · have := u.rb1; omega
  · have : rb < w.heap.size := hlt
    have := u.rb0
    omega
theorem Fin.put (h : Fin Dev U w w1 b g d v v' J X W) (u : RUp U w w1 rb g v) (M : Means Dev) (MC : InCells Dev) {l : Nat} {o : Obj} (o' : Obj) (hl : w1.heap.size ≤ l) (ho : W.heap[l]? = some o) (hc : o.isCells = false) : Fin Dev U w w1 b g d v v' J X (W.putObj l o') := by
  have hg := grownBy_putObj' W l o'
  have hs : Same W (W.putObj l o') := Same.grown hg (fun r e => by cases e; exact ⟨o, ho, hc⟩)
  obtain ⟨B, hd, ha, hB⟩ := h.dev
  exact ⟨hs.jat h.at', ⟨B, hs.dev M MC hd, ha, hB⟩, h.only.grown hg (fun k hk hlt => by cases hk; have := u.le; omega), h.row⟩
theorem Fin.out (h : Fin Dev U w w1 b g d v v' J X W) (u : RUp U w w1 rb g v) : AppOut Dev U w W b g d v v' J X := by
  have := u.le
  obtain ⟨B, hd, ha, hB⟩ := h.dev
  exact ⟨h.at', ⟨B, hd, ha, fun k hk => (hB k hk).imp id (fun h => by omega)⟩, h.only, fun k hk => (h.row k hk).imp id (fun h => by omega)⟩

/-- Between two rounds. -/
structure Inv (Dev : World → (Nat → Prop) → Value → Disk → Prop) (U : Nat → Prop) (w w1 : World) (rb b g : Nat) (d v : Value) (J : Jn.Jour) (D : Disk) (pre : List (Nat × List UInt8)) (W : World) : Prop where
  ok : (Jn.wr D (pre.map cl)).1 = 0
  r : RIn Dev U w w1 rb b g d v J (Jn.wr D (pre.map cl)).2 W
  res : W.cell? ⟨rb, 0, none⟩ = some (.int .i64 0)
  fz : W.frozen? ⟨rb, 0, none⟩ = false
/-- Where a write failed. -/
structure InvX (Dev : World → (Nat → Prop) → Value → Disk → Prop) (U : Nat → Prop) (w w1 : World) (rb b g : Nat) (d v : Value) (J : Jn.Jour) (D : Disk) (c : Code) (pre : List (Nat × List UInt8)) (W : World) : Prop where
  c : c = .ret
  bad : (Jn.wr D (pre.map cl)).1 ≠ 0
  r : RIn Dev U w w1 rb b g d v J (Jn.wr D (pre.map cl)).2 W
  res : W.cell? ⟨rb, 0, none⟩ = some (.int .i64 (Jn.wr D (pre.map cl)).1)
theorem inv_own (u : RUp U w w1 rb g v) (M : Means Dev) (MC : InCells Dev) (D : Disk) : OwnFrom w1.heap.size (Inv Dev U w w1 rb b g d v J D) := fun _ _ _ _ hs hg hr =>
  ⟨hs.ok, hs.r.grown u M MC hg hr, cell_kept hs.res hg (fun r e => (hr r e).2), (frozen_kept hs.res hg (fun r e => (hr r e).2)).trans hs.fz⟩
theorem invx_own (u : RUp U w w1 rb g v) (M : Means Dev) (MC : InCells Dev) (D : Disk) (c : Code) : OwnFrom w1.heap.size (InvX Dev U w w1 rb b g d v J D c) := fun _ _ _ _ hs hg hr =>
  ⟨hs.c, hs.bad, hs.r.grown u M MC hg hr, cell_kept hs.res hg (fun r e => (hr r e).2)⟩
theorem wr_round {D : Disk} {pre : List (Nat × List UInt8)} {x : Nat × List UInt8} (h : (Jn.wr D (pre.map cl)).1 = 0) : Jn.wr D ((pre ++ [x]).map cl) = (Jn.wr D (pre.map cl)).2.write (cl x).1 (cl x).2 := by
  rw [List.map_append, List.map_cons, List.map_nil, Jn.wr_append, if_pos h]
  rw [Jn.wr]
  split
  · rename_i h
    rw [Jn.wr]
    exact Prod.ext h.symm rfl
  · rfl
theorem map_cl : ∀ {l : List (Nat × List UInt8)}, (∀ x ∈ l, cl x = x) → l.map cl = l
  | [], _ => rfl
  | x :: l, h => by rw [List.map_cons, h x (by simp), map_cl (fun y hy => h y (by simp [hy]))]
theorem plan_cl {D : Disk} {n a : Nat} {s : List UInt8} (hn : n < 1000000000) (hs : s.length ≤ 100000) (hr : a + 1 + Jn.count s.length ≤ D.S.length) (hz : D.S.length ≤ 4096) {pre : List (Nat × List UInt8)} (h : pre <+: Jn.plan D n a s) : pre.map cl = pre := by
  exact map_cl fun x hx => by
    have := Jn.plan_fits hn hs hr (h.subset hx)
    exact cl_id (by omega) (by omega)
end

section
variable {Dev : World → (Nat → Prop) → Value → Disk → Prop} (M : Means Dev) (MC : InCells Dev) (U B : Nat → Prop) (w : World) (b g : Nat) (A : Option Addr) (m : Nat) (dp : Addr) (D : Disk) (L : List (List UInt8)) (a : Nat) (s : ByteArray)
  (hat : Jr.JAt w b g (.pointer (some dp)) (.slice A L.length m) ⟨L, a⟩) (hdev : Dev w B (.pointer (some dp)) D) (hap : ∀ k, B k → ¬ blocks g (.slice A L.length m) k) (hBU : ∀ k, B k → U k) (hgU : ∀ k, blocks g (.slice A L.length m) k → U k) (hult : ∀ k, U k → k < w.heap.size)
include M MC hat hdev hap hBU hgU hult

omit MC in
set_option maxHeartbeats 2000000 in
set_option maxRecDepth 100000 in
theorem append_full (hs : s.size ≤ 100000) (n Z : Nat) (hn : Jn.count s.size = n) (hZ : D.S.length = Z) (hr : Z < a + 1 + n) (ha : a ≤ 4096) :
    Calls Tryz.prog 20 #[.pointer (some ⟨g, 0, none⟩), .string s] w fun e w' => e = .returned (.int .i64 12) ∧ AppOut Dev U w w' b g (.pointer (some dp)) (.slice A L.length m) (.slice A L.length m) ⟨L, a⟩ D := by
  have H0 := Kept.mk (Pre.start M hat hdev hap hBU 34 42)
  have hZ4 : Z ≤ 4096 := by rw [← hZ]; exact (M.ok hdev).1.few
  have hn2 : n ≤ 2000 := by rw [← hn]; unfold Jn.count; omega
  have HC : Kept (∀ w, Calls Tryz.prog 42 #[.int .i64 s.size] w fun e w' => e = .returned (.int .i64 (1 + (n : Int))) ∧ w' = w) := ⟨fun w => by have := sectorsOf_any s.size w (by omega); rw [hn] at this; exact this⟩
  have HZ := Kept.mk hZ
  have z1 : ¬ (100000 : Int) < s.size := by omega
  have y1 : (a : Int) + (1 + (n : Int)) = (a : Int) + 1 + n := by omega
  have y2 : IntKind.i64.wrap ((a : Int) + 1 + (n : Int)) = (a : Int) + 1 + n := IntWalk.i64_in _ (by omega)
  have y3 : IntKind.i64.wrap ((a : Int) + (1 + (n : Int))) = (a : Int) + 1 + n := (IntWalk.i64_in _ (by omega)).trans y1
  have z2 : (Z : Int) < (a : Int) + 1 + n := by omega
  clear hat hdev hn hZ hs
  go_enter Tryz.func20, Tryz.ntmps20
  go_wp2
  generalize (w.alloc (.cells #[.pointer (some ⟨g, 0, none⟩)] 34)).alloc (.cells #[.int .i64 0] 42) = wA at *
  have HD := Kept.mk (H0.out.on M (Below.refl _ _).drew)
  have c0 := HD.out.box
  have c1 := HD.out.at'.c0
  have c2 := HD.out.at'.c2
  go_region_held3 (fun w' => w'.cell? ⟨w.heap.size, 0, none⟩ = some (.pointer (some ⟨g, 0, none⟩)) ∧ w'.cell? ⟨g, 0, none⟩ = some (.pointer (some dp)) ∧ w'.cell? ⟨g, 2, none⟩ = some (.int .i64 a))
    (first
      | go_keep
      | exact ⟨c0, c1, c2⟩
      | exact ⟨d0, d1, d2⟩)
    (first
      | (go_at_call 42
         refine (HC.out _).mono ?_
         rintro e w3 ⟨rfl, hw⟩
         obtain rfl := hw.symm)
      | (go_at_call 32
         refine (HD.out.size_any M).mono ?_
         rw [HZ.out]
         rintro e w4 ⟨rfl, h4⟩
         have H4 := Kept.mk h4
         have d0 := H4.out.box
         have d1 := H4.out.at'.c0
         have d2 := H4.out.at'.c2
         clear h4))
  clear c0 c1 c2
  have r0 := H4.out.res
  have r1 := H4.out.fz
  go_wp2
  refine bodyPost_ret (res_cell _ _ ⟨w.heap.size + 1, 0, none⟩ (.int .i64 12) rfl (World.cell?_setCell_same _ _ _ r0)) rfl ?_
  exact ⟨rfl, H4.out.full M hgU hult _⟩

set_option maxHeartbeats 4000000 in
set_option maxRecDepth 100000 in
theorem append_main (hK : ∀ W, Only U w W → JK W) (hs : s.size ≤ 100000) (n Z : Nat) (hn : Jn.count s.size = n) (hZ : D.S.length = Z) (hr : a + 1 + n ≤ Z) (hla : L.length ≤ a) :
    Calls Tryz.prog 20 #[.pointer (some ⟨g, 0, none⟩), .string s] w fun e w' => e = .returned (.int .i64 (Jn.append D ⟨L, a⟩ (toL s)).1) ∧ ∃ v', AppOut Dev U w w' b g (.pointer (some dp)) (.slice A L.length m) v' (Jn.append D ⟨L, a⟩ (toL s)).2.2 (Jn.append D ⟨L, a⟩ (toL s)).2.1 := by
  have H0 := Kept.mk (Pre.start M hat hdev hap hBU 34 42)
  have hZ4 : Z ≤ 4096 := by rw [← hZ]; exact (M.ok hdev).1.few
  have hn2 : n ≤ 2000 := by rw [← hn]; unfold Jn.count; omega
  have HC : Kept (∀ w, Calls Tryz.prog 42 #[.int .i64 s.size] w fun e w' => e = .returned (.int .i64 (1 + (n : Int))) ∧ w' = w) := ⟨fun w => by have := sectorsOf_any s.size w (by omega); rw [hn] at this; exact this⟩
  have HZ := Kept.mk hZ
  have HN := Kept.mk hn
  have HS := Kept.mk hs
  have HK := Kept.mk hK
  have HU := Kept.mk (And.intro hgU hult)
  have z1 : ¬ (100000 : Int) < s.size := by omega
  have y1 : (a : Int) + (1 + (n : Int)) = (a : Int) + 1 + n := by omega
  have y2 : IntKind.i64.wrap ((a : Int) + 1 + (n : Int)) = (a : Int) + 1 + n := IntWalk.i64_in _ (by omega)
  have y3 : IntKind.i64.wrap ((a : Int) + (1 + (n : Int))) = (a : Int) + 1 + n := (IntWalk.i64_in _ (by omega)).trans y1
  have z2 : ¬ (Z : Int) < (a : Int) + 1 + n := by omega
  clear hat hdev hn hZ hs hK hap hBU hgU hult
  refine (callsIn_wide (n := 5)).1 ?_
  refine callsIn_of_wp_marks Tryz.func20 rfl trivial ?_ rfl
  simp only [Tryz.ntmps20, List.size_toArray, List.length_cons, List.length_nil, Nat.reduceAdd, Nat.reduceSub, Array.replicate_succ, Array.replicate_zero, List.push_toArray, List.append_toArray, List.nil_append, List.cons_append]
  gi_wp2
  generalize (w.alloc (.cells #[.pointer (some ⟨g, 0, none⟩)] 34)).alloc (.cells #[.int .i64 0] 42) = wA at *
  have HD := Kept.mk (H0.out.on M (Below.refl _ _).drew)
  have c0 := HD.out.box
  have c1 := HD.out.at'.c0
  have c2 := HD.out.at'.c2
  refine wpIn_wide.2 ?_
  go_region_held3 (fun w' => w'.cell? ⟨w.heap.size, 0, none⟩ = some (.pointer (some ⟨g, 0, none⟩)) ∧ w'.cell? ⟨g, 0, none⟩ = some (.pointer (some dp)) ∧ w'.cell? ⟨g, 2, none⟩ = some (.int .i64 a))
    (first
      | go_keep
      | exact ⟨c0, c1, c2⟩
      | exact ⟨d0, d1, d2⟩)
    (first
      | (go_at_call 42
         refine (HC.out _).mono ?_
         rintro e w3 ⟨rfl, hw⟩
         obtain rfl := hw.symm)
      | (go_at_call 32
         refine (HD.out.size_any M).mono ?_
         rw [HZ.out]
         rintro e w4 ⟨rfl, h4⟩
         have H4 := Kept.mk h4
         have d0 := H4.out.box
         have d1 := H4.out.at'.c0
         have d2 := H4.out.at'.c2
         clear h4))
  clear c0 c1 c2 d1 d2
  gi_wp2_with (refine ⟨trivial, ?_⟩
               gi_at_call 43
               refine (callsIn_wide.2 (writes_any _ g s)).mono ?_
               rintro e w5 ⟨rfl, rfl⟩)
  have P1 := H4.out.on M (((Below.refl w4.heap.size w4).alloc (Nat.le_refl _) (.cells #[.pointer (some ⟨g, 0, none⟩)] 34)).alloc (by simp) (.cells #[.string s] 9))
  have k1 := (Same.below ((Below.refl _ _).alloc (Nat.le_refl _) (.cells #[.string s] 9))).cell (cell_new w4 (.pointer (some ⟨g, 0, none⟩)) 34).1
  have k2 := (cell_new (w4.alloc (.cells #[.pointer (some ⟨g, 0, none⟩)] 34)) (.string s) 9).1
  have k3 : ((w4.alloc (.cells #[.pointer (some ⟨g, 0, none⟩)] 34)).alloc (.cells #[.string s] 9)).heap.size = w4.heap.size + 2 := by simp
  rw [World.size_alloc] at k2
  generalize (w4.alloc (.cells #[.pointer (some ⟨g, 0, none⟩)] 34)).alloc (.cells #[.string s] 9) = w1 at *
  have hsz4 := H4.out.size
  have u : RUp U w w1 (w.heap.size + 1) g (.slice A L.length m) := ⟨HU.out.2, HU.out.1, by omega, by omega, by omega⟩
  have R0 : RIn Dev U w w1 (w.heap.size + 1) b g (.pointer (some dp)) (.slice A L.length m) ⟨L, a⟩ D w1 := by
    obtain ⟨B1, hd1, h1, h2⟩ := P1.dev
    exact ⟨P1.at', ⟨B1, hd1, h1, fun k hk => .inl (h2 k hk)⟩, (Only.refl U w).below P1.below, Nat.le_refl _, fun _ _ _ _ => rfl⟩
  have hki : ∀ {W : World} {X : Disk}, X.S.length = Z → RIn Dev U w w1 (w.heap.size + 1) b g (.pointer (some dp)) (.slice A L.length m) ⟨L, a⟩ X W → KI Dev b g w4.heap.size (w4.heap.size + 1) (.pointer (some dp)) (.slice A L.length m) ⟨L, a⟩ Z s W := fun hX h =>
    h.ki u HK.out hX (by omega) (by omega) (by omega) (by omega) (by omega) (by omega) k1 k2
  refine wpIn_rangeFunc_ownG rfl (by omega) (gf := 52) (lb := #[.pointer (some ⟨w4.heap.size, 0, none⟩), .pointer (some ⟨w4.heap.size + 1, 0, none⟩)]) rfl trivial (enters_of Tryz.func52 (by kernel_rfl) rfl)
    (writes_stops M MC (5 - 1) D b g w4.heap.size (w4.heap.size + 1) dp A m L a Z n s HZ.out HN.out HS.out hr hZ4 hla (by omega) w1 (hki HZ.out R0)) (fun h k x => k (h x))
    (fun W l o o' _ hl hc _ h => h.same M MC (Same.grown (grownBy_putObj' W l o') (fun r e => by cases e; exact ⟨o, hl, hc⟩))) (Below.refl _ _) (fun _ => rfl)
    (Inv Dev U w w1 (w.heap.size + 1) b g (.pointer (some dp)) (.slice A L.length m) ⟨L, a⟩ D) (InvX Dev U w w1 (w.heap.size + 1) b g (.pointer (some dp)) (.slice A L.length m) ⟨L, a⟩ D) (inv_own u M MC D) (invx_own u M MC D)
    ⟨rfl, R0, P1.res, P1.fz⟩
    (fun x => { tmps := #[.pointer (some ⟨g, 0, none⟩), .string s, .pointer (some ⟨w.heap.size, 0, none⟩), undef, .pointer (some ⟨w.heap.size + 1, 0, none⟩), .int .i64 (cl x).1, .string (bs (cl x).2), undef, .string s, .int .i64 s.size, .bool false, .pointer (some ⟨g, 0, none⟩), .pointer (some ⟨g, 0, none⟩), .pointer (some ⟨g, 2, none⟩), .int .i64 a, .string s, .int .i64 s.size, .int .i64 (1 + n), .int .i64 (a + 1 + n), .pointer (some ⟨g, 0, none⟩), .pointer (some ⟨g, 0, none⟩), .pointer (some ⟨g, 0, none⟩), .pointer (some dp), .int .i64 Z, .bool (decide ((Z : Int) < a + 1 + n)), .pointer (some ⟨g, 0, none⟩), .string s, .func (.func 52) #[] #[.pointer (some ⟨w4.heap.size, 0, none⟩), .pointer (some ⟨w4.heap.size + 1, 0, none⟩)], .int .i64 (cl x).1, .string (bs (cl x).2), undef, undef, undef, undef, undef, undef, undef, undef, undef, undef, undef, undef, undef], defers := [] }) ?assign ?body ?done ?stop
  case assign =>
    intro l x W K hK
    unfold encs
    gi_wp2
    exact hK
  case body =>
    rintro l pre x W hI _
    have HI := Kept.mk hI
    have c0 : W.cell? ⟨w.heap.size, 0, none⟩ = some (.pointer (some ⟨g, 0, none⟩)) := (World.cell?_of_block (w := w1) (a := ⟨w.heap.size, 0, none⟩) (hI.r.same w.heap.size (Nat.le_refl _) (by omega) (by omega))).trans P1.box
    have g0 := hI.r.at'.c0
    have hx1 : (cl x).1 ≤ 1000000 := by unfold cl; exact Nat.min_le_right _ _
    have hx2 : (bs (cl x).2).size ≤ 1000000 := by rw [bs_size]; unfold cl; simp only [List.length_take]; omega
    have hW := hI.r.write u M MC (cl x).1 (bs (cl x).2) hx1 hx2
    rw [toL_bs, ← wr_round hI.ok] at hW
    obtain ⟨E, hE⟩ : ∃ E, (Jn.wr D ((pre ++ [x]).map cl)).1 = E := ⟨_, rfl⟩
    rw [hE] at hW
    have HW := Kept.mk hW
    have HE := Kept.mk hE
    have hlen : (Jn.wr D ((pre ++ [x]).map cl)).2.S.length = Z := (Jn.wr_length _ _).trans HZ.out
    have HL := Kept.mk hlen
    clear hI hW hE hlen hx1 hx2
    by_cases h0 : E = 0
    · have q0 : (E == 0) = true := by simpa using h0
      have q1 : (E != 0) = false := by simpa using h0
      have H0E := Kept.mk h0
      clear h0
      gi_wp2_with (refine ⟨trivial, ?_⟩
                   gi_at_call 16
                   refine (CallsIn.inRound l (callsIn_wide.2 HW.out)).mono ?_
                   rintro e W2 ⟨rfl, hr2, hk2, hc2, hf2⟩
                   have H2 := Kept.mk (And.intro hr2 (And.intro hk2 (And.intro hc2 hf2)))
                   clear hr2 hk2 hc2 hf2)
      exact ⟨H2.out.2.1, fun _ => hki HL.out H2.out.1, ⟨by rw [HE.out, H0E.out], H2.out.1, H2.out.2.2.1.trans HI.out.res, H2.out.2.2.2.trans HI.out.fz⟩⟩
    · have q0 : (E == 0) = false := by simpa using h0
      have q1 : (E != 0) = true := by simpa using h0
      have H0E := Kept.mk h0
      clear h0
      gi_wp2_with (refine ⟨trivial, ?_⟩
                   gi_at_call 16
                   refine (CallsIn.inRound l (callsIn_wide.2 HW.out)).mono ?_
                   rintro e W2 ⟨rfl, hr2, hk2, hc2, hf2⟩
                   have H2 := Kept.mk (And.intro hr2 hk2)
                   have r0 := hc2.trans HI.out.res
                   have r1 := hf2.trans HI.out.fz
                   clear hr2 hk2 hc2 hf2)
      exact ⟨H2.out.2.trans ((KeepsOthers.setCell _ _ _).from _), ⟨rfl, by rw [HE.out]; exact H0E.out, H2.out.1.setRes u M _, by rw [HE.out]; exact World.cell?_setCell_same _ _ _ r0⟩⟩
  case done =>
    rintro D9 xs W hD9 rfl hI hK9
    have hcl := plan_cl (D := D) (n := L.length) (a := a) (s := toL s) (by omega) (by rw [toL_length]; exact HS.out) (by rw [toL_length, HN.out, HZ.out]; exact hr) (by rw [HZ.out]; exact hZ4) (List.prefix_refl _)
    obtain ⟨ho, hR, hres, hfz⟩ := hI
    rw [hcl] at ho hR
    have HApp : Kept (Jn.append D ⟨L, a⟩ (toL s) = (0, (Jn.wr D (Jn.plan D L.length a (toL s))).2, ⟨L ++ [toL s], a + 1 + Jn.count s.size⟩)) := ⟨by
      unfold Jn.append
      rw [toL_length, HN.out, HZ.out, if_neg (by have := HS.out; omega), if_neg (by simp only; omega), if_pos ho]⟩
    have c0 : W.cell? ⟨w.heap.size, 0, none⟩ = some (.pointer (some ⟨g, 0, none⟩)) := (World.cell?_of_block (w := w1) (a := ⟨w.heap.size, 0, none⟩) (hR.same w.heap.size (Nat.le_refl _) (by omega) (by omega))).trans P1.box
    have HAdd := Kept.mk (add_any W b g (.pointer (some dp)) A m L a hR.at' s HS.out (by omega) (by rw [HN.out]; omega))
    have HR := Kept.mk hR
    have HRes := Kept.mk (And.intro hres hfz)
    have hDl : D9 < W.heap.size := (Array.getElem?_eq_some_iff.1 hK9).1
    clear hres hfz ho hcl hR
    gi_wp2_with (refine ⟨trivial, ?_⟩
                 gi_at_call 39
                 go_loud (
                 refine (callsIn_wide.2 HAdd.out).mono ?_
                 rintro e W2 ⟨rfl, v', ha⟩
                 have HF := Kept.mk (HR.out.added u M ha)
                 have hrb : ¬ blocks g (.slice A L.length m) (w.heap.size + 1) := fun hb => by have := u.ult _ (u.own _ hb); omega
                 have hD : ¬ blocks g (.slice A L.length m) D9 := fun hb => by have := u.ult _ (u.own _ hb); omega
                 have r0 := (World.cell?_of_block (w := W) (a := ⟨w.heap.size + 1, 0, none⟩) (ha.only.block (w.heap.size + 1) (by have := HR.out.big; omega) hrb)).trans HRes.out.1
                 have r1 := (World.frozen?_of_block (w := W) (a := ⟨w.heap.size + 1, 0, none⟩) (ha.only.block (w.heap.size + 1) (by have := HR.out.big; omega) hrb)).trans HRes.out.2
                 have hK2 := (ha.only.block D9 hDl hD).trans hK9
                 clear ha hrb hD))
    have hK3 := (KeepsOthers.setCell W2 ⟨w.heap.size + 1, 0, none⟩ (.int .i64 0)).same D9 _ hK2 rfl
    refine ⟨by simp, .inl ⟨_, _, rfl, run_takeDeferred hK3, ?_⟩⟩
    have hc := cell_kept (World.cell?_setCell_same W2 ⟨w.heap.size + 1, 0, none⟩ (.int .i64 0) r0) (grownBy_putObj' _ D9 (.deferred none)) (fun r e => by cases e; exact ⟨_, hK3, rfl⟩)
    exact ⟨_, res_cell _ _ _ _ rfl hc, by rw [HApp.out], v', by rw [HApp.out]; exact ((HF.out.setRes u M _).put u M MC _ hD9 hK3 rfl).out u⟩
  case stop =>
    rintro D9 c pre W hD9 hpre ⟨rfl, hbad, hR, hres⟩ hK9
    have hcl := plan_cl (D := D) (n := L.length) (a := a) (s := toL s) (by omega) (by rw [toL_length]; exact HS.out) (by rw [toL_length, HN.out, HZ.out]; exact hr) (by rw [HZ.out]; exact hZ4) hpre
    rw [hcl] at hbad hR hres
    have hwr : Jn.wr D (Jn.plan D L.length a (toL s)) = Jn.wr D pre := by
      obtain ⟨r, hr⟩ := hpre
      rw [← hr, Jn.wr_append, if_neg hbad]
    have HApp : Kept (Jn.append D ⟨L, a⟩ (toL s) = ((Jn.wr D pre).1, (Jn.wr D pre).2, ⟨L, a⟩)) := ⟨by
      unfold Jn.append
      rw [toL_length, HN.out, HZ.out, if_neg (by have := HS.out; omega), if_neg (by simp only; omega)]
      simp only
      rw [hwr, if_neg hbad]⟩
    have HR := Kept.mk hR
    clear hbad hR hcl hwr
    gi_wp2
    refine ⟨by simp, .inl ⟨_, _, rfl, run_takeDeferred hK9, ?_⟩⟩
    have hc := cell_kept hres (grownBy_putObj' _ D9 (.deferred none)) (fun r e => by cases e; exact ⟨_, hK9, rfl⟩)
    exact ⟨_, res_cell _ _ _ _ rfl hc, by rw [HApp.out], _, by rw [HApp.out]; exact (HR.out.fin.put u M MC _ hD9 hK9 rfl).out u⟩
end
end Pj
end Go.Proofs.YtmkpkmkhnphogaaGreatDoor
