/-
  The program's journal: the writes of a record, as an iterator hands them over.
-/
import Derived.Test.YtmkpkmkhnphogaaGreatDoorGjp
import Derived.RangeFuncNested
import Derived.RangeFuncBound
import Derived.RangeFuncCalls
import Derived.RangeFuncLeaves
import Derived.Shelf.Abstract
import Derived.Shelf.RegionOpen
import Derived.WalkKit
import Derived.OwnWalkIn
import Derived.TacticsInMore
import Derived.LoopNIn
import Derived.LoopIn
import Derived.Test.YtmkpkmkhnphogaaGreatDoorStillInM
namespace Go.Proofs.YtmkpkmkhnphogaaGreatDoor
open Go.RowKit Go.Shelf Tx Dv
attribute [local go_sem] Oper.semAt_some
namespace Pj

/-- What a step of no cells leaves. -/
structure Same (w w' : World) : Prop where
  size : w.heap.size ≤ w'.heap.size
  cells : ∀ (k : Nat) (o : Obj), w.heap[k]? = some o → o.isCells = true → w'.heap[k]? = w.heap[k]?
theorem Same.grown {W W' : World} {row : Option Nat} (hg : W.grownBy W' row) (hr : ∀ r, row = some r → ∃ o : Obj, W.heap[r]? = some o ∧ o.isCells = false) : Same W W' := ⟨hg.size, fun _ _ hk hc => grownBy_keeps_cells hg hr hk hc⟩
theorem Same.below {W W' : World} (hb : Below W.heap.size W W') : Same W W' := ⟨hb.size, fun k _ hk _ => hb.block k (Array.getElem?_eq_some_iff.1 hk).1⟩
theorem Same.cell {W W' : World} (h : Same W W') {a : Addr} {v : Value} (hc : W.cell? a = some v) : W'.cell? a = some v := by
  obtain ⟨o, ho, hk⟩ := cells_of_cell hc
  exact (World.cell?_of_block (h.cells _ _ ho hk)).trans hc
theorem Same.frozen {W W' : World} (h : Same W W') {a : Addr} {v : Value} (hc : W.cell? a = some v) : W'.frozen? a = W.frozen? a := by
  obtain ⟨o, ho, hk⟩ := cells_of_cell hc
  exact World.frozen?_of_block (h.cells _ _ ho hk)
theorem Same.var {W W' : World} (h : Same W W') {n : String} {cs : Array Value} (hv : W.var? Tryz.prog n = some cs) : W'.var? Tryz.prog n = some cs := by
  unfold World.var? at hv ⊢
  cases hg : Tryz.prog.globalNamed n with
  | none => rw [hg] at hv; cases hv
  | some g =>
    rw [hg] at hv
    simp only [Option.bind_some] at hv ⊢
    cases ho : W.heap[g]? with
    | none => rw [ho] at hv; cases hv
    | some o =>
      have hc : o.isCells = true := by
        rw [ho] at hv
        cases o <;> simp_all [Obj.isCells]
      rw [h.cells g o ho hc]
      exact hv
theorem Same.jk {W W' : World} (h : Same W W') (hK : JK W) : JK W' := by
  obtain ⟨⟨h1, ⟨tp, p, h2⟩, m, h3⟩, ⟨h4, h5⟩, tp2, p2, h6⟩ := hK
  exact ⟨⟨h.var h1, ⟨tp, p, h.var h2⟩, m, h.cell h3⟩, ⟨Nat.lt_of_lt_of_le h4 h.size, fun i hi => h.cell (h5 i hi)⟩, tp2, p2, h.var h6⟩
theorem Same.es {α : Type} {c : α → Value} {W W' : World} (h : Same W W') {B : Nat} {v : Value} {l : List α} (he : Own.Es c W B v l) : Own.Es c W' B v l := by
  rcases he with ⟨rfl, rfl⟩ | ⟨g, cap, rfl, h1, h2, h3, h4, h5, h6⟩
  · exact Own.Es.nil _ _ _
  · have hs := h.size
    have hc : ∀ j, j < cap → W'.cell? ⟨g, j, none⟩ = W.cell? ⟨g, j, none⟩ ∧ W'.frozen? ⟨g, j, none⟩ = W.frozen? ⟨g, j, none⟩ := fun j hj => by
      obtain ⟨u, hu⟩ := Option.isSome_iff_exists.1 (h5 j hj).1
      exact ⟨(h.cell hu).trans hu.symm, h.frozen hu⟩
    refine .inr ⟨g, cap, rfl, h1, by omega, h3, h4, fun j hj => ?_, fun j u hu => h.cell (h6 j u hu)⟩
    rw [(hc j hj).1, (hc j hj).2]
    exact h5 j hj
theorem Same.jat {W W' : World} (h : Same W W') {b g : Nat} {d v : Value} {J : Jn.Jour} (hj : Jr.JAt W b g d v J) : Jr.JAt W' b g d v J :=
  ⟨Nat.lt_of_lt_of_le hj.lt h.size, hj.low, h.cell hj.c0, h.cell hj.c1, h.cell hj.c2, fun j hjj => by
    have : j = 0 ∨ j = 1 ∨ j = 2 := by omega
    rcases this with rfl | rfl | rfl
    · rw [h.frozen hj.c0]; exact hj.free 0 (by omega)
    · rw [h.frozen hj.c1]; exact hj.free 1 (by omega)
    · rw [h.frozen hj.c2]; exact hj.free 2 (by omega), h.es hj.es, hj.apart, hj.ptr, hj.few, hj.pos⟩

/-- A device that lies in cells. -/
def InCells (Dev : World → (Nat → Prop) → Value → Disk → Prop) : Prop := ∀ {w B p D}, Dev w B p D → ∀ k, B k → ∃ o : Obj, w.heap[k]? = some o ∧ o.isCells = true
theorem Same.dev {Dev : World → (Nat → Prop) → Value → Disk → Prop} (M : Means Dev) (MC : InCells Dev) {W W' : World} (h : Same W W') {B : Nat → Prop} {d : Value} {X : Disk} (hd : Dev W B d X) : Dev W' B d X :=
  M.keep hd (fun k hk => by obtain ⟨o, ho, hc⟩ := MC hd k hk; exact h.cells k o ho hc) h.size

/-- What the iterator reads. -/
structure KI (Dev : World → (Nat → Prop) → Value → Disk → Prop) (b g jb sb : Nat) (d v : Value) (J : Jn.Jour) (Z : Nat) (s : ByteArray) (W : World) : Prop where
  at' : Jr.JAt W b g d v J
  dev : ∃ B X, Dev W B d X ∧ X.S.length = Z
  box1 : W.cell? ⟨jb, 0, none⟩ = some (.pointer (some ⟨g, 0, none⟩))
  box2 : W.cell? ⟨sb, 0, none⟩ = some (.string s)
  jk : JK W
section
variable {Dev : World → (Nat → Prop) → Value → Disk → Prop} {b g jb sb : Nat} {d v : Value} {J : Jn.Jour} {Z : Nat} {s : ByteArray} {W W' : World}
theorem KI.same (h : KI Dev b g jb sb d v J Z s W) (M : Means Dev) (MC : InCells Dev) (hs : Same W W') : KI Dev b g jb sb d v J Z s W' := by
  obtain ⟨h1, ⟨B, X, h2, h3⟩, h4, h5, h6⟩ := h
  exact ⟨hs.jat h1, ⟨B, X, hs.dev M MC h2, h3⟩, hs.cell h4, hs.cell h5, hs.jk h6⟩
theorem KI.below (h : KI Dev b g jb sb d v J Z s W) (M : Means Dev) (MC : InCells Dev) (hb : Below W.heap.size W W') : KI Dev b g jb sb d v J Z s W' := h.same M MC (Same.below hb)
theorem KI.size_any (h : KI Dev b g jb sb d v J Z s W) (M : Means Dev) : Calls Tryz.prog 32 #[d] W fun e w' => e = .returned (.int .i64 Z) ∧ Below W.heap.size W w' := by
  obtain ⟨B, X, h2, h3⟩ := h.dev
  rw [← h3]
  exact M.size h2
end
/-- The iterator, between two rounds: the caller's word, and what it reads itself. -/
structure IIn (Dev : World → (Nat → Prop) → Value → Disk → Prop) (b g jb sb : Nat) (d v : Value) (Jo : Jn.Jour) (Z : Nat) (s : ByteArray) (B0 : Nat) (J : List (Nat × List UInt8) → World → Prop) (pre : List (Nat × List UInt8)) (W : World) : Prop where
  j : J pre W
  k : KI Dev b g jb sb d v Jo Z s W
section
variable {Dev : World → (Nat → Prop) → Value → Disk → Prop} {b g jb sb B0 : Nat} {d v : Value} {Jo : Jn.Jour} {Z : Nat} {s : ByteArray} {W W' : World} {J : List (Nat × List UInt8) → World → Prop} {pre : List (Nat × List UInt8)}
theorem grown_of_below (hb : Below W.heap.size W W') : W.grownBy W' none := ⟨hb.os, hb.tape, hb.output, hb.size, fun k hk _ => hb.block k hk⟩
theorem IIn.below (h : IIn Dev b g jb sb d v Jo Z s B0 J pre W) (M : Means Dev) (MC : InCells Dev) (hJ : AbidesFrom B0 J) (hb : Below W.heap.size W W') : IIn Dev b g jb sb d v Jo Z s B0 J pre W' :=
  ⟨hJ pre W W' none h.j (grown_of_below hb) (fun r e => by cases e), h.k.below M MC hb⟩
theorem IIn.again (h : IIn Dev b g jb sb d v Jo Z s B0 J pre W) (M : Means Dev) (MC : InCells Dev) (hJ : AbidesFrom B0 J) {P : World → Prop} (k : ∀ W2, IIn Dev b g jb sb d v Jo Z s B0 J pre W2 → P W2) : P W.drew := k _ (h.below M MC hJ (Below.refl _ _).drew)
end
/-- A write that was handed over, within bounds. -/
def cl (x : Nat × List UInt8) : Nat × List UInt8 := (min x.1 1000000, x.2.take 1000000)
theorem cl_id {x : Nat × List UInt8} (h1 : x.1 ≤ 1000000) (h2 : x.2.length ≤ 1000000) : cl x = x := by
  unfold cl
  rw [Nat.min_eq_left h1, List.take_of_length_le h2]
def encs (x : Nat × List UInt8) : Array Value := #[.int .i64 (cl x).1, .string (bs (cl x).2)]
theorem encs_id {k : Nat} {t : List UInt8} (h1 : k ≤ 1000000) (h2 : t.length ≤ 1000000) : encs (k, t) = #[.int .i64 k, .string (bs t)] := by unfold encs; rw [cl_id h1 h2]
end Pj
end Go.Proofs.YtmkpkmkhnphogaaGreatDoor

/-
  The program's journal: the iterator over the writes of a record.
-/
namespace Go.Proofs.YtmkpkmkhnphogaaGreatDoor
open Go.RowKit Go.Shelf Tx Dv
attribute [local go_sem] Oper.semAt_some
namespace Pj

theorem body_next {a j : Nat} {s : List UInt8} (hj : j < Jn.count s.length) : (Jn.body a s).take (j + 1) = (Jn.body a s).take j ++ [(a + 1 + j, Jn.piece s j)] := by
  unfold Jn.body
  rw [List.take_succ_eq_append_getElem (by rw [List.length_map, List.length_range]; exact hj)]
  congr 1
  rw [List.getElem_map, List.getElem_range]
/-- The text of a sector, cut out. -/
theorem piece_slice (s : ByteArray) (j : Nat) (h : j * 64 ≤ s.size) : ∃ u : ByteArray, toL u = Jn.piece (toL s) j ∧
    ∀ W : World, (Instr.slice 9 (.string s) (some (.int .i64 ((j : Int) * 64))) (some (.int .i64 (min ((j : Int) * 64 + 64) (s.size : Int)))) none).run Tryz.prog W = .ok (.string u) W := by
  have hd : ((toL s).drop (j * 64)).length = s.size - j * 64 := by rw [List.length_drop, toL_length]
  refine ⟨s.extract (j * 64) (min (j * 64 + 64) s.size), ?_, fun W => ?_⟩
  · rw [toL_extract]
    unfold Jn.piece
    by_cases hm : j * 64 + 64 ≤ s.size
    · rw [show min (j * 64 + 64) s.size - j * 64 = 64 by omega]
    · rw [List.take_of_length_le (by omega), List.take_of_length_le (by omega)]
  · rw [run_slice_string W 9 s .i64 .i64 _ _ Tryz.underlying9 (by omega) (by omega) (by omega), show ((j : Int) * 64).toNat = j * 64 by omega, show (min ((j : Int) * 64 + 64) (s.size : Int)).toNat = min (j * 64 + 64) s.size by omega]

section
variable {Dev : World → (Nat → Prop) → Value → Disk → Prop}

set_option maxHeartbeats 4000000 in
set_option maxRecDepth 100000 in
theorem writes_stops (M : Means Dev) (MC : InCells Dev) (nn : Nat) (D : Disk) (b g jb sb : Nat) (dp : Addr) (A : Option Addr) (m : Nat) (L : List (List UInt8)) (a Z n : Nat) (s : ByteArray) (hZ : D.S.length = Z) (hn : Jn.count s.size = n) (hs : s.size ≤ 100000) (hr : a + 1 + n ≤ Z) (hZ4 : Z ≤ 4096) (hla : L.length ≤ a) (hnn : 1 ≤ nn) (w : World)
    (hk : KI Dev b g jb sb (.pointer (some dp)) (.slice A L.length m) ⟨L, a⟩ Z s w) :
    SeqStopsK Fence.wide nn Tryz.prog 52 #[.pointer (some ⟨jb, 0, none⟩), .pointer (some ⟨sb, 0, none⟩)] encs (fun W W' => KI Dev b g jb sb (.pointer (some dp)) (.slice A L.length m) ⟨L, a⟩ Z s W → KI Dev b g jb sb (.pointer (some dp)) (.slice A L.length m) ⟨L, a⟩ Z s W')
      (fun xs => xs = Jn.plan D L.length a (toL s)) (fun pre => pre <+: Jn.plan D L.length a (toL s)) (Jn.plan D L.length a (toL s)).length w := by
  intro l J Jx W hW hJ hJx hY h0
  have HI0 : Kept (IIn Dev b g jb sb (.pointer (some dp)) (.slice A L.length m) ⟨L, a⟩ Z s W.heap.size J [] W) := ⟨⟨h0, hk.below M MC hW⟩⟩
  have hn2 : n ≤ 2000 := by rw [← hn]; unfold Jn.count; omega
  have HC : Kept (∀ w, Calls Tryz.prog 42 #[.int .i64 s.size] w fun e w' => e = .returned (.int .i64 (1 + (n : Int))) ∧ w' = w) := ⟨fun w => by have := sectorsOf_any s.size w (by omega); rw [hn] at this; exact this⟩
  have HJ := Kept.mk hJ
  have HY := Kept.mk hY
  have c0 := HI0.out.k.box1
  have c1 := HI0.out.k.box2
  have c2 := HI0.out.k.at'.c2
  have a0 : (0 : Int) ≤ a := by omega
  have a1 : (a : Int) ≤ 4096 := by omega
  have n0 : (0 : Int) ≤ n := by omega
  have n1 : (n : Int) ≤ 2000 := by omega
  have HN := Kept.mk hn
  have HZ := Kept.mk hZ
  have HS := Kept.mk hs
  have y1 : (a : Int) + (1 + (n : Int)) = (a : Int) + 1 + n := by omega
  have y2 : IntKind.i64.wrap ((a : Int) + 1 + (n : Int)) = (a : Int) + 1 + n := IntWalk.i64_in _ (by omega)
  have hsz : s.size ≤ 9223372036854775807 := by omega
  clear hk hW hJ hY h0 hJx hn hZ hs
  refine callsIn_of_wp Tryz.func52 rfl trivial ?_ rfl
  simp only [Tryz.ntmps52, List.size_toArray, List.length_cons, List.length_nil, Nat.reduceAdd, Nat.reduceSub, Array.replicate_succ, Array.replicate_zero, List.push_toArray, List.append_toArray, List.nil_append, List.cons_append]
  gi_wp2
  refine wpIn_wide.2 ?_
  refine wp_region_still_lit (by kernel_rfl) (by kernel_rfl) ?_
  repeat (first | still_step | still_call (HC.out _))
  refine wpStill_nil ?_
  refine HI0.out.again M MC HJ.out (P := fun W => Exit.then _ _ _ _ W) ?_
  intro W1 h1
  have H1 := Kept.mk h1
  clear h1 c0 c1 c2 y2
  have c0 := H1.out.k.box1
  have c1 := H1.out.k.box2
  have g0 := H1.out.k.at'.c0
  have hp0 : Jn.behind D a (toL s) = if a + 1 + n < Z then [(a + 1 + n, [])] else [] := by unfold Jn.behind; rw [toL_length, HN.out, HZ.out]
  have hpl : (Jn.plan D L.length a (toL s)).length = (Jn.behind D a (toL s)).length + n + 2 := by
    unfold Jn.plan Jn.body
    simp only [List.length_append, List.length_cons, List.length_map, List.length_range, List.length_nil, toL_length, HN.out]
    omega
  have HPlan : Kept (Jn.plan D L.length a (toL s) = Jn.behind D a (toL s) ++ [(a, Jn.head 48 L.length (toL s))] ++ Jn.body a (toL s) ++ [(a, Jn.head 49 L.length (toL s))]) := ⟨by unfold Jn.plan; simp⟩
  have HPre0 : Kept (Jn.behind D a (toL s) <+: Jn.plan D L.length a (toL s)) := ⟨⟨_, rfl⟩⟩
  have HLen : Kept ((Jn.plan D L.length a (toL s)).length = (Jn.behind D a (toL s)).length + n + 2) := ⟨hpl⟩
  have HBody : Kept ((Jn.body a (toL s)).length = n) := ⟨by unfold Jn.body; rw [List.length_map, List.length_range, toL_length, HN.out]⟩
  have HL6 : Kept (L.length ≤ 1000000) := ⟨by omega⟩
  have HL9 : Kept (L.length < 1000000000) := ⟨by omega⟩
  have HP0 : Kept (Jn.behind D a (toL s) = if a + 1 + n < Z then [(a + 1 + n, [])] else []) := ⟨hp0⟩
  clear hp0 hpl hla
  generalize hpl : Jn.plan D L.length a (toL s) = PL at *
  generalize hbh : Jn.behind D a (toL s) = p0 at *
  have HPLn := Kept.mk hpl
  clear hpl hbh
  by_cases hlt : a + 1 + n < Z
  case' pos =>
    have q0 : (a : Int) + 1 + n < Z := by omega
    have HE0 : Kept (p0 = [(a + 1 + n, [])]) := ⟨by rw [HP0.out, if_pos hlt]⟩
    clear hlt
    gi_wp2_with (refine ⟨trivial, ?_⟩; gi_at_call 32
                 refine (callsIn_wide.2 (H1.out.k.size_any M)).mono ?_
                 rintro e w2 ⟨rfl, hb2⟩
                 have H2 := Kept.mk (H1.out.below M MC HJ.out hb2)
                 clear hb2
                 obtain ⟨fn, tmps, assign, body, hy, hR⟩ := HY.out [] (a + 1 + n, []) w2 H2.out.j (by have := HLen.out; simp only [List.length_nil]; omega)
                 have hy2 : (Instr.yield l #[.int .i64 ((a : Int) + 1 + n), .string ⟨#[]⟩]).run Tryz.prog w2 = .ok (.round l fn tmps assign body) w2 := by
                   have e := hy
                   rw [encs_id (by omega) (by decide)] at e
                   rw [show ((a + 1 + n : Nat) : Int) = (a : Int) + 1 + n by omega] at e
                   exact e
                 clear hy)
    refine hR.mono ?_
    rintro e W3 h3
    rw [List.nil_append, ← HE0.out] at h3
    rcases h3 with ⟨rfl, hj3, hk3⟩ | ⟨rfl, hx3⟩
    rotate_left
    · gi_wp2
      refine bodyPost_ret (results_none rfl _ _ _) rfl ?_
      exact ⟨⟨_, rfl⟩, .inr ⟨_, by rw [HPLn.out]; exact HPre0.out, hx3⟩⟩
    have H3 := Kept.mk (show IIn Dev b g jb sb (.pointer (some dp)) (.slice A L.length m) ⟨L, a⟩ Z s W.heap.size J p0 W3 from ⟨hj3, hk3 H2.out.k⟩)
    clear hj3 hk3 hy2 hR c0 c1 g0
    gi_wp2
  case' neg =>
    have q0 : ¬ (a : Int) + 1 + n < Z := by omega
    have HE0 : Kept (p0 = []) := ⟨by rw [HP0.out, if_neg hlt]⟩
    clear hlt
    gi_wp2_with (refine ⟨trivial, ?_⟩; gi_at_call 32
                 refine (callsIn_wide.2 (H1.out.k.size_any M)).mono ?_
                 rintro e W3 ⟨rfl, hb2⟩
                 have H3 : Kept (IIn Dev b g jb sb (.pointer (some dp)) (.slice A L.length m) ⟨L, a⟩ Z s W.heap.size J p0 W3) := ⟨by rw [HE0.out]; exact H1.out.below M MC HJ.out hb2⟩
                 clear hb2)
    refine ⟨fun _ h => (by cases h), ?_⟩
    clear c0 c1 g0
    gi_wp2
  all_goals
    clear q0 HE0
    have HD := Kept.mk (H3.out.below M MC HJ.out (Below.refl _ _).drew)
    have c0 := HD.out.k.box1
    have c1 := HD.out.k.box2
    have g1 := HD.out.k.at'.c1
    refine wpIn_wide.2 ?_
    go_region_held3 (fun w' => w'.cell? ⟨jb, 0, none⟩ = some (.pointer (some ⟨g, 0, none⟩)) ∧ w'.cell? ⟨sb, 0, none⟩ = some (.string s) ∧ w'.cell? ⟨g, 1, none⟩ = some (.slice A L.length m))
      (first
        | go_keep
        | exact ⟨d0, d1, d2⟩)
      (first
        | (go_at_call 48
           refine (rest_any L.length s _ HL6.out HS.out HD.out.k.jk).mono ?_
           rintro e w4 ⟨t, rfl, hb4, ht⟩
           have H4 := Kept.mk (HD.out.below M MC HJ.out hb4)
           have HT := Kept.mk ht.out
           have d0 := H4.out.k.box1
           have d1 := H4.out.k.box2
           have d2 := H4.out.k.at'.c1
           clear hb4 ht))
    clear c0 c1 g1 d2 HD H3
    have hSm : ¬ 9223372036854775807 < (⟨#[48]⟩ : ByteArray).size + t.size := by
      have := rest_size (n := L.length) (s := toL s) HL9.out (by rw [toL_length]; exact HS.out)
      have e1 : (⟨#[48]⟩ : ByteArray).size = 1 := rfl
      rw [HT.out, e1]
      omega
    have g2 := H4.out.k.at'.c2
    obtain ⟨fn, tmps, assign, body, hy, hR⟩ := HY.out p0 (a, Jn.head 48 L.length (toL s)) w4 H4.out.j (by have := HLen.out; omega)
    have hy2 : (Instr.yield l #[.int .i64 a, .string ((⟨#[48]⟩ : ByteArray) ++ t)]).run Tryz.prog w4 = .ok (.round l fn tmps assign body) w4 := by
      rw [HT.out, mark_rest]
      have e := hy
      rw [encs_id (by omega) (Nat.le_trans (Jn.head_length 48 L.length (toL s) HL9.out (by rw [toL_length]; exact HS.out)) (by decide))] at e
      exact e
    clear hy
    gi_wp2
    refine hR.mono ?_
    rintro e W5 h5
    rcases h5 with ⟨rfl, hj5, hk5⟩ | ⟨rfl, hx5⟩
    rotate_left
    · gi_wp2
      refine bodyPost_ret (results_none rfl _ _ _) rfl ?_
      exact ⟨⟨_, rfl⟩, .inr ⟨_, by rw [HPLn.out, HPlan.out]; exact ⟨Jn.body a (toL s) ++ [(a, Jn.head 49 L.length (toL s))], by simp⟩, hx5⟩⟩
    have H5 := Kept.mk (show IIn Dev b g jb sb (.pointer (some dp)) (.slice A L.length m) ⟨L, a⟩ Z s W.heap.size J (p0 ++ [(a, Jn.head 48 L.length (toL s))]) W5 from ⟨hj5, hk5 H4.out.k⟩)
    clear hj5 hk5 hy2 hR d0 d1 g2 hSm H4
    have c1 := H5.out.k.box2
    have y3 : 1 + (n : Int) - 1 = n := by omega
    gi_wp2_with (refine ⟨trivial, ?_⟩
                 gi_at_call 42
                 refine (callsIn_wide.2 (HC.out _)).mono ?_
                 rintro e w6 ⟨rfl, hw⟩
                 obtain rfl := hw.symm)
    clear c1
    gi_loopw [49] (fun i wr => ∃ j : Nat, j ≤ n ∧ i = .int .i64 j ∧ Kept (IIn Dev b g jb sb (.pointer (some dp)) (.slice A L.length m) ⟨L, a⟩ Z s W.heap.size J (p0 ++ [(a, Jn.head 48 L.length (toL s))] ++ (Jn.body a (toL s)).take j) wr)) (fun i _ => n - (intOf i).toNat)
    case atStart => exact ⟨0, by omega, rfl, ⟨by rw [List.take_zero, List.append_nil]; exact H5.out⟩⟩
    case round =>
      clear H5
      obtain ⟨j, hj, rfl, H6⟩ := hrel
      have j0 : (0 : Int) ≤ j := by omega
      have j1 : (j : Int) ≤ 2000 := by omega
      by_cases hjn : j < n
      · have j2 : (j : Int) < n := by omega
        obtain ⟨u, hu, hsl⟩ := piece_slice s j (by rw [← HN.out] at hjn; unfold Jn.count at hjn; omega)
        have HD := Kept.mk (H6.out.below M MC HJ.out (Below.refl _ _).drew)
        have c0 := HD.out.k.box1
        have c1 := HD.out.k.box2
        have g2 := HD.out.k.at'.c2
        have v1 : IntKind.i64.wrap ((a : Int) + 1 + j) = (a : Int) + 1 + j := IntWalk.i64_in _ (by omega)
        have v0 : IntKind.i64.wrap ((a : Int) + 1) = (a : Int) + 1 := IntWalk.i64_in _ (by omega)
        have v2 : IntKind.i64.wrap ((j : Int) * 64) = (j : Int) * 64 := IntWalk.i64_in _ (by omega)
        have v3 : IntKind.i64.wrap ((j : Int) * 64 + 64) = (j : Int) * 64 + 64 := IntWalk.i64_in _ (by omega)
        have HU := Kept.mk hu
        have HNext : Kept ((Jn.body a (toL s)).take (j + 1) = (Jn.body a (toL s)).take j ++ [(a + 1 + j, Jn.piece (toL s) j)]) := ⟨body_next (by rw [toL_length, HN.out]; exact hjn)⟩
        obtain ⟨fn, tmps, assign, body, hy, hR⟩ := HY.out _ (a + 1 + j, Jn.piece (toL s) j) wr.drew HD.out.j (by
          have h1 := HLen.out
          have h2 := HBody.out
          rw [List.length_append, List.length_append, List.length_take]
          simp only [List.length_cons, List.length_nil]
          omega)
        have hy2 : (Instr.yield l #[.int .i64 ((a : Int) + 1 + j), .string u]).run Tryz.prog wr.drew = .ok (.round l fn tmps assign body) wr.drew := by
          have e := hy
          rw [encs_id (by omega) (Nat.le_trans (Jn.piece_length (toL s) j) (by decide))] at e
          rw [show ((a + 1 + j : Nat) : Int) = (a : Int) + 1 + j by omega, ← HU.out, bs_toL] at e
          exact e
        clear hy hu hjn
        gi_wp2
        have HRd : Kept (RoundIn Fence.wide (nn - 1) Tryz.prog l fn tmps assign body wr.drew fun e W' => ∃ bb, e = .returned (.bool bb) ∧ Kept (if bb = true then IIn Dev b g jb sb (.pointer (some dp)) (.slice A L.length m) ⟨L, a⟩ Z s W.heap.size J (p0 ++ [(a, Jn.head 48 L.length (toL s))] ++ (Jn.body a (toL s)).take (j + 1)) W' else Jx (p0 ++ [(a, Jn.head 48 L.length (toL s))] ++ (Jn.body a (toL s)).take (j + 1)) W')) := ⟨by
          refine hR.mono ?_
          rintro e W' h
          rw [List.append_assoc, ← HNext.out] at h
          rcases h with ⟨rfl, hj7, hk7⟩ | ⟨rfl, hx7⟩
          · exact ⟨true, rfl, ⟨by rw [if_pos rfl]; exact ⟨hj7, hk7 HD.out.k⟩⟩⟩
          · exact ⟨false, rfl, ⟨by rw [if_neg (by simp)]; exact hx7⟩⟩⟩
        clear hR
        refine wpIn_region_still_tail 16 (by kernel_rfl) (by kernel_rfl) ?_
        simp only [List.take_succ_cons, List.take_zero, List.drop_succ_cons, List.drop_zero]
        repeat still_step
        refine wpStill_nil ?_
        gi_wp2
        refine HRd.out.mono ?_
        rintro e W7 ⟨bb, rfl, h7⟩
        cases bb
        · have h8 := h7.out
          rw [if_neg (by simp)] at h8
          gi_wp2
          refine bodyPost_ret (results_none rfl _ _ _) rfl ?_
          refine ⟨⟨_, rfl⟩, .inr ⟨_, ?_, h8⟩⟩
          rw [HPLn.out, HPlan.out]
          exact ⟨(Jn.body a (toL s)).drop (j + 1) ++ [(a, Jn.head 49 L.length (toL s))], by
            conv => rhs; rw [← List.take_append_drop (j + 1) (Jn.body a (toL s))]
            simp only [List.append_assoc]⟩
        · have h8 := h7.out
          rw [if_pos rfl] at h8
          have H8 := Kept.mk h8
          gi_wp2
          go_roundw
          case rel => exact ⟨j + 1, by omega, by go_num, H8⟩
          case measure => simp only [intOf]; omega
      · obtain rfl : j = n := by omega
        have HAll : Kept (IIn Dev b g jb sb (.pointer (some dp)) (.slice A L.length m) ⟨L, a⟩ Z s W.heap.size J (p0 ++ [(a, Jn.head 48 L.length (toL s))] ++ Jn.body a (toL s)) wr) := ⟨by
          have := H6.out
          rw [List.take_of_length_le (by rw [HBody.out]; omega)] at this
          exact this⟩
        clear H6
        have j2 : ¬ (j : Int) < j := by omega
        have c0 := HAll.out.k.box1
        have g2 := HAll.out.k.at'.c2
        have hSm : ¬ 9223372036854775807 < (⟨#[49]⟩ : ByteArray).size + t.size := by
          have := rest_size (n := L.length) (s := toL s) HL9.out (by rw [toL_length]; exact HS.out)
          have e1 : (⟨#[49]⟩ : ByteArray).size = 1 := rfl
          rw [HT.out, e1]
          omega
        obtain ⟨fn, tmps, assign, body, hy, hR⟩ := HY.out _ (a, Jn.head 49 L.length (toL s)) wr HAll.out.j (by
          have h1 := HLen.out
          have h2 := HBody.out
          rw [List.length_append, List.length_append]
          simp only [List.length_cons, List.length_nil]
          omega)
        have hy2 : (Instr.yield l #[.int .i64 a, .string ((⟨#[49]⟩ : ByteArray) ++ t)]).run Tryz.prog wr = .ok (.round l fn tmps assign body) wr := by
          rw [HT.out, mark_rest]
          have e := hy
          rw [encs_id (by omega) (Nat.le_trans (Jn.head_length 49 L.length (toL s) HL9.out (by rw [toL_length]; exact HS.out)) (by decide))] at e
          exact e
        clear hy hjn
        gi_wp2
        refine hR.mono ?_
        rintro e W9 h9
        rw [← HPlan.out] at h9
        rcases h9 with ⟨rfl, hj9, hk9⟩ | ⟨rfl, hx9⟩
        · gi_wp2
          go_end0
          exact ⟨⟨_, rfl⟩, .inl ⟨_, by rw [HPLn.out], hj9⟩⟩
        · gi_wp2
          go_end0
          exact ⟨⟨_, rfl⟩, .inr ⟨_, by rw [HPLn.out]; exact List.prefix_refl _, hx9⟩⟩
end
end Pj
end Go.Proofs.YtmkpkmkhnphogaaGreatDoor
