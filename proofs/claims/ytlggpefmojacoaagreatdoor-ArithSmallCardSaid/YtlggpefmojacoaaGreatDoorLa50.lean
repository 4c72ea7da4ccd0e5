/-
  Parts.
-/
import Derived.LoopIn
import Derived.LoopNIn
import Derived.OwnWalkIn
import Derived.Shelf.Abstract
import Derived.Shelf.RegionOpen
import Derived.TacticsInMore
import Derived.Test.YtlggpefmojacoaaGreatDoorLa02
import Derived.Test.YtlggpefmojacoaaGreatDoorLa47
import Derived.Test.YtlggpefmojacoaaGreatDoorLa01
namespace Go.Proofs.YtlggpefmojacoaaGreatDoor
section
open Go.RowKit Go.Shelf Tx
attribute [local go_sem] Oper.semAt_some
namespace Ar
open Va (Vr VS getD Sorted)
structure BL (sb g k : Nat) (bl : List Nat) (W : World) : Prop where
 box : W.cell? ⟨sb, 0, none⟩ = some (.slice (some ⟨g, 0, none⟩) bl.length k)
 el : ∀ j (hj : j < bl.length), W.cell? ⟨g, j, none⟩ = some (.pointer (some ⟨bl[j], 0, none⟩))
def encB (bl : List Nat) (i : Nat) : Array Value := #[.int .i64 ((bl.length - 1 - i : Nat) : Int), .pointer (some ⟨bl.getD (bl.length - 1 - i) 0, 0, none⟩)]
set_option maxHeartbeats 4000000 in
set_option maxRecDepth 100000 in
theorem back_any (sb g k : Nat) (bl : List Nat) (hn : bl.length ≤ 1000000) : Rp.Seq Tryz.prog 82 #[.pointer (some ⟨sb, 0, none⟩)] bl.length (encB bl) (BL sb g k bl) := by
 intro n l J Jp W hC hJ hY h0
 have HC := Kept.mk hC
 have HJ := Kept.mk hJ
 have HY := Kept.mk hY
 have HN := Kept.mk hn
 have H0 := Kept.mk h0
 have cb := (hC _ _ h0).box
 have hw1 : IntKind.i64.wrap ((bl.length : Int) - 1) = (bl.length : Int) - 1 := IntWalk.i64_in _ (by omega)
 clear hC hJ hY hn h0
 refine callsIn_of_wp Tryz.func82 rfl trivial ?_ rfl
 simp only [Tryz.ntmps82, List.size_toArray, List.length_cons, List.length_nil, Nat.reduceAdd, Nat.reduceSub, Array.replicate_succ, Array.replicate_zero, List.push_toArray, List.append_toArray, List.nil_append, List.cons_append]
 gi_wp2
 gi_loopw [3] (fun x wr => ∃ j : Nat, j ≤ bl.length ∧ x = .int .i64 ((bl.length : Int) - 1 - (j : Int)) ∧ Kept (J j wr)) (fun x _ => ((intOf x) + 1).toNat)
 case atStart => exact ⟨0, Nat.zero_le _, by simp, H0⟩
 case round =>
   obtain ⟨j, hj, rfl, HJj⟩ := hrel
   by_cases hlt : j < bl.length
   · have j1 : (0 : Int) ≤ (bl.length : Int) - 1 - (j : Int) := by omega
     have j2 : (bl.length : Int) - 1 - (j : Int) < (bl.length : Int) := by omega
     have j3 : ((bl.length : Int) - 1 - (j : Int)).toNat = bl.length - 1 - j := by omega
     have j4 : (bl.length : Int) - 1 - (j : Int) = ((bl.length - 1 - j : Nat) : Int) := by omega
     have j5 : bl.length - 1 - j < bl.length := by omega
     have d0 := (HC.out _ _ HJj.out).box
     have d1 := (HC.out _ _ HJj.out).el (bl.length - 1 - j) j5
     obtain ⟨fn, tmps, assign, body, hy, hR⟩ := HY.out j wr HJj.out hlt
     have hgd : bl.getD (bl.length - 1 - j) 0 = bl[bl.length - 1 - j]'j5 := by simp [List.getD, List.getElem?_eq_getElem j5]
     unfold encB at hy
     rw [hgd, ← j4] at hy
     have hw2 : IntKind.i64.wrap ((bl.length : Int) - 1 - (j : Int) - 1) = (bl.length : Int) - 1 - ((j + 1 : Nat) : Int) := by have := HN.out; rw [IntWalk.i64_in _ (by omega)]; omega
     have HLt := Kept.mk hlt
     generalize bl[bl.length - 1 - j]'j5 = pb at *
     clear hgd j4 hlt HJj
     gi_wp2_with fail
     refine hR.mono ?_
     rintro e W3 (⟨rfl, hJ3⟩ | ⟨ch, rfl, hp⟩)
     · have HJ3 := Kept.mk hJ3
       clear hJ3 hR hy d0 d1
       gi_wp2_with fail
       go_roundw
       case rel => exact ⟨j + 1, by have := HLt.out; omega, by go_num, HJ3⟩
       case measure => simp [intOf]; omega
     · have HP := Kept.mk hp
       clear hp hR hy d0 d1
       first | exact ⟨rfl, .inr ⟨ch, rfl, HP.out⟩⟩ | exact ⟨rfl, rfl, .inr ⟨ch, rfl, HP.out⟩⟩
   · obtain rfl : j = bl.length := by omega
     have j1 : ¬ (0 : Int) ≤ (bl.length : Int) - 1 - (bl.length : Int) := by omega
     gi_wp2_with fail
     go_end0
     exact .inl ⟨⟨_, rfl⟩, HJj.out⟩
set_option maxRecDepth 100000 in
theorem backward_any (w : World) (A : Option Addr) (n k : Nat) : Calls Tryz.prog 58 #[.slice A n k] w fun e w' =>
   e = .returned (.func (.func 82) #[] #[.pointer (some ⟨w.heap.size, 0, none⟩)]) ∧ w' = w.alloc (.cells #[.slice A n k] 87) := by
 go_enter Tryz.func58, Tryz.ntmps58
 go_wp2_with fail
 go_ret
 exact ⟨rfl, rfl⟩
end Ar
end
end Go.Proofs.YtlggpefmojacoaaGreatDoor
namespace Go.Proofs.YtlggpefmojacoaaGreatDoor
section
open Go.RowKit Tx
namespace Ar
open Va (Vr VS getD Sorted)
abbrev Nt := Nat × Tok × Ex
def stp (t : Nt) (r : V) : V := match r with | .error c => .error c | .ok (n, l) => snd t.2.1 n (ev t.2.2) l
def evS (L : List Nt) (r : V) : V := L.foldr stp r
theorem evS_push (L : List Nt) (t : Nt) (r : V) : evS (L ++ [t]) r = evS L (stp t r) := by simp [evS]
theorem evS_err (c : Int) : ∀ L : List Nt, evS L (.error c) = .error c
 | [] => rfl
 | t :: L => by
   show stp t (evS L _) = _
   rw [evS_err c L]
   rfl
def szS : List Nt → Nat
 | [] => 0
 | t :: L => szS L + (1 + sz t.2.2)
theorem szS_push (t : Nt) : ∀ L : List Nt, szS (L ++ [t]) = szS L + (1 + sz t.2.2)
 | [] => rfl
 | u :: L => by
   show szS (L ++ [t]) + _ = _
   rw [szS_push t L, szS]
   omega
theorem len_szS : ∀ L : List Nt, L.length ≤ szS L
 | [] => Nat.le_refl _
 | _ :: L => by
   have := len_szS L
   rw [szS, List.length_cons]
   omega
theorem mem_szS {t : Nt} : ∀ {L : List Nt}, t ∈ L → sz t.2.2 < szS L
 | u :: L, h => by
   rw [szS]
   rcases List.mem_cons.1 h with rfl | h
   · omega
   · have := mem_szS h
     omega
def SpE (w : World) (vb : Nat) (t : Nt) : Prop := (t.2.1 = [124, 124] ∨ t.2.1 = [38, 38] ∨ t.2.1 ∈ op2) ∧ Wf t.2.2 ∧ ∃ f s, BN w vb t.1 t.2.1 f s ∧ ET (Nw (vb + 1)) w t.2.2 s
theorem SpE.only {w w' : World} {vb : Nat} {t : Nt} (h : SpE w vb t) (ho : Only (· = vb) w w') : SpE w' vb t := by
 obtain ⟨h1, h2, f, s, hb, hs⟩ := h
 exact ⟨h1, h2, f, s, ⟨et_row hb.row hb.nw ho, hb.nw⟩, hs.move ho⟩
theorem only_bl {B : Nat → Prop} {w w' : World} (h : Below w.heap.size w w') : Only B w w' := ⟨h.os, h.tape, h.output, h.size, fun k hk _ => h.block k hk⟩
theorem only_put {vb D : Nat} {w W : World} (h : Only (· = vb) w W) (hD : w.heap.size ≤ D) (o : Obj) : Only (· = vb) w (W.putObj D o) :=
 ⟨h.os, h.tape, h.output, by simpa using h.size, fun k hk hn => (World.putObj_heap_other (by omega)).trans (h.block k hk hn)⟩
theorem only_cell {vb D : Nat} {w W : World} (h : Only (· = vb) w W) (hD : w.heap.size ≤ D) (j : Nat) (v : Value) : Only (· = vb) w (W.setCell ⟨D, j, none⟩ v) :=
 ⟨h.os, h.tape, h.output, by simpa [World.setCell] using h.size, fun k hk hn => (Below.heap_setCell _ _ _ _ (by show k ≠ D; omega)).trans (h.block k hk hn)⟩
theorem only_cs {vb z : Nat} {w A B : World} (h : Only (· = vb) w A) (hc : Rp.Cs z A B) (hz : w.heap.size ≤ z) : Only (· = vb) w B :=
 ⟨hc.os.trans h.os, hc.tape.trans h.tape, hc.output.trans h.output, Nat.le_trans h.size hc.size, fun k hk hn => (hc.low k (by omega) (Nat.lt_of_lt_of_le hk h.size)).trans (h.block k hk hn)⟩
theorem EM.cs {vb z : Nat} {l : List Vr} {A B : World} (h : EM A vb l) (hc : Rp.Cs z A B) (hz : vb < z) : EM B vb l := by
 obtain ⟨a, k, hr, hv⟩ := h.row
 obtain ⟨b, hb, hk⟩ := h.kb
 refine ⟨⟨a, k, hc.row _ _ _ _ hr, hv.cap, hv.nil, fun hl => ?_⟩, ⟨b, hb, hk.below ⟨hc.os, hc.tape, hc.output, hc.size, fun k hk2 => hc.low k (by omega) (Nat.lt_of_lt_of_le hk2 hk.le)⟩⟩, h.ok⟩
 obtain ⟨g, off, h1, h3, h4⟩ := hv.mem hl
 exact ⟨g, off, h1, Nat.lt_of_lt_of_le h3 hc.size, fun j u hu => hc.cell (h4 j u hu)⟩
theorem EM.setInt {vb nc : Nat} {l : List Vr} {w : World} {n : Int} {t : TypeId} {q : Nat × Nat} (h : EM w vb l) (hn : w.heap[nc]? = some (.cells #[.int .i64 n] t q)) (hlt : vb < nc) (v : Value) : EM (w.setCell ⟨nc, 0, none⟩ v) vb l := by
 obtain ⟨a, k, hr, hv⟩ := h.row
 obtain ⟨b, hb, hk⟩ := h.kb
 have ho : Only (· = nc) w (w.setCell ⟨nc, 0, none⟩ v) := (Only.refl _ _).setCell _ _ (fun _ => rfl)
 refine ⟨⟨a, k, (Below.heap_setCell _ _ _ _ (by show vb ≠ nc; omega)).trans hr, hv.cap, hv.nil, fun hl => ?_⟩, ⟨b, hb, hk.only ho (by omega)⟩, h.ok⟩
 obtain ⟨g, off, h1, h3, h4⟩ := hv.mem hl
 have hg : g ≠ nc := by
   rintro rfl
   obtain ⟨v, t, rfl⟩ := List.exists_cons_of_ne_nil hl
   have h5 := h4 0 (.string v.name) rfl
   rw [cell_of_row w g (off + 0) _ _ _ hn] at h5
   match off, h5 with
   | 0, h5 => cases h5
   | o + 1, h5 => cases h5
 exact ⟨g, off, h1, by simpa [World.setCell] using h3, fun j u hu => (World.cell?_of_block (w := w) (a := ⟨g, off + j, none⟩) (Below.heap_setCell _ _ _ _ hg)).trans (h4 j u hu)⟩
theorem ET.kind {P : Nat → Prop} {w : World} : ∀ {x : Ex} {b : Nat}, ET P w x (.pointer (some ⟨b, 0, none⟩)) → (∀ o a c, x ≠ .bin o a c) → ∃ k : Int, w.cell? ⟨b, 0, none⟩ = some (.int .i64 k) ∧ (k == 4) = false
 | .lit _, _, ⟨_, hv, _, hr⟩, _ => by cases hv; exact ⟨_, cell_of_row w _ 0 _ _ _ hr, rfl⟩
 | .var _, _, ⟨_, hv, _, hr⟩, _ => by cases hv; exact ⟨_, cell_of_row w _ 0 _ _ _ hr, rfl⟩
 | .asg _ _ _, _, ⟨_, _, hv, _, hr, _⟩, _ => by cases hv; exact ⟨_, cell_of_row w _ 0 _ _ _ hr, rfl⟩
 | .pre _ _, _, ⟨_, _, hv, _, hr, _⟩, _ => by cases hv; exact ⟨_, cell_of_row w _ 0 _ _ _ hr, rfl⟩
 | .bin o a c, _, _, h => absurd rfl (h o a c)
 | .cho _ _ _, _, ⟨_, _, _, _, hv, _, hr, _⟩, _ => by cases hv; exact ⟨_, cell_of_row w _ 0 _ _ _ hr, rfl⟩
def pv (b : Nat) : Value := .pointer (some ⟨b, 0, none⟩)
theorem take_back (L : List Nt) (i : Nat) (h : i < L.length) : L.take (L.length - i) = L.take (L.length - (i + 1)) ++ [L[L.length - 1 - i]'(by omega)] := by
 have h2 : L.length - i = (L.length - 1 - i) + 1 := by omega
 have h3 : L.length - (i + 1) = L.length - 1 - i := by omega
 rw [h2, h3, List.take_succ_eq_append_getElem (by omega)]
end Ar
end
section
open Go.RowKit Go.Lib
namespace Own
variable {α : Type}
section
variable {P : Program} {c : α → Value} {w w' : World} {B : Nat} {v : Value} {l : List α}
theorem run_append_r {T E : TypeId} {z : Value} {bytes : Nat} (k : Ty P T E z bytes) (hone : ∀ x, (c x).oneCell' = true) (ty : TypeId) (h : Es c w B v l) (hB : B ≤ w.heap.size) (ad : Addr) (m q : Nat) (news : List α) (hm : m = news.length)
   (hc : ∀ j u, (news.map c)[j]? = some u → w.cell? (ad.add j) = some u) (hlen : (l.length + news.length) * bytes ≤ 140737488355328) (hmx : l.length + news.length ≤ maxLen) :
   ∃ v' w', (Builtin.append_ #[T, T] ty #[v, .slice (some ad) m q]).run P w = .ok v' w' ∧ Es c w' B v' (l ++ news) ∧ w.grownBy w' v.ownBlock ∧ ∀ p, v.ownBlock = some p → ∀ j, j < l.length → w'.cell? ⟨p, j, none⟩ = w.cell? ⟨p, j, none⟩ := by
 subst hm
 obtain ⟨i, hi, hz, hs, hby⟩ := info_parts k.info
 have h1c : ∀ u ∈ news.map c, u.oneCell' = true := by
   intro u hu
   obtain ⟨x, _, rfl⟩ := List.mem_map.1 hu
   exact hone x
 rcases h with ⟨rfl, rfl⟩ | ⟨g, cap, rfl, h1, h2, h3, h4, h5, h6⟩
 · obtain ⟨v', w', hr, ho, hg, _⟩ := run_append_own (P := P) w B T ty E i z 1 bytes k.und hi hz hs hby k.zone (by omega) _ 0 [] (World.ownsRow_nil w B E 1) ad news.length q (news.map c)
     (by rw [List.length_map]; omega) hc h1c (by simpa using hmx) (by simpa using hlen) hB
   exact ⟨v', w', hr, Es.of_own (n := 0 + news.length) (by simpa using ho), hg, fun p hp => by cases hp⟩
 · by_cases hroom : l.length + news.length ≤ cap
   · have hr := run_append_room_cells (P := P) w T ty E i k.und hi g 0 l.length cap ad news.length q (news.map c) (by rw [List.length_map, hs]; omega) hc h1c hroom
       (fun j hj => by rw [List.length_map] at hj; rw [hs]; exact (h5 _ (by omega)).1) (fun j hj => by rw [List.length_map] at hj; rw [hs]; exact (h5 _ (by omega)).2)
     rw [hs] at hr
     simp only [Nat.mul_one, Nat.zero_add] at hr
     have hh : Es c w B (.slice (some ⟨g, 0, none⟩) l.length cap) l := .inr ⟨g, cap, rfl, h1, h2, h3, h4, h5, h6⟩
     have := hh.room (news := news) hroom
     rw [List.length_append] at this
     exact ⟨_, _, hr, this, By.grown_setCells g _ _ _, fun p hp j hj => World.cell?_setCells_out g _ _ _ _ (fun _ _ => .inl hj)⟩
   · obtain ⟨v', w', hr, ho, hg⟩ := run_append_arg_grows (P := P) w T ty E i z 1 bytes k.und hi hz hs hby k.zone (by omega) ⟨g, 0, none⟩ l.length cap (l.map c) (by rw [List.length_map]; omega)
       (fun j u hj => by rw [By.add_at]; exact h6 j u hj) ad news.length q (news.map c) (by rw [List.length_map]; omega) hc (by omega) hmx hlen
     refine ⟨v', w', hr, (Es.of_own (n := l.length + news.length) (by rw [List.map_append]; exact ho)).more hB, ?_⟩
     refine ⟨⟨hg.os, hg.tape, hg.output, hg.size, fun j hj _ => hg.block j hj (by simp)⟩, fun p hp j hj => ?_⟩
     injection hp with hp
     subst hp
     exact World.cell?_of_block (w := w) (a := ⟨g, j, none⟩) (hg.block g h2 (by simp))
end
section
variable {P : Program} {c : α → Value} {w : World} {B : Nat} {v : Value} {l : List α} {T E : TypeId} {z : Value} {bytes : Nat} {ops : Array Oper} {rest : List Oper} {o : Oper} {a : Act} {Q : Exit → Act → World → Prop}
theorem wp_append1_r {K : Act → World → Prop} (k : Ty P T E z bytes) (hone : ∀ x, (c x).oneCell' = true) (s x : Operand) (ho : o.op = .call { callee := .builtin .append, args := #[s, x], argTypes := #[T, T] }) (hs : a.eval s = v) (hb : Es c w B v l) (hB : B ≤ w.heap.size)
   (b : α) (u : Value) (hu : u = c b) (hx : a.eval x = .slice (some ⟨w.heap.size, 0, none⟩) 1 1) (hlen : (l.length + 1) * bytes ≤ 140737488355328) (hmx : l.length + 1 ≤ maxLen)
   (h : ∀ v' w', Es c w' B v' (l ++ [b]) → w.grownBy w' v.ownBlock → (∀ p, v.ownBlock = some p → ∀ j, j < l.length → w'.cell? ⟨p, j, none⟩ = w.cell? ⟨p, j, none⟩) → K (a.put o.dst v') w') : o.wp P a (w.alloc (.cells #[u] E)) K Q := by
 subst hu
 obtain ⟨v', w', hr, h1, h2, h3⟩ := run_append_r k hone o.type (hb.alloc (.cells #[c b] E)) (by simp; omega) ⟨w.heap.size, 0, none⟩ 1 1 [b] rfl (cell_one_new w (c b) E) hlen hmx
 unfold Oper.wp execOp
 simp only [ho, resolve, invoke, builtin, Sem.run_bind, Sem.run_pure, Result.andThen_ok, List.map_toArray, List.map_cons, List.map_nil, hs, hx]
 rw [hr]
 exact h v' w' h1 ((World.grownBy_alloc w _ _).trans h2) (fun p hp j hj => (h3 p hp j hj).trans (World.cell?_alloc_lt _ _ _ (hb.lt p hp).2))
theorem wpList_append1_r (k : Ty P T E z bytes) (hone : ∀ x, (c x).oneCell' = true) (hgd : o.guard = none) (s x : Operand) (ho : o.op = .call { callee := .builtin .append, args := #[s, x], argTypes := #[T, T] }) (hs : a.eval s = v) (hb : Es c w B v l) (hB : B ≤ w.heap.size)
   (b : α) (u : Value) (hu : u = c b) (hx : a.eval x = .slice (some ⟨w.heap.size, 0, none⟩) 1 1) (hlen : (l.length + 1) * bytes ≤ 140737488355328) (hmx : l.length + 1 ≤ maxLen)
   (h : ∀ v' w', Es c w' B v' (l ++ [b]) → w.grownBy w' v.ownBlock → (∀ p, v.ownBlock = some p → ∀ j, j < l.length → w'.cell? ⟨p, j, none⟩ = w.cell? ⟨p, j, none⟩) → wpList P ops Q rest (a.put o.dst v') w') : wpList P ops Q (o :: rest) a (w.alloc (.cells #[u] E)) :=
 wpList_plain hgd fun _ hK => wp_append1_r k hone s x ho hs hb hB b u hu hx hlen hmx fun v' w' h1 h2 h3 => hK _ _ (h v' w' h1 h2 h3)
end
end Own
end
end Go.Proofs.YtlggpefmojacoaaGreatDoor
namespace Go.Proofs.YtlggpefmojacoaaGreatDoor
section
open Go.RowKit Go.Shelf Tx
attribute [local go_sem] Oper.semAt_some
namespace Ar
open Va (Vr VS getD Sorted)
theorem ptrTy : Own.Ty Tryz.prog 87 61 (.pointer none) 8 := ⟨by kernel_rfl, by kernel_rfl, rfl⟩
structure JI (w : World) (vb nc sb g k z : Nat) (bl : List Nat) (L : List Nt) (R0 : V) (i : Nat) (W : World) : Prop where
 zs : z ≤ W.heap.size
 box : W.cell? ⟨w.heap.size, 0, none⟩ = some (.pointer (some ⟨vb, 0, none⟩))
 bl : BL sb g k bl W
 on : Only (· = vb) w W
 ex : ∃ n l, rng n ∧ W.heap[nc]? = some (.cells #[.int .i64 n] 3 (0, 0)) ∧ EM W vb l ∧ R0 = evS (L.take (L.length - i)) (.ok (n, l)) ∧ l.length + szS (L.take (L.length - i)) ≤ 100000
section
variable {w : World} {vb nc sb g k z i : Nat} {bl : List Nat} {L : List Nt} {R0 : V} {A B : World}
theorem JI.cs (h : JI w vb nc sb g k z bl L R0 i A) (hc : Rp.Cs z A B) (h1 : vb < z) (h2 : w.heap.size ≤ z) : JI w vb nc sb g k z bl L R0 i B := by
 obtain ⟨n, l, hg, hr, he, hR, hl⟩ := h.ex
 exact ⟨Nat.le_trans h.zs hc.size, hc.cell h.box, ⟨hc.cell h.bl.box, fun j hj => hc.cell (h.bl.el j hj)⟩, only_cs h.on hc h2, n, l, hg, hc.row _ _ _ _ hr, hc' he hc h1, hR, hl⟩
where hc' {l : List Vr} (he : EM A vb l) (hc : Rp.Cs z A B) (h1 : vb < z) : EM B vb l := he.cs hc h1
theorem JI.next {n m : Int} {l2 : List Vr} {C : World} (h : JI w vb nc sb g k z bl L R0 i A) (hr : A.heap[nc]? = some (.cells #[.int .i64 n] 3 (0, 0))) (hB : Only (· = vb) A B) (he : EM B vb l2) (hC : C = B.setCell ⟨nc, 0, none⟩ (.int .i64 m)) (hv : vb < w.heap.size) (hg : w.heap.size < g) (hgn : g < nc) (hs : sb = nc + 1) (hz : z = nc + 2) (hm : rng m)
   (hR : R0 = evS (L.take (L.length - (i + 1))) (.ok (m, l2))) (hl : l2.length + szS (L.take (L.length - (i + 1))) ≤ 100000) : JI w vb nc sb g k z bl L R0 (i + 1) C := by
 subst hC
 have hrow := et_row' hr hB (by omega)
 have hst : ∀ q, q < z → q ≠ nc → q ≠ vb → (B.setCell ⟨nc, 0, none⟩ (.int .i64 m)).heap[q]? = A.heap[q]? := fun q hq h1 h2 => (Below.heap_setCell _ _ _ _ (by show q ≠ nc; omega)).trans (hB.block q (by have := h.zs; omega) h2)
 refine ⟨by simpa [World.setCell] using Nat.le_trans h.zs hB.size, (World.cell?_of_block (w := A) (a := ⟨w.heap.size, 0, none⟩) (hst _ (by show w.heap.size < z; omega) (by show w.heap.size ≠ nc; omega) (by show w.heap.size ≠ vb; omega))).trans h.box,
   ⟨(World.cell?_of_block (w := A) (a := ⟨sb, 0, none⟩) (hst _ (by show sb < z; omega) (by show sb ≠ nc; omega) (by show sb ≠ vb; omega))).trans h.bl.box, fun j hj => (World.cell?_of_block (w := A) (a := ⟨g, j, none⟩) (hst _ (by show g < z; omega) (by show g ≠ nc; omega) (by show g ≠ vb; omega))).trans (h.bl.el j hj)⟩,
   only_cell (only_two h.on hB) (by omega) _ _, m, l2, hm, ?_, he.setInt hrow (by omega) _, hR, hl⟩
 have := heap_setCell_same B nc 0 _ _ (.int .i64 m) hrow
 simpa using this
where et_row' {n : Int} {A B : World} {vb nc : Nat} (hr : A.heap[nc]? = some (.cells #[.int .i64 n] 3 (0, 0))) (hB : Only (· = vb) A B) (hn : nc ≠ vb) : B.heap[nc]? = some (.cells #[.int .i64 n] 3 (0, 0)) := (hB.block nc (Array.getElem?_eq_some_iff.1 hr).1 hn).trans hr
end
theorem res_join (tmps : Array Value) (W : World) (v : Value) (ht : tmps[4]?.getD undef = v) : (results Tryz.f42 tmps).run Tryz.prog W = .ok v W := by
 simp [results, Tryz.f42, go_sem, ht]
set_option maxHeartbeats 8000000 in
set_option maxRecDepth 100000 in
theorem join_any (vb : Nat) (e : Ex) (hI : Kept (∀ y, sz y < sz e → Wf y → VC vb y)) (hw : Wf e) (he : ∃ o a b, e = .bin o a b) (w : World) (l : List Vr) (u : Value) (hE : EM w vb l) (hT : ET (Nw (vb + 1)) w e u) (hl : l.length + sz e ≤ 100000) :
   Calls Tryz.prog 42 #[.pointer (some ⟨vb, 0, none⟩), u] w (VE w vb (ev e l)) := by
 obtain ⟨b0, rfl, _, _⟩ := hT.ptr
 have HE := Kept.mk hE
 have HT := Kept.mk hT
 have HL := Kept.mk hl
 have HW := Kept.mk hw
 have HB := Kept.mk he
 have HVl := Kept.mk hE.lt
 obtain ⟨R0, hR⟩ : ∃ R0, R0 = ev e l := ⟨_, rfl⟩
 rw [← hR]
 have HR := Kept.mk hR
 clear hE hT hl hw he hR
 refine Rp.calls_of Tryz.func42 rfl ?_
 simp only [Tryz.ntmps42, List.size_toArray, List.length_cons, List.length_nil, Nat.reduceAdd, Nat.reduceSub, Array.replicate_succ, Array.replicate_zero, List.push_toArray, List.append_toArray, List.nil_append, List.cons_append]
 refine Rp.at_seq_k (fun Q1 h1 h1p => ?_)
 have H1 := Kept.mk h1
 clear h1 h1p
 go_wp2_with fail
 refine H1.out _ _ ?_
 clear H1
 refine Rp.at_seq_k (fun Q1 h1 h1p => ?_)
 have H1 := Kept.mk h1
 clear h1 h1p
 go_wp2_with fail
 refine H1.out _ _ ?_
 clear H1
 refine Rp.at_seq_k (fun Q1 h1 h1p => ?_)
 have H1 := Kept.mk h1
 clear h1 h1p
 obtain ⟨w1, hw1⟩ : ∃ w1, w1 = w.alloc (.cells #[.pointer (some ⟨vb, 0, none⟩)] 72) := ⟨_, rfl⟩
 rw [← hw1]
 have HB1 : Kept (Below w.heap.size w w1) := ⟨by rw [hw1]; exact (Below.refl _ _).alloc (Nat.le_refl _) _⟩
 have HS1 : Kept (w1.heap.size = w.heap.size + 1) := ⟨by rw [hw1]; simp⟩
 have HX1 : Kept (w1.cell? ⟨w.heap.size, 0, none⟩ = some (.pointer (some ⟨vb, 0, none⟩))) := ⟨by rw [hw1]; exact cell_of_row _ _ 0 _ _ _ (heap_alloc_new w _)⟩
 clear hw1
 go_wp2_with fail
 go_loopg [1, 5] (sz e) (fun m eV iV wr => ∃ x b L bl, sz x ≤ m ∧ Kept (bl = L.map (·.1)) ∧ eV = .pointer (some ⟨b, 0, none⟩) ∧ Kept (ET (Nw (vb + 1)) w x (.pointer (some ⟨b, 0, none⟩))) ∧ Kept (Own.Es pv wr (w.heap.size + 1) iV bl) ∧ Kept (R0 = evS L (ev x l)) ∧ Kept (sz x + szS L ≤ sz e) ∧ Kept (∀ t ∈ L, SpE w vb t) ∧ Kept (Wf x) ∧ Kept (Below w1.heap.size w1 wr) ∧ Kept (x = e ∨ (sz x < sz e ∧ L ≠ [])))
 case atStart => exact ⟨e, b0, [], [], Nat.le_refl _, ⟨rfl⟩, rfl, HT, ⟨Own.Es.nil _ _ _⟩, HR, ⟨by rw [szS]; omega⟩, ⟨fun t ht => by cases ht⟩, HW, ⟨Below.refl _ _⟩, ⟨.inl rfl⟩⟩
 case round =>
   obtain ⟨x, b, L, bl, hm, HbL, rfl, HTx, HEs, HRx, HSz, HSp, HWx, HBl, HXe⟩ := hrel
   have HM := Kept.mk hm
   clear hm
   obtain ⟨LA, LK, rfl⟩ := HEs.out.len
   have HbN : Kept (bl.length = L.length) := ⟨by rw [HbL.out, List.length_map]⟩
   by_cases hbin : ∃ o a c, x = .bin o a c
   · obtain ⟨o, a, c, rfl⟩ := hbin
     obtain ⟨b', f, s, hv, hnw, hr, hTa, hTc⟩ := HTx.out
     cases hv
     obtain ⟨ba, rfl, hna, _⟩ := hTa.ptr
     have ho0 : Only (· = vb) w wr := only_bl (HB1.out.trans (HBl.out.mono (by have := HS1.out; omega)))
     have hr1 := et_row hr hnw ho0
     have c0 := cell_of_row wr b 0 _ _ _ hr1
     have c4 := cell_of_row wr b 4 _ _ _ hr1
     have HRow := Kept.mk hr
     have HNw := Kept.mk hnw
     have HS : Kept (SpE w vb (b, o, c)) := ⟨⟨HWx.out.1, HWx.out.2.2, _, _, ⟨hr, hnw⟩, hTc⟩⟩
     have HA := Kept.mk hTa
     have HRa : Kept (R0 = evS (L ++ [(b, o, c)]) (ev a l)) := ⟨by rw [evS_push, HRx.out, ev]; rfl⟩
     have HbL2 : Kept (bl ++ [b] = (L ++ [(b, o, c)]).map (·.1)) := ⟨by rw [HbL.out]; simp⟩
     have HWa := Kept.mk HWx.out.2.1
     have hl1 : (bl.length + 1) * 8 ≤ 140737488355328 := by have := len_szS L; have := HSz.out; have := HL.out; have := HbN.out; omega
     have hl2 : bl.length + 1 ≤ maxLen := by unfold maxLen; have := len_szS L; have := HSz.out; have := HL.out; have := HbN.out; omega
     have HSz2 : Kept (sz a + szS (L ++ [(b, o, c)]) ≤ sz e) := ⟨by have := HSz.out; rw [sz] at this; rw [szS_push]; simp only; omega⟩
     have HLt : Kept (sz a < sz e) := ⟨by have := HSz.out; rw [sz] at this; omega⟩
     have HM2 : Kept (sz a < gk) := ⟨by have := HM.out; rw [sz] at this; omega⟩
     have HSp2 : Kept (∀ t ∈ L ++ [(b, o, c)], SpE w vb t) := ⟨fun t ht => by
       rcases List.mem_append.1 ht with ht | ht
       · exact HSp.out t ht
       · rw [List.mem_singleton.1 ht]; exact HS.out⟩
     clear hr hr1 hTa hTc ho0 hna HTx HRx HWx HSz HM HXe HS HSp
     go_wp2_with (at_builtin
                  refine Own.wpList_append1_r ptrTy (fun _ => rfl) rfl _ _ rfl rfl HEs.out (by have := HBl.out.size; have := HS1.out; omega) b _ rfl rfl hl1 hl2 ?_
                  intro v2 w2 hE2 hg2 _
                  have HE2 := Kept.mk hE2
                  have HB2 : Kept (Below w1.heap.size w1 w2) := ⟨HBl.out.grown hg2 HBl.out.size (fun k hk => by have := (HEs.out.lt k hk).1; have := HS1.out; omega)⟩
                  have ho2 : Only (· = vb) w w2 := only_bl (HB1.out.trans (HB2.out.mono (by have := HS1.out; omega)))
                  have d4 := cell_of_row w2 b 4 _ _ _ (et_row HRow.out HNw.out ho2)
                  clear hE2 hg2 ho2 c4)
     go_roundg (sz a)
     case measure => exact HM2.out
     case rel => exact ⟨a, ba, _, _, Nat.le_refl _, HbL2, rfl, HA, HE2, HRa, HSz2, HSp2, HWa, HB2, ⟨.inr ⟨HLt.out, by simp⟩⟩⟩
   · have ho0 : Only (· = vb) w wr := only_bl (HB1.out.trans (HBl.out.mono (by have := HS1.out; omega)))
     obtain ⟨k0, c0, hz⟩ := (HTx.out.move ho0).kind fun o a c hx => hbin ⟨o, a, c, hx⟩
     have HO0 := Kept.mk ho0
     have HNb := Kept.mk hbin
     clear ho0 hbin HM
     have hxl : sz x < sz e ∧ L ≠ [] := by
       rcases HXe.out with rfl | h
       · exact absurd HB.out HNb.out
       · exact h
     have HLt := Kept.mk hxl.1
     have HNe := Kept.mk hxl.2
     clear hxl HXe
     go_wp2_with fail
     refine H1.out _ _ ?_
     clear H1 c0 hz
     refine Rp.at_seq_k (fun Q2 h2 h2p => ?_)
     have H2 := Kept.mk h2
     have H2p := Kept.mk h2p
     clear h2 h2p
     have hbx : wr.cell? ⟨w.heap.size, 0, none⟩ = some (.pointer (some ⟨vb, 0, none⟩)) := (World.cell?_of_block (w := w1) (a := ⟨w.heap.size, 0, none⟩) (HBl.out.block w.heap.size (by have := HS1.out; omega))).trans HX1.out
     go_wp2_with fail
     go_at_call 30
     refine ((hI.out x HLt.out HWx.out) wr l _ (HE.out.below (HB1.out.trans (HBl.out.mono (by have := HS1.out; omega)))) (HTx.out.move HO0.out) (by have := HL.out; have := HLt.out; omega)).mono ?_
     intro q w3 hV
     cases hx : ev x l with
     | error c =>
       rw [hx] at hV
       have HRr : Kept (R0 = .error c) := ⟨by rw [HRx.out, hx, evS_err]⟩
       obtain ⟨rfl, hq⟩ := hV
       refine H2p.out _ _ _ ?_
       rw [HRr.out]
       have HF : Kept (Only (· = vb) w w3) := ⟨only_two HO0.out hq.out⟩
       first | exact ⟨rfl, rfl, HF⟩ | exact ⟨rfl, HF⟩
     | ok z =>
       obtain ⟨n, l1⟩ := z
       rw [hx] at hV
       obtain ⟨rfl, he3, ho3⟩ := hV
       have HRr : Kept (R0 = evS L (.ok (n, l1))) := ⟨by rw [HRx.out, hx]⟩
       have HRng : Kept (rng n) := ⟨(ev_ok HWx.out HE.out.ok hx).2.1⟩
       have HLn : Kept (l1.length ≤ l.length + sz x) := ⟨(ev_ok HWx.out HE.out.ok hx).2.2⟩
       have HE3 := he3
       have HO3 : Kept (Only (· = vb) w w3) := ⟨only_two HO0.out ho3.out⟩
       have HBox := Kept.mk hbx
       clear he3 hx
       go_wp2_with fail
       refine H2.out _ _ ?_
       clear H2 H2p
       obtain ⟨nc, hnc⟩ : ∃ nc, nc = w3.heap.size := ⟨_, rfl⟩
       obtain ⟨w4, hw4⟩ : ∃ w4, w4 = w3.alloc (.cells #[.int .i64 n] 3) := ⟨_, rfl⟩
       have HN4 : Kept (w4.heap[nc]? = some (.cells #[.int .i64 n] 3 (0, 0))) := ⟨by rw [hw4, hnc]; exact heap_alloc_new w3 _⟩
       have HB4 : Kept (Below w3.heap.size w3 w4) := ⟨by rw [hw4]; exact (Below.refl _ _).alloc (Nat.le_refl _) _⟩
       have HE4 : Kept (EM w4 vb l1) := ⟨HE3.out.below HB4.out⟩
       have HS4 : Kept (w4.heap.size = nc + 1) := ⟨by rw [hw4, hnc]; simp⟩
       have HK4 : Kept (∀ k, k < wr.heap.size → k ≠ vb → w4.heap[k]? = wr.heap[k]?) := ⟨fun k hk hn => (HB4.out.block k (by have := ho3.out.size; omega)).trans (ho3.out.block k hk hn)⟩
       have HO4 : Kept (Only (· = vb) w w4) := ⟨only_on HO3.out HB4.out⟩
       have HNl : Kept (wr.heap.size ≤ nc) := ⟨by rw [hnc]; exact ho3.out.size⟩
       rw [← hnc, ← hw4]
       clear hw4 hnc ho3 HE3 HO3 hbx HB4
       refine Rp.at_seq ?_
       refine Rp.at_seq_k (fun Q3 h3 h3p => ?_)
       have H3 := Kept.mk h3
       clear h3 h3p
       go_wp2_with (go_at_call 58; refine (backward_any _ _ _ _).mono ?_; rintro q w5 ⟨rfl, hw5⟩)
       refine H3.out _ _ ?_
       clear H3
       refine Rp.at_block ?_
       obtain ⟨w5, hw5⟩ : ∃ w5, w5 = w4.alloc (.cells #[.slice LA bl.length LK] 87) := ⟨_, rfl⟩
       rw [← hw5]
       rcases HEs.out with ⟨_, h0⟩ | ⟨g, cap, hv, g1, g2, _, _, _, g6⟩
       · exact absurd (show L = [] by have := HbL.out; rw [h0] at this; cases L with | nil => rfl | cons t L => cases this) HNe.out
       injection hv with hv1 _ hv3
       subst hv1 hv3
       have hN : bl.length = L.length := HbN.out
       have hB5 : Below w4.heap.size w4 w5 := by rw [hw5]; exact (Below.refl _ _).alloc (Nat.le_refl _) _
       have hS5 : w5.heap.size = nc + 2 := by rw [hw5, World.size_alloc, HS4.out]
       have hvl := HVl.out
       have hnl := HNl.out
       have hwl := HO0.out.size
       have hJ0 : JI w vb nc w4.heap.size g LK w5.heap.size bl L R0 0 w5 := by
         refine ⟨Nat.le_refl _, ?_, ⟨?_, fun j hj => ?_⟩, only_on HO4.out hB5, n, l1, HRng.out, (hB5.block nc (by have := HS4.out; omega)).trans HN4.out, HE4.out.below hB5, ?_, ?_⟩
         · exact (World.cell?_of_block (w := wr) (a := ⟨w.heap.size, 0, none⟩) ((hB5.block w.heap.size (by have := HS4.out; omega)).trans (HK4.out w.heap.size (by omega) (by omega)))).trans HBox.out
         · rw [hw5]; exact cell_of_row _ _ 0 _ _ _ (heap_alloc_new w4 _)
         · exact (World.cell?_of_block (w := wr) (a := ⟨g, j, none⟩) ((hB5.block g (by have := HS4.out; omega)).trans (HK4.out g g2 (by omega)))).trans (g6 j _ (by simp [hj, pv]))
         · rw [Nat.sub_zero, List.take_length]; exact HRr.out
         · rw [Nat.sub_zero, List.take_length]; have := HLn.out; have := HSz.out; have := HL.out; omega
       refine Rp.at_range (f := 42) Tryz.func42 rfl (Rp.enter_of Tryz.func82 (by kernel_rfl) rfl) (back_any w4.heap.size g LK bl (by have := len_szS L; have := HSz.out; have := HL.out; omega)) (fun i => rfl) (JI w vb nc w4.heap.size g LK w5.heap.size bl L R0) (fun ch W => ∃ c, ch = pan c ∧ R0 = .error c ∧ Only (· = vb) w W) (fun i W h => h.bl) (fun i A B h hc => h.cs hc (by omega) (by omega)) hJ0
         (fun i => { tmps := #[.pointer (some ⟨vb, 0, none⟩), .pointer (some ⟨b, 0, none⟩), .pointer (some ⟨w.heap.size, 0, none⟩), undef, .int .i64 0, .slice (some ⟨g, 0, none⟩) bl.length LK, .pointer (some ⟨nc, 0, none⟩), undef, .pointer (some ⟨bl.getD (bl.length - 1 - i) 0, 0, none⟩), .pointer (some ⟨b, 0, none⟩), .pointer (some ⟨b, 0, none⟩), .pointer (some ⟨b, 0, none⟩), .int .i64 k0, .bool false, u14, u15, u16, u17, u18, u19, u20, u21, .pointer (some ⟨vb, 0, none⟩), .pointer (some ⟨b, 0, none⟩), .int .i64 n, .slice (some ⟨g, 0, none⟩) bl.length LK, .func (.func 82) #[] #[.pointer (some ⟨w4.heap.size, 0, none⟩)], .int .i64 ((bl.length - 1 - i : Nat) : Int), .pointer (some ⟨bl.getD (bl.length - 1 - i) 0, 0, none⟩), undef, undef, undef, undef, undef], defers := [] })
         ?ha ?hb ?hd ?hx
       case ha =>
         intro l0 i W K hK
         have HK := Kept.mk hK
         clear hK hN
         unfold encB
         generalize bl.getD (bl.length - 1 - i) 0 = q at *
         generalize ((bl.length - 1 - i : Nat) : Int) = r at *
         gi_wp2
         exact HK.out
       case hb =>
         intro l0 i W hJ hi hz
         have hi2 : i < L.length := by omega
         obtain ⟨n1, l2, hrg, hr, heW, hRi, hli⟩ := hJ.ex
         obtain ⟨t, ht⟩ : ∃ t, t = L[L.length - 1 - i]'(by omega) := ⟨_, rfl⟩
         have htk := take_back L i hi2
         rw [← ht] at htk
         have hbt : bl.getD (bl.length - 1 - i) 0 = t.1 := by
           rw [ht, hN]
           simp only [HbL.out, List.getD_eq_getElem?_getD, List.getElem?_map]
           rw [List.getElem?_eq_getElem (by omega)]
           rfl
         have hsp := (HSp.out t (by rw [ht]; exact List.getElem_mem _)).only hJ.on
         obtain ⟨hop, hwf, f, s, hbn, hts⟩ := hsp
         rw [htk, evS_push] at hRi
         rw [htk, szS_push] at hli
         have hst : sz t.2.2 < sz e := by
           have h1 := mem_szS (L := L) (t := t) (by rw [ht]; exact List.getElem_mem _)
           have := HSz.out
           omega
         have HV := Kept.mk (second_any vb t.2.1 t.2.2 ⟨hI.out _ hst hwf⟩ hop W l2 t.1 f s n1 heW hbn hts (by omega))
         have HJ := Kept.mk hJ
         have HRow := Kept.mk hr
         have HRi := Kept.mk hRi
         have HLi := Kept.mk hli
         have c0 := hJ.box
         have c1 := cell_of_row W nc 0 _ _ _ hr
         rw [hbt]
         obtain ⟨bt, hbt2⟩ : ∃ bt, bt = t.1 := ⟨_, rfl⟩
         obtain ⟨R1, hR1⟩ : ∃ R1, R1 = snd t.2.1 n1 (ev t.2.2) l2 := ⟨_, rfl⟩
         rw [← hbt2, ← hR1] at HV
         rw [← hbt2]
         have HH : Kept (CallsIn (Fence.wide.inRound l0) 0 Tryz.prog 59 #[.pointer (some ⟨vb, 0, none⟩), .pointer (some ⟨bt, 0, none⟩), .int .i64 n1] W (VE W vb R1)) := ⟨CallsIn.inRound (n := 0) l0 (callsIn_wide.2 HV.out)⟩
         have hRi3 : R0 = evS (L.take (L.length - (i + 1))) R1 := by rw [hR1]; exact hRi
         have HRn := Kept.mk hRi3
         have hok : ∀ m l3, R1 = .ok (m, l3) → rng m ∧ l3.length ≤ l2.length + sz t.2.2 := fun m l3 h => by
           have hk := snd_ok (o := t.2.1) (n := n1) (f := ev t.2.2) (k := sz t.2.2) heW.ok hrg (fun m l4 h4 => ev_ok (e := t.2.2) hwf heW.ok h4) (hR1.symm.trans h)
           exact hk.2
         have HOk := Kept.mk hok
         have HZ := Kept.mk hz
         have HS5 := Kept.mk hS5
         clear hbt2 hJ hi hz hr heW hRi hli ht htk hbt hop hwf hbn hts hst hN hB5 hS5 hRi3 hR1 hok
         generalize ((bl.length - 1 - i : Nat) : Int) = r at *
         gi_wp2_with fail
         refine And.intro trivial ?_
         refine And.intro (show Fence.wide.depth = none from rfl) ?_
         gi_at_call 59
         refine HH.out.mono ?_
         intro q W2 hV
         have hW2 := HZ.out
         have hS6 := HS5.out
         cases R1 with
         | error c =>
           obtain ⟨rfl, hq⟩ := hV
           exact ⟨rfl, hq.out.size, fun k h1 h2 => hq.out.block k h2 (by omega), c, rfl, by rw [HRn.out, evS_err], only_two HJ.out.on hq.out⟩
         | ok y =>
           obtain ⟨m, l3⟩ := y
           obtain ⟨rfl, he2, hq⟩ := hV
           have HQ := hq
           have HE2 := he2
           have d0 := (World.cell?_of_block (w := W) (a := ⟨nc, 0, none⟩) (hq.out.block nc (by have := (Array.getElem?_eq_some_iff.1 HRow.out).1; exact this) (by omega))).trans c1
           have d1 := frozen_of_row _ nc 0 _ _ ((hq.out.block nc (by have := (Array.getElem?_eq_some_iff.1 HRow.out).1; exact this) (by omega)).trans HRow.out)
           clear hq he2 c0 c1
           gi_wp2_with fail
           have hk := HOk.out m l3 rfl
           exact ⟨by simpa [World.setCell] using HQ.out.size, fun k h1 h2 => (Below.heap_setCell _ _ _ _ (by show k ≠ nc; omega)).trans (HQ.out.block k h2 (by omega)), HJ.out.next HRow.out HQ.out HE2.out rfl hvl (by omega) (by omega) HS4.out hS6 hk.1 HRn.out (by have := HLi.out; omega)⟩
       case hd =>
         intro D W hD hJ hK
         obtain ⟨n1, l2, hrg, hr, heW, hRi, hli⟩ := hJ.ex
         have HRn : Kept (R0 = .ok (n1, l2)) := ⟨by rw [hRi, hN, Nat.sub_self]; rfl⟩
         have c1 := cell_of_row W nc 0 _ _ _ hr
         have HEm : Kept (EM (W.putObj D (.deferred none)) vb l2) := ⟨heW.cs (Rp.Cs.putd (z := w5.heap.size) (.deferred none) hK hD) (by omega)⟩
         have HOn : Kept (Only (· = vb) w (W.putObj D (.deferred none))) := ⟨only_put hJ.on (show w.heap.size ≤ D by omega) (.deferred none)⟩
         have HKp := Kept.mk hK
         clear hJ hr heW hRi hli hN hK
         refine Rp.at_of ?_
         go_wp2_with fail
         refine ⟨by simp, .inl ⟨_, _, rfl, run_takeDeferred HKp.out, ?_⟩⟩
         refine ⟨_, res_join _ _ _ rfl, ?_⟩
         rw [HRn.out]
         exact ⟨rfl, HEm, HOn⟩
       case hx =>
         intro D ch W hD hp hK
         obtain ⟨c, rfl, hR, ho⟩ := hp
         have HF := Kept.mk (only_put ho (show w.heap.size ≤ D by omega) (.deferred none))
         refine ⟨by simp, .inl ⟨_, _, rfl, run_takeDeferred hK, ?_⟩⟩
         rw [hR]
         first | exact ⟨rfl, HF⟩ | exact ⟨rfl, rfl, HF⟩ | exact ⟨by simp, rfl, HF⟩
end Ar
end
end Go.Proofs.YtlggpefmojacoaaGreatDoor
