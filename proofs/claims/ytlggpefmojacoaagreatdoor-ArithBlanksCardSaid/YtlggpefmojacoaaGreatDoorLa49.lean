/-
  Parts of the proof, merged.
-/
import Derived.Test.YtlggpefmojacoaaGreatDoorLa01
import Derived.Test.YtlggpefmojacoaaGreatDoorLa48
namespace Go.Proofs.YtlggpefmojacoaaGreatDoor
section
open Go.RowKit Tx
namespace Ar
open Va (Vr VS getD Sorted)
abbrev Nt := Nat × Tok × Ex
def stp (t : Nt) (r : V) : V := match r with | .error c => .error c | .ok (n, l) => snd t.2.1 n (ev t.2.2) l
def evS (L : List Nt) (r : V) : V := L.foldr stp r
theorem evS_push (L : List Nt) (t : Nt) (r : V) : evS (L ++ [t]) r = evS L (stp t r) := by simp [evS]
theorem evS_err (c : Int) : ∀ L : List Nt, evS L (.error c) = .error c
 | [] => rfl
 | t :: L => by
   show stp t (evS L _) = _
   rw [evS_err c L]
   rfl
def szS : List Nt → Nat
 | [] => 0
 | t :: L => szS L + (1 + sz t.2.2)
theorem szS_push (t : Nt) : ∀ L : List Nt, szS (L ++ [t]) = szS L + (1 + sz t.2.2)
 | [] => rfl
 | u :: L => by
   show szS (L ++ [t]) + _ = _
   rw [szS_push t L, szS]
   omega
theorem len_szS : ∀ L : List Nt, L.length ≤ szS L
 | [] => Nat.le_refl _
 | _ :: L => by
   have := len_szS L
   rw [szS, List.length_cons]
   omega
theorem mem_szS {t : Nt} : ∀ {L : List Nt}, t ∈ L → sz t.2.2 < szS L
 | u :: L, h => by
   rw [szS]
   rcases List.mem_cons.1 h with rfl | h
   · omega
   · have := mem_szS h
     omega
def SpE (w : World) (vb : Nat) (t : Nt) : Prop := (t.2.1 = [124, 124] ∨ t.2.1 = [38, 38] ∨ t.2.1 ∈ op2) ∧ Wf t.2.2 ∧ ∃ f s, BN w vb t.1 t.2.1 f s ∧ ET (Nw (vb + 1)) w t.2.2 s
theorem SpE.only {w w' : World} {vb : Nat} {t : Nt} (h : SpE w vb t) (ho : Only (· = vb) w w') : SpE w' vb t := by
 obtain ⟨h1, h2, f, s, hb, hs⟩ := h
 exact ⟨h1, h2, f, s, ⟨et_row hb.row hb.nw ho, hb.nw⟩, hs.move ho⟩
theorem only_bl {B : Nat → Prop} {w w' : World} (h : Below w.heap.size w w') : Only B w w' := ⟨h.os, h.tape, h.output, h.size, fun k hk _ => h.block k hk⟩
theorem only_put {vb D : Nat} {w W : World} (h : Only (· = vb) w W) (hD : w.heap.size ≤ D) (o : Obj) : Only (· = vb) w (W.putObj D o) :=
 ⟨h.os, h.tape, h.output, by simpa using h.size, fun k hk hn => (World.putObj_heap_other (by omega)).trans (h.block k hk hn)⟩
theorem only_cell {vb D : Nat} {w W : World} (h : Only (· = vb) w W) (hD : w.heap.size ≤ D) (j : Nat) (v : Value) : Only (· = vb) w (W.setCell ⟨D, j, none⟩ v) :=
 ⟨h.os, h.tape, h.output, by simpa [World.setCell] using h.size, fun k hk hn => (Below.heap_setCell _ _ _ _ (by show k ≠ D; omega)).trans (h.block k hk hn)⟩
theorem only_cs {vb z : Nat} {w A B : World} (h : Only (· = vb) w A) (hc : Rp.Cs z A B) (hz : w.heap.size ≤ z) : Only (· = vb) w B :=
 ⟨hc.os.trans h.os, hc.tape.trans h.tape, hc.output.trans h.output, Nat.le_trans h.size hc.size, fun k hk hn => (hc.low k (by omega) (Nat.lt_of_lt_of_le hk h.size)).trans (h.block k hk hn)⟩
theorem EM.cs {vb z : Nat} {l : List Vr} {A B : World} (h : EM A vb l) (hc : Rp.Cs z A B) (hz : vb < z) : EM B vb l := by
 obtain ⟨a, k, hr, hv⟩ := h.row
 obtain ⟨b, hb, hk⟩ := h.kb
 refine ⟨⟨a, k, hc.row _ _ _ _ hr, hv.cap, hv.nil, fun hl => ?_⟩, ⟨b, hb, hk.below ⟨hc.os, hc.tape, hc.output, hc.size, fun k hk2 => hc.low k (by omega) (Nat.lt_of_lt_of_le hk2 hk.le)⟩⟩, h.ok⟩
 obtain ⟨g, off, h1, h3, h4⟩ := hv.mem hl
 exact ⟨g, off, h1, Nat.lt_of_lt_of_le h3 hc.size, fun j u hu => hc.cell (h4 j u hu)⟩
theorem EM.setInt {vb nc : Nat} {l : List Vr} {w : World} {n : Int} {t : TypeId} {q : Nat × Nat} (h : EM w vb l) (hn : w.heap[nc]? = some (.cells #[.int .i64 n] t q)) (hlt : vb < nc) (v : Value) : EM (w.setCell ⟨nc, 0, none⟩ v) vb l := by
 obtain ⟨a, k, hr, hv⟩ := h.row
 obtain ⟨b, hb, hk⟩ := h.kb
 have ho : Only (· = nc) w (w.setCell ⟨nc, 0, none⟩ v) := (Only.refl _ _).setCell _ _ (fun _ => rfl)
 refine ⟨⟨a, k, (Below.heap_setCell _ _ _ _ (by show vb ≠ nc; omega)).trans hr, hv.cap, hv.nil, fun hl => ?_⟩, ⟨b, hb, hk.only ho (by omega)⟩, h.ok⟩
 obtain ⟨g, off, h1, h3, h4⟩ := hv.mem hl
 have hg : g ≠ nc := by
   rintro rfl
   obtain ⟨v, t, rfl⟩ := List.exists_cons_of_ne_nil hl
   have h5 := h4 0 (.string v.name) rfl
   rw [cell_of_row w g (off + 0) _ _ _ hn] at h5
   match off, h5 with
   | 0, h5 => cases h5
   | o + 1, h5 => cases h5
 exact ⟨g, off, h1, by simpa [World.setCell] using h3, fun j u hu => (World.cell?_of_block (w := w) (a := ⟨g, off + j, none⟩) (Below.heap_setCell _ _ _ _ hg)).trans (h4 j u hu)⟩
theorem ET.kind {P : Nat → Prop} {w : World} : ∀ {x : Ex} {b : Nat}, ET P w x (.pointer (some ⟨b, 0, none⟩)) → (∀ o a c, x ≠ .bin o a c) → ∃ k : Int, w.cell? ⟨b, 0, none⟩ = some (.int .i64 k) ∧ (k == 4) = false
 | .lit _, _, ⟨_, hv, _, hr⟩, _ => by cases hv; exact ⟨_, cell_of_row w _ 0 _ _ _ hr, rfl⟩
 | .var _, _, ⟨_, hv, _, hr⟩, _ => by cases hv; exact ⟨_, cell_of_row w _ 0 _ _ _ hr, rfl⟩
 | .asg _ _ _, _, ⟨_, _, hv, _, hr, _⟩, _ => by cases hv; exact ⟨_, cell_of_row w _ 0 _ _ _ hr, rfl⟩
 | .pre _ _, _, ⟨_, _, hv, _, hr, _⟩, _ => by cases hv; exact ⟨_, cell_of_row w _ 0 _ _ _ hr, rfl⟩
 | .bin o a c, _, _, h => absurd rfl (h o a c)
 | .cho _ _ _, _, ⟨_, _, _, _, hv, _, hr, _⟩, _ => by cases hv; exact ⟨_, cell_of_row w _ 0 _ _ _ hr, rfl⟩
def pv (b : Nat) : Value := .pointer (some ⟨b, 0, none⟩)
theorem take_back (L : List Nt) (i : Nat) (h : i < L.length) : L.take (L.length - i) = L.take (L.length - (i + 1)) ++ [L[L.length - 1 - i]'(by omega)] := by
 have h2 : L.length - i = (L.length - 1 - i) + 1 := by omega
 have h3 : L.length - (i + 1) = L.length - 1 - i := by omega
 rw [h2, h3, List.take_succ_eq_append_getElem (by omega)]
end Ar
end
section
open Go.RowKit Go.Lib
namespace Own
variable {α : Type}
section
variable {P : Program} {c : α → Value} {w w' : World} {B : Nat} {v : Value} {l : List α}
theorem run_append_r {T E : TypeId} {z : Value} {bytes : Nat} (k : Ty P T E z bytes) (hone : ∀ x, (c x).oneCell' = true) (ty : TypeId) (h : Es c w B v l) (hB : B ≤ w.heap.size) (ad : Addr) (m q : Nat) (news : List α) (hm : m = news.length)
   (hc : ∀ j u, (news.map c)[j]? = some u → w.cell? (ad.add j) = some u) (hlen : (l.length + news.length) * bytes ≤ 140737488355328) (hmx : l.length + news.length ≤ maxLen) :
   ∃ v' w', (Builtin.append_ #[T, T] ty #[v, .slice (some ad) m q]).run P w = .ok v' w' ∧ Es c w' B v' (l ++ news) ∧ w.grownBy w' v.ownBlock ∧ ∀ p, v.ownBlock = some p → ∀ j, j < l.length → w'.cell? ⟨p, j, none⟩ = w.cell? ⟨p, j, none⟩ := by
 subst hm
 obtain ⟨i, hi, hz, hs, hby⟩ := info_parts k.info
 have h1c : ∀ u ∈ news.map c, u.oneCell' = true := by
   intro u hu
   obtain ⟨x, _, rfl⟩ := List.mem_map.1 hu
   exact hone x
 rcases h with ⟨rfl, rfl⟩ | ⟨g, cap, rfl, h1, h2, h3, h4, h5, h6⟩
 · obtain ⟨v', w', hr, ho, hg, _⟩ := run_append_own (P := P) w B T ty E i z 1 bytes k.und hi hz hs hby k.zone (by omega) _ 0 [] (World.ownsRow_nil w B E 1) ad news.length q (news.map c)
     (by rw [List.length_map]; omega) hc h1c (by simpa using hmx) (by simpa using hlen) hB
   exact ⟨v', w', hr, Es.of_own (n := 0 + news.length) (by simpa using ho), hg, fun p hp => by cases hp⟩
 · by_cases hroom : l.length + news.length ≤ cap
   · have hr := run_append_room_cells (P := P) w T ty E i k.und hi g 0 l.length cap ad news.length q (news.map c) (by rw [List.length_map, hs]; omega) hc h1c hroom
       (fun j hj => by rw [List.length_map] at hj; rw [hs]; exact (h5 _ (by omega)).1) (fun j hj => by rw [List.length_map] at hj; rw [hs]; exact (h5 _ (by omega)).2)
     rw [hs] at hr
     simp only [Nat.mul_one, Nat.zero_add] at hr
     have hh : Es c w B (.slice (some ⟨g, 0, none⟩) l.length cap) l := .inr ⟨g, cap, rfl, h1, h2, h3, h4, h5, h6⟩
     have := hh.room (news := news) hroom
     rw [List.length_append] at this
     exact ⟨_, _, hr, this, By.grown_setCells g _ _ _, fun p hp j hj => World.cell?_setCells_out g _ _ _ _ (fun _ _ => .inl hj)⟩
   · obtain ⟨v', w', hr, ho, hg⟩ := run_append_arg_grows (P := P) w T ty E i z 1 bytes k.und hi hz hs hby k.zone (by omega) ⟨g, 0, none⟩ l.length cap (l.map c) (by rw [List.length_map]; omega)
       (fun j u hj => by rw [By.add_at]; exact h6 j u hj) ad news.length q (news.map c) (by rw [List.length_map]; omega) hc (by omega) hmx hlen
     refine ⟨v', w', hr, (Es.of_own (n := l.length + news.length) (by rw [List.map_append]; exact ho)).more hB, ?_⟩
     refine ⟨⟨hg.os, hg.tape, hg.output, hg.size, fun j hj _ => hg.block j hj (by simp)⟩, fun p hp j hj => ?_⟩
     injection hp with hp
     subst hp
     exact World.cell?_of_block (w := w) (a := ⟨g, j, none⟩) (hg.block g h2 (by simp))
end
section
variable {P : Program} {c : α → Value} {w : World} {B : Nat} {v : Value} {l : List α} {T E : TypeId} {z : Value} {bytes : Nat} {ops : Array Oper} {rest : List Oper} {o : Oper} {a : Act} {Q : Exit → Act → World → Prop}
theorem wp_append1_r {K : Act → World → Prop} (k : Ty P T E z bytes) (hone : ∀ x, (c x).oneCell' = true) (s x : Operand) (ho : o.op = .call { callee := .builtin .append, args := #[s, x], argTypes := #[T, T] }) (hs : a.eval s = v) (hb : Es c w B v l) (hB : B ≤ w.heap.size)
   (b : α) (u : Value) (hu : u = c b) (hx : a.eval x = .slice (some ⟨w.heap.size, 0, none⟩) 1 1) (hlen : (l.length + 1) * bytes ≤ 140737488355328) (hmx : l.length + 1 ≤ maxLen)
   (h : ∀ v' w', Es c w' B v' (l ++ [b]) → w.grownBy w' v.ownBlock → (∀ p, v.ownBlock = some p → ∀ j, j < l.length → w'.cell? ⟨p, j, none⟩ = w.cell? ⟨p, j, none⟩) → K (a.put o.dst v') w') : o.wp P a (w.alloc (.cells #[u] E)) K Q := by
 subst hu
 obtain ⟨v', w', hr, h1, h2, h3⟩ := run_append_r k hone o.type (hb.alloc (.cells #[c b] E)) (by simp; omega) ⟨w.heap.size, 0, none⟩ 1 1 [b] rfl (cell_one_new w (c b) E) hlen hmx
 unfold Oper.wp execOp
 simp only [ho, resolve, invoke, builtin, Sem.run_bind, Sem.run_pure, Result.andThen_ok, List.map_toArray, List.map_cons, List.map_nil, hs, hx]
 rw [hr]
 exact h v' w' h1 ((World.grownBy_alloc w _ _).trans h2) (fun p hp j hj => (h3 p hp j hj).trans (World.cell?_alloc_lt _ _ _ (hb.lt p hp).2))
theorem wpList_append1_r (k : Ty P T E z bytes) (hone : ∀ x, (c x).oneCell' = true) (hgd : o.guard = none) (s x : Operand) (ho : o.op = .call { callee := .builtin .append, args := #[s, x], argTypes := #[T, T] }) (hs : a.eval s = v) (hb : Es c w B v l) (hB : B ≤ w.heap.size)
   (b : α) (u : Value) (hu : u = c b) (hx : a.eval x = .slice (some ⟨w.heap.size, 0, none⟩) 1 1) (hlen : (l.length + 1) * bytes ≤ 140737488355328) (hmx : l.length + 1 ≤ maxLen)
   (h : ∀ v' w', Es c w' B v' (l ++ [b]) → w.grownBy w' v.ownBlock → (∀ p, v.ownBlock = some p → ∀ j, j < l.length → w'.cell? ⟨p, j, none⟩ = w.cell? ⟨p, j, none⟩) → wpList P ops Q rest (a.put o.dst v') w') : wpList P ops Q (o :: rest) a (w.alloc (.cells #[u] E)) :=
 wpList_plain hgd fun _ hK => wp_append1_r k hone s x ho hs hb hB b u hu hx hlen hmx fun v' w' h1 h2 h3 => hK _ _ (h v' w' h1 h2 h3)
end
end Own
end
end Go.Proofs.YtlggpefmojacoaaGreatDoor
