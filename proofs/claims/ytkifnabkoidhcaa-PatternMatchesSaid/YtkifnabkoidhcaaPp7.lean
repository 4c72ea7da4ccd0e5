/-
  The program's elements: a pattern is read as elements.
-/
import Derived.Test.YtkifnabkoidhcaaPp6
namespace Go.Proofs.Ytkifnabkoidhcaa
open Go.RowKit Tx
namespace Pm

theorem elInfo : (Try.prog.info? 61).map (fun i => (i.zero, i.size, i.bytes)) = some (some (.agg #[.int .i64 0, .int .u8 0, .pointer none]), 3, 24) := by kernel_rfl
def tcss (l : List PT) : List Value := l.flatMap tcs
theorem tcss_snoc (l : List PT) (x : PT) : tcss (l ++ [x]) = tcss l ++ tcs x := by simp [tcss]
theorem tcs_one (x : PT) : ∀ u ∈ tcs x, u.oneCell' = true := by
  intro u hp
  simp only [tcs, PT.ptr, List.mem_cons, List.not_mem_nil, or_false] at hp
  rcases hp with rfl | rfl | rfl <;> rfl
theorem tcs_new (w : World) (k v : Int) (p : Option Nat) (ty : TypeId) : ∀ j u, (tcs ⟨k, v, p⟩)[j]? = some u → (w.alloc (.cells #[.int .i64 k, .int .u8 v, .pointer (p.map fun q => ⟨q, 0, none⟩)] ty)).cell? ((⟨w.heap.size, 0, none⟩ : Addr).add j) = some u := by
  intro j u hu
  rw [By.add_at, cell_of_row _ _ j _ _ (0, 0) (heap_alloc_new w _)]
  simpa [tcs, PT.ptr] using hu
theorem own_by {w w' : World} {B n size : Nat} {e : TypeId} {v : Value} {xs : List Value} (h : w.ownsRow B e size v n xs) (hb : ∀ (g : Nat) (cs : Array Value), w.heap[g]? = some (Obj.cells cs e (0, 0)) → w'.heap[g]? = w.heap[g]?) : w'.ownsRow B e size v n xs := by
  refine ⟨h.1, ?_⟩
  rcases h.2 with h0 | ⟨g, cap, cur, rfl, hB, hg, r⟩
  · exact .inl h0
  · exact .inr ⟨g, cap, cur, rfl, hB, (hb g _ hg).trans hg, r⟩
theorem own_row {w : World} {B n size : Nat} {e : TypeId} {v : Value} {xs : List Value} (h : w.ownsRow B e size v n xs) {g : Nat} (hg : v.ownBlock = some g) : B ≤ g ∧ ∃ cs, w.heap[g]? = some (Obj.cells cs e (0, 0)) := by
  rcases h.2 with ⟨rfl, _⟩ | ⟨g', cap, cur, rfl, hB, hg', _⟩
  · cases hg
  · injection hg with hg
    have hg : g' = g := hg
    subst hg
    exact ⟨hB, cur, hg'⟩
theorem type_ne {w : World} {g b : Nat} {cs ds : Array Value} {T U : TypeId} {y z : Nat × Nat} (h : w.heap[g]? = some (Obj.cells cs T y)) (k : w.heap[b]? = some (Obj.cells ds U z)) (hT : T ≠ U) : g ≠ b := by
  rintro rfl
  rw [h] at k
  injection k with k
  injection k with _ k _
  exact hT k
/-- Elements, in a row of the call's own. -/
structure ES (w : World) (B : Nat) (v : Value) (ts : List PT) (l : List PE) : Prop where
  own : w.ownsRow B 61 3 v ts.length (tcss ts)
  len : ts.length = l.length
  ok : ∀ (i : Nat) (e : PE) (t : PT), l[i]? = some e → ts[i]? = some t → EOk w e t
structure EIn (w wr : World) (b : Nat) (v : Value) (ts : List PT) (l : List PE) (A : Option Addr) (k : Nat) (us : List Un) (f : Bool) (all : List Un) : Prop where
  es : ES wr (b + 1) v ts l
  rd : RD wr b A k us f
  bel : Below w.heap.size w wr
  hb : w.heap.size ≤ b
  els : ∀ m, Els f us m → Els false all (l ++ m)
  few : ts.length + us.length ≤ 2000
theorem ES.keep {w w' : World} {B : Nat} {v : Value} {ts : List PT} {l : List PE} (h : ES w B v ts l) (h1 : ∀ (g : Nat) (cs : Array Value), w.heap[g]? = some (Obj.cells cs 61 (0, 0)) → w'.heap[g]? = w.heap[g]?) (h2 : ∀ (q : Nat) (f : Nat → Bool), BSet w q f → w'.heap[q]? = w.heap[q]?) : ES w' B v ts l :=
  ⟨own_by h.own h1, h.len, fun i e t he ht => (h.ok i e t he ht).keep fun q f _ hq => h2 q f hq⟩
theorem read1_len (f : Bool) (u : Un) (r : List Un) : (read1 f u r).2.1.length ≤ r.length := by
  unfold read1
  split
  · split
    · rw [List.length_drop]; omega
    · exact Nat.le_refl _
  · exact Nat.le_refl _
/-- An element was read. -/
theorem EIn.read {w wr w1 : World} {b k k2 : Nat} {v : Value} {ts : List PT} {l : List PE} {A A2 : Option Addr} {u : Un} {r : List Un} {f : Bool} {all : List Un} {t : PT} (h : EIn w wr b v ts l A k (u :: r) f all)
    (_he : EOk w1 (read1 f u r).1 t) (_hr : RD w1 b A2 k2 (read1 f u r).2.1 (read1 f u r).2.2) (ho : Only (· = b) wr w1) :
    ES w1 (b + 1) v ts l ∧ Below w.heap.size w w1 :=
  ⟨h.es.keep (fun g cs hg => ho.block g (Array.getElem?_eq_some_iff.1 hg).1 (type_ne hg h.rd.row (by decide))) (fun q f hq => ho.block q hq.lt (hq.ne h.rd.row (by decide))), h.bel.trans (only_up ho h.hb h.bel.size)⟩
/-- It is added. -/
theorem EIn.grow {w wr w1 w2 : World} {b k k2 : Nat} {v v2 : Value} {ts : List PT} {l : List PE} {A A2 : Option Addr} {u : Un} {r : List Un} {f : Bool} {all : List Un} {t : PT} {o : Obj} (h : EIn w wr b v ts l A k (u :: r) f all)
    (he : EOk w1 (read1 f u r).1 t) (hr : RD w1 b A2 k2 (read1 f u r).2.1 (read1 f u r).2.2) (ho : Only (· = b) wr w1)
    (hg : (w1.alloc o).grownBy w2 v.ownBlock) (hw : w2.ownsRow (b + 1) 61 3 v2 (ts.length + 1) (tcss ts ++ tcs t)) :
    EIn w w2 b v2 (ts ++ [t]) (l ++ [(read1 f u r).1]) A2 k2 (read1 f u r).2.1 (read1 f u r).2.2 all := by
  obtain ⟨h1, h2⟩ := h.read he hr ho
  have hs := h2.size
  have hk : ∀ i, i < w1.heap.size → (∀ cs, w1.heap[i]? ≠ some (Obj.cells cs 61 (0, 0))) → w2.heap[i]? = w1.heap[i]? := fun i hi hn => by
    refine (hg.block i (by simp; omega) (fun e => ?_)).trans (Below.heap_alloc w1 o i hi)
    obtain ⟨_, cs, hc⟩ := own_row h1.own e.symm
    exact hn cs hc
  have hset : ∀ q f, BSet w1 q f → w2.heap[q]? = w1.heap[q]? := fun q f hq => hk q hq.lt fun cs hc => (hq.ne hc (by decide)) rfl
  refine ⟨⟨by rw [List.length_append, tcss_snoc]; exact hw, by rw [List.length_append, List.length_append, h.es.len]; rfl, fun i e t' he' ht' => ?_⟩, ⟨?_, ?_⟩, ?_, h.hb, fun m hm => ?_, ?_⟩
  · have hl := h.es.len
    rcases Nat.lt_or_ge i l.length with hi | hi
    · rw [List.getElem?_append_left hi] at he'
      rw [List.getElem?_append_left (by omega)] at ht'
      exact (h1.ok i e t' he' ht').keep fun q f _ hq => hset q f hq
    · rw [List.getElem?_append_right hi] at he'
      rw [List.getElem?_append_right (by omega), hl] at ht'
      have : i - l.length = 0 := by
        rcases Nat.eq_zero_or_pos (i - l.length) with h0 | h0
        · exact h0
        · rw [List.getElem?_eq_none (by simp; omega)] at he'; cases he'
      rw [this] at he' ht'
      cases he'
      cases ht'
      exact he.keep fun q f _ hq => hset q f hq
  · exact (hk b hr.lt fun cs hc => type_ne hc hr.row (by decide) rfl).trans hr.row
  · refine hr.us.same (fun i hi hl => ?_) (Nat.le_trans (by simp) hg.size)
    refine (hg.block i (by simp; omega) (fun e => ?_)).trans (Below.heap_alloc w1 o i hl)
    have := (own_row h1.own e.symm).1
    omega
  · refine h2.trans ⟨hg.os, hg.tape, hg.output, Nat.le_trans (by simp) hg.size, fun i hi => ?_⟩
    refine (hg.block i (by simp; omega) (fun e => ?_)).trans (Below.heap_alloc w1 o i (by omega))
    have := (own_row h1.own e.symm).1
    have := h.hb
    omega
  · rw [List.append_assoc]
    exact h.els _ (.cons rfl hm)
  · have := h.few
    have := read1_len f u r
    simp only [List.length_append, List.length_cons, List.length_nil] at *
    omega
theorem own_base {w : World} {B C n size : Nat} {e : TypeId} {v : Value} {xs : List Value} (h : w.ownsRow B e size v n xs) (hC : C ≤ B) : w.ownsRow C e size v n xs := by
  refine ⟨h.1, ?_⟩
  rcases h.2 with h0 | ⟨g, cap, cur, rfl, hB, r⟩
  · exact .inl h0
  · exact .inr ⟨g, cap, cur, rfl, by omega, r⟩
def lenAt (w : World) (b : Nat) : Nat := match w.cell? ⟨b, 0, none⟩ with
  | some (.slice _ n _) => n
  | _ => 0
set_option maxHeartbeats 4000000 in
set_option maxRecDepth 100000 in
theorem elements_any (s : ByteArray) (w : World) (hs : s.size ≤ 2000) : Calls Try.prog 26 #[.string s] w fun e w' =>
    ∃ v ts l, e = .returned v ∧ Kept (Els false (un (toL s)) l) ∧ Kept (ES w' w.heap.size v ts l) ∧ Kept (Below w.heap.size w w') ∧ Kept (l.length ≤ 2000) := by
  obtain ⟨i0, hi, hz0, hz1, hz2⟩ := info_parts elInfo
  have HS := Kept.mk hs
  clear hs
  go_enter Try.func26, Try.ntmps26
  go_wp2_with fail
  go_at_call 28
  refine (units_any s _ HS.out).mono ?_
  rintro e w1 ⟨⟨A0, k0, rfl, hU0⟩, hB1⟩
  have HU0 := Kept.mk hU0
  have HB1 := Kept.mk hB1
  have HR0 := Kept.mk (show RD (w1.alloc (.cells #[.slice A0 (un (toL s)).length k0, .bool false] 66)) w1.heap.size A0 k0 (un (toL s)) false from ⟨heap_alloc_new w1 _, hU0.same (fun i hi hl => Below.heap_alloc w1 _ i hl) (by simp)⟩)
  have HI0 : Kept (EIn w (w1.alloc (.cells #[.slice A0 (un (toL s)).length k0, .bool false] 66)) w1.heap.size (.slice none 0 0) [] [] A0 k0 (un (toL s)) false (un (toL s))) :=
    ⟨⟨⟨World.ownsRow_nil _ _ _ _, rfl, fun i e t h => by simp at h⟩, HR0.out, hB1.alloc hB1.size _, hB1.size, fun m h => h, by simpa using hU0.few⟩⟩
  clear hU0 hB1 HR0
  obtain ⟨L, hL⟩ : ∃ L, Kept (L = (un (toL s)).length) := ⟨_, ⟨rfl⟩⟩
  obtain ⟨all, hall⟩ : ∃ all, Kept (all = un (toL s)) := ⟨_, ⟨rfl⟩⟩
  rw [← hall.out] at HI0
  rw [← hall.out] at hL HU0 ⊢
  rw [← hL.out] at HI0 ⊢
  go_wp2_with fail
  generalize World.alloc _ _ = W at *
  generalize w1.heap.size = b at *
  clear HU0 HB1
  go_loopw [3] (fun v wr => ∃ ts l A k us f, Kept (EIn w wr b v ts l A k us f all)) (fun _ wr => lenAt wr b)
  case atStart => exact ⟨_, _, _, _, _, _, HI0⟩
  case round =>
    clear HI0
    obtain ⟨ts, l, A, k, us, f, HI⟩ := hrel
    have c0 := HI.out.rd.c0
    cases us with
    | nil =>
      have HE : Kept (Els false all l) := ⟨by have := HI.out.els [] (.nil f); rwa [List.append_nil] at this⟩
      go_wp2_with fail
      go_ret
      exact ⟨_, ts, l, rfl, ⟨by rw [← hall.out]; exact HE.out⟩, ⟨⟨own_base HI.out.es.own (by have := HI.out.hb; omega), HI.out.es.len, HI.out.es.ok⟩⟩, ⟨HI.out.bel⟩, ⟨by have := HI.out.few; have := HI.out.es.len; omega⟩⟩
    | cons u r =>
      obtain ⟨n, hn⟩ : ∃ n, n = (u :: r).length := ⟨_, rfl⟩
      rw [← hn] at c0
      have hn0 : (0 : Int) < (n : Int) := by rw [hn]; simp
      have hn1 : 0 < n := by omega
      have HLen : Kept (lenAt wr b = r.length + 1) := ⟨by unfold lenAt; rw [c0]; show n = _; rw [hn]; simp⟩
      have HF : Kept (ts.length + 1 ≤ 2000) := ⟨by have := HI.out.few; simp only [List.length_cons] at this; omega⟩
      clear hn
      go_wp2_with fail
      go_at_call 39
      refine (read_any wr b A k u r f HI.out.rd).mono ?_
      rintro e w3 ⟨⟨tk, tv, tp⟩, A2, k2, rfl, HE, HR, HO⟩
      have HES := Kept.mk (HI.out.read HE.out HR.out HO.out)
      dsimp only [PT.val, PT.ptr]
      obtain ⟨A7, k7, rfl⟩ := own_shape HES.out.1.own
      go_wp2_with (at_builtin; refine wpList_append_own _ rfl _ _ 40 rfl (b + 1) 61 i0 _ 3 24 Try.underlying40 hi hz0 hz1 hz2 rfl (by decide) _ _ _ rfl (own_stays HES.out.1.own fun g _ h2 => Below.heap_alloc w3 _ g h2) ⟨w3.heap.size, 0, none⟩ 1 1 (tcs ⟨tk, tv, tp⟩) rfl rfl (by exact tcs_new w3 tk tv tp _) (tcs_one _) (by unfold maxLen; have := HF.out; omega) (by have := HF.out; omega) (by have := HR.out.lt; simp; omega) ?_; intro v2 w4 ho2 hg2 hnn; clear hnn; have HI2 := Kept.mk (HI.out.grow HE.out HR.out HO.out hg2 ho2); clear ho2 hg2)
      go_roundw
      case rel => exact ⟨_, _, _, _, _, _, HI2⟩
      case measure =>
        rw [HLen.out]
        unfold lenAt
        rw [HI2.out.rd.c0]
        have := read1_len f u r
        show (read1 f u r).2.1.length < _
        omega
end Pm
end Go.Proofs.Ytkifnabkoidhcaa
