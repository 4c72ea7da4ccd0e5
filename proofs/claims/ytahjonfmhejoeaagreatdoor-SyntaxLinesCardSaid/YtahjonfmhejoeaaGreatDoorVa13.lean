/-
  Parts of the proof, merged.
-/
import Derived.Deep.CutBlock
import Derived.Deep.DeepCutAuto
import Derived.Laws.ResultCell
import Derived.Laws.Slices
import Derived.Test.YtahjonfmhejoeaaGreatDoorVa02
import Derived.Test.YtahjonfmhejoeaaGreatDoorVa05
import Derived.Test.YtahjonfmhejoeaaGreatDoorVa09
import Derived.Test.YtahjonfmhejoeaaGreatDoorVa12
namespace Go.Proofs.YtahjonfmhejoeaaGreatDoor
section
open Go.RowKit Tx
namespace Lx
theorem assertErr (n : Int) (w : World) : (Instr.typeAssert (.iface 32 (.int .i64 n)) 20 32 true).run Tryz.prog w = .ok (.tuple #[.int .i64 n, .bool true]) w := by kernel_rfl
theorem assertNil (w : World) : (Instr.typeAssert .nilIface 20 32 true).run Tryz.prog w = .ok (.tuple #[.int .i64 0, .bool false]) w := by kernel_rfl
theorem catch_bad (p q : Nat) (n : Int) (w : World) (v u : Value) (hpq : p ≠ q) (hp : w.cell? ⟨p, 0, none⟩ = some v) (hq : w.cell? ⟨q, 0, none⟩ = some u) (fp : w.frozen? ⟨p, 0, none⟩ = false) (fq : w.frozen? ⟨q, 0, none⟩ = false) :
   CallsD Tryz.prog 46 #[.pointer (some ⟨p, 0, none⟩), .pointer (some ⟨q, 0, none⟩)] (.panicking (pan n)) w fun e u' w' =>
     e = .returned (.tuple #[]) ∧ u' = .panicking [{ v := .iface 32 (.int .i64 n), recovered := true }] ∧ w' = (w.setCell ⟨p, 0, none⟩ (.slice none 0 0)).setCell ⟨q, 0, none⟩ (.int .i64 n) := by
 have hq2 : (w.setCell ⟨p, 0, none⟩ (.slice none 0 0)).cell? ⟨q, 0, none⟩ = some u := (World.cell?_setCell_other _ _ _ _ (by simp_all)).trans hq
 refine callsD_of_wpS Tryz.func46 rfl fun c₀ cs hu => ?_
 apply wpS_seq
 apply wpS_region
 simp [wpOpsS, go_sem, recoverD, hu, Tryz.ntmps46, Exit.thenS, pan]
 apply wpS_seq
 apply wpS_region
 simp [wpOpsS, go_sem, Exit.thenS, assertErr]
 apply wpS_seq
 apply wpS_region
 simp [wpOpsS, go_sem, Exit.thenS]
 refine wpS_cond (t := true) (by simp [Act.eval, Array.replicate]) ?_
 simp only [if_true]
 apply wpS_region
 simp [wpOpsS, go_sem, hp, hq2, fp, fq, bodyPostS, results, Tryz.results46]
theorem catch_idle (p q : Addr) (w : World) :
   CallsD Tryz.prog 46 #[.pointer (some p), .pointer (some q)] .returning w fun e u' w' => e = .returned (.tuple #[]) ∧ u' = .returning ∧ w' = w := by
 refine callsD_of_wpS Tryz.func46 rfl fun c₀ cs hu => ?_
 apply wpS_seq
 apply wpS_region
 simp [wpOpsS, go_sem, recoverD, hu, Tryz.ntmps46, Exit.thenS]
 apply wpS_seq
 apply wpS_region
 simp [wpOpsS, go_sem, Exit.thenS, assertNil]
 apply wpS_seq
 apply wpS_region
 simp [wpOpsS, go_sem, Exit.thenS]
 refine wpS_cond (t := false) (by simp [Act.eval, Array.replicate]) ?_
 simp only [Bool.false_eq_true, if_false]
 apply wpS_seq
 apply wpS_region
 simp [wpOpsS, go_sem, Exit.thenS]
 refine wpS_cond (t := false) (by simp [Act.eval, Array.replicate]) ?_
 simp only [Bool.false_eq_true, if_false]
 refine wpS_of_wp (wp_skip ?_)
 cases c₀
 simp_all [bodyPostS, results, Tryz.results46]
def Rt (w : World) (A : Option Addr) (l : List Tok) : Prop := ∀ j (hj : j < l.length), ∃ g, A = some ⟨g, 0, none⟩ ∧ g < w.heap.size ∧ w.cell? ⟨g, j * 2, none⟩ = some (.int .i64 l[j].kind) ∧ w.cell? ⟨g, j * 2 + 1, none⟩ = some (.string (bs l[j].text))
theorem Rt.below {w w' : World} {A : Option Addr} {l : List Tok} (h : Rt w A l) (hb : Below w.heap.size w w') : Rt w' A l := by
 intro j hj
 obtain ⟨g, e, hg, h0, h1⟩ := h j hj
 exact ⟨g, e, Nat.lt_of_lt_of_le hg hb.size, (hb.cell (p := ⟨g, j * 2, none⟩) hg).trans h0, (hb.cell (p := ⟨g, j * 2 + 1, none⟩) hg).trans h1⟩
theorem Rt.far {w : World} {A : Option Addr} {l : List Tok} (h : Rt w A l) {a : Addr} {u : Value} (ha : ∀ g off, A = some ⟨g, off, none⟩ → a.block ≠ g) : Rt (w.setCell a u) A l := by
 intro j hj
 obtain ⟨g, e, hg, h0, h1⟩ := h j hj
 have hb := Below.heap_setCell w a u g (fun e2 => ha g 0 e e2.symm)
 exact ⟨g, e, by simpa [World.setCell] using hg, (World.cell?_of_block (w := w) (a := ⟨g, j * 2, none⟩) hb).trans h0, (World.cell?_of_block (w := w) (a := ⟨g, j * 2 + 1, none⟩) hb).trans h1⟩
theorem Rt.nil (w : World) (A : Option Addr) : Rt w A [] := fun j hj => by simp at hj
theorem Rt.of_own {w : World} {B n : Nat} {e : TypeId} {v : Value} {l : List Tok} (h : w.ownsRow B e 2 v n (tvs l)) : ∃ A k, v = .slice A l.length k ∧ Rt w A l ∧ (∀ g, v.ownBlock = some g → B ≤ g) ∧ ((A = none → k = 0) ∧ l.length ≤ k) := by
 have hn : n = l.length := by have := h.1; rw [tvs_length] at this; omega
 subst hn
 rcases h.2 with ⟨rfl, h0⟩ | ⟨g, cap, cur, rfl, hB, hg, hnc, hcm, hcs, htake⟩
 · obtain rfl := List.eq_nil_of_length_eq_zero h0
   exact ⟨none, 0, rfl, Rt.nil _ _, (fun g hg => by cases hg), ⟨fun _ => rfl, Nat.le_refl _⟩⟩
 · have hc : ∀ i u, (tvs l)[i]? = some u → w.cell? ⟨g, i, none⟩ = some u := fun i u hu => by
     rw [← htake, List.getElem?_take] at hu
     rw [cell_of_row w g i cur e (0, 0) hg]
     split at hu
     · simpa using hu
     · cases hu
   exact ⟨_, _, rfl, fun j hj => ⟨g, rfl, (Array.getElem?_eq_some_iff.1 hg).1, hc _ _ (tvs_at hj).1, hc _ _ (tvs_at hj).2⟩, (fun k hk => by
     injection hk with hk
     have : g = k := hk
     omega), ⟨(fun h => by cases h), hnc⟩⟩
def TokE (w : World) (o : Option (List Tok)) (e : Ending) (w' : World) : Prop :=
 match o with
 | some ts => (∃ A k, e = .returned (.tuple #[.slice A ts.length k, .int .i64 0]) ∧ Kept (Rt w' A ts) ∧ Kept ((A = none → k = 0) ∧ ts.length ≤ k)) ∧ Below w.heap.size w w'
 | none => e = .returned (.tuple #[.slice none 0 0, .int .i64 80]) ∧ Below w.heap.size w w'
set_option maxHeartbeats 4000000 in
set_option maxRecDepth 100000 in
theorem tokens_any (s : ByteArray) (w : World) (hK : Kit w) (hs : s.size ≤ 20000) (o : Option (List Tok)) (HO : Kept (o = toks (toL s))) :
   Calls Tryz.prog 22 #[.string s] w (TokE w o) := by
 have hmf : ∀ (fn : Fn) (first cap : Array Value) (w : World), (Instr.makeFunc fn first cap).run Tryz.prog w = .ok (.func fn first cap) w := fun _ _ _ _ => rfl
 have HK := Kept.mk hK
 clear hK
 go_enter_defers Tryz.func22, Tryz.ntmps22
 go_wp2_with fail
 generalize hw2 : ((w.alloc (.cells #[.slice none 0 0] 46)).alloc (.cells #[.int .i64 0] 32)).alloc (.cells #[.string s, .int .i64 0, .slice none 0 0] 90) = w2
 have HB2 : Kept (Below w.heap.size w w2) := ⟨by rw [← hw2]; exact (((Below.refl _ _).alloc (Nat.le_refl _) _).alloc (by simp) _).alloc (by simp <;> omega) _⟩
 have HZ2 : Kept (w2.heap.size = w.heap.size + 3) := ⟨by rw [← hw2]; simp⟩
 have HA2 : Kept (w2.heap[w.heap.size]? = some (.cells #[.slice none 0 0] 46 (0, 0)) ∧ w2.heap[w.heap.size + 1]? = some (.cells #[.int .i64 0] 32 (0, 0))) := ⟨by
   rw [← hw2]
   refine ⟨?_, ?_⟩
   · rw [Below.heap_alloc _ _ _ (by simp <;> omega), Below.heap_alloc _ _ _ (by simp <;> omega)]
     exact heap_alloc_new w _
   · rw [Below.heap_alloc _ _ _ (by simp <;> omega)]
     have := heap_alloc_new (w.alloc (.cells #[.slice none 0 0] 46)) (.cells #[.int .i64 0] 32)
     simpa using this⟩
 have HM2 : Kept (TM w2 (w.heap.size + 1 + 1) s 0 (.slice none 0 0) []) := ⟨by
   refine ⟨⟨⟨?_, Nat.zero_le _, hs⟩, HK.out.below HB2.out, ?_, ?_⟩, World.ownsRow_nil _ _ _ _⟩
   · rw [← hw2]
     have := heap_alloc_new ((w.alloc (.cells #[.slice none 0 0] 46)).alloc (.cells #[.int .i64 0] 32)) (.cells #[.string s, .int .i64 0, .slice none 0 0] 90)
     simpa using this
   · have := HK.out.lt; omega
   · have := HK.out.lt; omega⟩
 clear hw2
 generalize hb : w.heap.size + 1 + 1 = b at HM2
 have HB : Kept (b = w.heap.size + 2) := ⟨by omega⟩
 clear hb
 go_loopw [] (fun wr => ∃ p v ts, Kept (TM wr b s p v ts) ∧ Kept (Left (toL s) ts ((toL s).drop p)) ∧ Kept (Up b w2 wr)) (fun wr => s.size - far b wr)
 case atStart => exact ⟨0, _, [], HM2, ⟨Left.start _⟩, ⟨Up.refl _ _⟩⟩
 case round =>
   obtain ⟨p, v, ts, HT, HL, HU⟩ := hrel
   by_cases hlt : p < s.size
   · have HF : Kept (false = decide (p = s.size)) := ⟨(decide_eq_false (by omega)).symm⟩
     have HLT := Kept.mk hlt
     clear hlt
     go_wp2_with (go_at_call 47; refine (ended_any wr b s p v false HT.out.rm.rd HF.out).mono ?_; rintro e0 w3 ⟨rfl, hq⟩; have H3 := Kept.mk (HT.out.qt hq); have HU3 : Kept (Up b w2 w3) := ⟨HU.out.trans (up_mv HT.out (hq.only _))⟩; clear hq)
     go_at_call 48
     refine (read_any _ b s p v ts H3 HL HLT.out).mono ?_
     intro e0 w4 hE
     cases hE with
     | on _ v4 q ts4 ht hp hL hu =>
       have HL4 := Kept.mk hL
       have HU4 : Kept (Up b w2 w4) := ⟨HU3.out.trans hu⟩
       have HMs : Kept (s.size - far b w4 < s.size - far b wr) := ⟨by
         rw [ht.out.rm.rd.far, HT.out.rm.rd.far]
         have := HLT.out
         have := ht.out.rm.rd.le
         omega⟩
       clear hL hu hp
       go_wp2
       go_roundw
       case rel => exact ⟨q, v4, ts4, ht, HL4, HU4⟩
       case measure => exact HMs.out
     | bad _ hn hu =>
       have HU4 : Kept (Up b w2 w4) := ⟨HU3.out.trans hu⟩
       have hx0 : w4.heap[w.heap.size]? = some (.cells #[.slice none 0 0] 46 (0, 0)) := (HU4.out.block _ (by have := HB.out; omega)).trans HA2.out.1
       have hx1 : w4.heap[w.heap.size + 1]? = some (.cells #[.int .i64 0] 32 (0, 0)) := (HU4.out.block _ (by have := HB.out; omega)).trans HA2.out.2
       obtain rfl : o = none := by rw [HO.out, hn]
       clear hn hu
       refine leaves_cons (f := 46) (args := #[.pointer (some ⟨w.heap.size, 0, none⟩), .pointer (some ⟨w.heap.size + 1, 0, none⟩)]) (by simp) (by simp [go_sem]) ?_
       refine (catch_bad w.heap.size (w.heap.size + 1) 80 _ _ _ (by omega) (cell_of_row _ _ 0 _ _ _ hx0) (cell_of_row _ _ 0 _ _ _ hx1) (frozen_of_row _ _ 0 _ _ hx0) (frozen_of_row _ _ 0 _ _ hx1)).mono ?_
       rintro e u' w'' ⟨rfl, rfl, rfl⟩
       have hy0 := heap_setCell_same w4 w.heap.size 0 _ _ (.slice none 0 0) hx0
       have hz0 := (Below.heap_setCell (w4.setCell ⟨w.heap.size, 0, none⟩ (.slice none 0 0)) ⟨w.heap.size + 1, 0, none⟩ (.int .i64 80) w.heap.size (by simp)).trans hy0
       have hz1 := heap_setCell_same (w4.setCell ⟨w.heap.size, 0, none⟩ (.slice none 0 0)) (w.heap.size + 1) 0 _ _ (.int .i64 80) ((Below.heap_setCell w4 ⟨w.heap.size, 0, none⟩ (.slice none 0 0) (w.heap.size + 1) (by simp)).trans hx1)
       have d0 : ((w4.setCell ⟨w.heap.size, 0, none⟩ (.slice none 0 0)).setCell ⟨w.heap.size + 1, 0, none⟩ (.int .i64 80)).cell? ⟨w.heap.size, 0, none⟩ = some (.slice none 0 0) := cell_of_row _ _ 0 _ _ _ hz0
       have d1 : ((w4.setCell ⟨w.heap.size, 0, none⟩ (.slice none 0 0)).setCell ⟨w.heap.size + 1, 0, none⟩ (.int .i64 80)).cell? ⟨w.heap.size + 1, 0, none⟩ = some (.int .i64 80) := cell_of_row _ _ 0 _ _ _ hz1
       have HBf : Kept (Below w.heap.size w ((w4.setCell ⟨w.heap.size, 0, none⟩ (.slice none 0 0)).setCell ⟨w.heap.size + 1, 0, none⟩ (.int .i64 80))) := ⟨((HB2.out.trans (HU4.out.mono (by have := HB.out; omega))).setCell (by simp) _).setCell (by simp) _⟩
       clear hx0 hx1 hy0 hz0 hz1
       generalize (w4.setCell ⟨w.heap.size, 0, none⟩ (.slice none 0 0)).setCell ⟨w.heap.size + 1, 0, none⟩ (.int .i64 80) = wf at *
       simp [Leaves, settle, results, Tryz.results22, go_sem, d0, d1]
       exact ⟨rfl, HBf.out⟩
   · have hle := HT.out.rm.rd.le
     have HF : Kept (true = decide (p = s.size)) := ⟨(decide_eq_true (by omega)).symm⟩
     have HD : Kept (toks (toL s) = some ts) := ⟨by
       have := HL.out
       rw [drop_end (by omega)] at this
       exact this.done⟩
     obtain rfl : o = some ts := by rw [HO.out, HD.out]
     obtain ⟨A, k, rfl, hR, hlo, hno⟩ := Rt.of_own HT.out.own
     have HNo := Kept.mk hno
     have HR := Kept.mk hR
     have HLo := Kept.mk hlo
     clear hlt hle hR hlo hno HD HO
     go_wp2_with (go_at_call 47
                  refine (ended_any wr b s p _ true HT.out.rm.rd HF.out).mono ?_
                  rintro e0 w3 ⟨rfl, hq⟩
                  have H3 := Kept.mk (HT.out.qt hq)
                  have HR3 := Kept.mk (HR.out.below hq.below)
                  have HU3 : Kept (Up b w2 w3) := ⟨HU.out.trans (up_mv HT.out (hq.only _))⟩
                  clear hq
                  have hx0 : w3.heap[w.heap.size]? = some (.cells #[.slice none 0 0] 46 (0, 0)) := (HU3.out.block _ (by have := HB.out; omega)).trans HA2.out.1
                  have hx1 : w3.heap[w.heap.size + 1]? = some (.cells #[.int .i64 0] 32 (0, 0)) := (HU3.out.block _ (by have := HB.out; omega)).trans HA2.out.2
                  have c2 := H3.out.rm.rd.c2
                  have c0' := cell_of_row _ _ 0 _ _ _ hx0
                  have c1' := cell_of_row _ _ 0 _ _ _ hx1
                  have f0' := frozen_of_row _ _ 0 _ _ hx0
                  have f1' := frozen_of_row _ _ 0 _ _ hx1
                  have c1s : (w3.setCell ⟨w.heap.size, 0, none⟩ (.slice A ts.length k)).cell? ⟨w.heap.size + 1, 0, none⟩ = some (.int .i64 0) := (World.cell?_setCell_other _ _ _ _ (by simp)).trans c1'
                  have HX := Kept.mk (And.intro hx0 hx1)
                  clear hx0 hx1)
     clear c0' c1' c1s f0' f1' c2
     have hy0 := heap_setCell_same w3 w.heap.size 0 _ _ (.slice A ts.length k) HX.out.1
     have hz0 := (Below.heap_setCell (w3.setCell ⟨w.heap.size, 0, none⟩ (.slice A ts.length k)) ⟨w.heap.size + 1, 0, none⟩ (.int .i64 0) w.heap.size (by simp)).trans hy0
     have hz1 := heap_setCell_same (w3.setCell ⟨w.heap.size, 0, none⟩ (.slice A ts.length k)) (w.heap.size + 1) 0 _ _ (.int .i64 0) ((Below.heap_setCell w3 ⟨w.heap.size, 0, none⟩ (.slice A ts.length k) (w.heap.size + 1) (by simp)).trans HX.out.2)
     have d0 : ((w3.setCell ⟨w.heap.size, 0, none⟩ (.slice A ts.length k)).setCell ⟨w.heap.size + 1, 0, none⟩ (.int .i64 0)).cell? ⟨w.heap.size, 0, none⟩ = some (.slice A ts.length k) := cell_of_row _ _ 0 _ _ _ hz0
     have d1 : ((w3.setCell ⟨w.heap.size, 0, none⟩ (.slice A ts.length k)).setCell ⟨w.heap.size + 1, 0, none⟩ (.int .i64 0)).cell? ⟨w.heap.size + 1, 0, none⟩ = some (.int .i64 0) := cell_of_row _ _ 0 _ _ _ hz1
     have HBf : Kept (Below w.heap.size w ((w3.setCell ⟨w.heap.size, 0, none⟩ (.slice A ts.length k)).setCell ⟨w.heap.size + 1, 0, none⟩ (.int .i64 0))) := ⟨((HB2.out.trans (HU3.out.mono (by have := HB.out; omega))).setCell (by simp) _).setCell (by simp) _⟩
     have HRf : Kept (Rt ((w3.setCell ⟨w.heap.size, 0, none⟩ (.slice A ts.length k)).setCell ⟨w.heap.size + 1, 0, none⟩ (.int .i64 0)) A ts) := ⟨(HR3.out.far (fun g off e => by have := HLo.out g (by rw [e]; rfl); have := HB.out; show w.heap.size ≠ g; omega)).far (fun g off e => by have := HLo.out g (by rw [e]; rfl); have := HB.out; show w.heap.size + 1 ≠ g; omega)⟩
     clear hy0 hz0 hz1 HX
     generalize (w3.setCell ⟨w.heap.size, 0, none⟩ (.slice A ts.length k)).setCell ⟨w.heap.size + 1, 0, none⟩ (.int .i64 0) = wf at *
     refine leaves_cons (f := 46) (args := #[.pointer (some ⟨w.heap.size, 0, none⟩), .pointer (some ⟨w.heap.size + 1, 0, none⟩)]) (by simp) (by simp [go_sem]) ?_
     refine (catch_idle ⟨w.heap.size, 0, none⟩ ⟨w.heap.size + 1, 0, none⟩ _).mono ?_
     rintro e u' w'' ⟨rfl, rfl, rfl⟩
     simp [Leaves, settle, results, Tryz.results22, go_sem, d0, d1]
     exact ⟨⟨A, k, rfl, HRf, HNo⟩, HBf.out⟩
end Lx
end
section
open Go.RowKit Tx
namespace Sy
open Wx
inductive SL {α : Type} (P : Nat → Prop) (w : World) (C : List Value → List α → Prop) : Value → List α → Prop
 | nil (A : Option Addr) (cap : Nat) (h : A = none → cap = 0) : SL P w C (.slice A 0 cap) []
 | at (g off n cap : Nat) (xs : List Value) (l : List α) (hn : l.length = n) (hm : n ≤ cap) (hP : P g) (hg : g < w.heap.size) (hc : ∀ j u, xs[j]? = some u → w.cell? ⟨g, off + j, none⟩ = some u) (h : C xs l) : SL P w C (.slice (some ⟨g, off, none⟩) n cap) l
inductive WC (P : Nat → Prop) (w : World) : List Value → List (List Pt) → Prop
 | nil : WC P w [] []
 | cons (v : Value) (p : List Pt) (xs : List Value) (l : List (List Pt)) (h1 : v.oneCell' = true) (h : LV P w v p) (hr : WC P w xs l) : WC P w (v :: xs) (p :: l)
inductive AC (P : Nat → Prop) (w : World) : List Value → List (List UInt8 × List Pt) → Prop
 | nil : AC P w [] []
 | cons (n : List UInt8) (v : Value) (p : List Pt) (xs : List Value) (l : List (List UInt8 × List Pt)) (h1 : v.oneCell' = true) (h : LV P w v p) (hr : AC P w xs l) : AC P w (.string (bs n) :: v :: xs) ((n, p) :: l)
def OC (xs : List Value) (l : List (List UInt8)) : Prop := xs = l.map fun x => Value.string (bs x)
def nvs (k : Int) (q : Bool) (n : List UInt8) (vw va vr vo vk : Value) : List Value := [.int .i64 k, .bool q, .string (bs n), vw, va, vr, vo, vk]
structure Parts (P : Nat → Prop) (w : World) (vw va vr vo : Value) (ws : List (List Pt)) (gs rs : List (List UInt8 × List Pt)) (os : List (List UInt8)) : Prop where
 w1 : vw.oneCell' = true
 a1 : va.oneCell' = true
 r1 : vr.oneCell' = true
 o1 : vo.oneCell' = true
 words : SL P w (WC P w) vw ws
 assigns : SL P w (AC P w) va gs
 redirs : SL P w (AC P w) vr rs
 ops : SL P w OC vo os
mutual
inductive NL (P : Nat → Prop) (w : World) : Value → List Nd → Prop
 | nil (A : Option Addr) (cap : Nat) (h : A = none → cap = 0) : NL P w (.slice A 0 cap) []
 | at (g off n cap : Nat) (xs : List Value) (l : List Nd) (hn : l.length = n) (hm : n ≤ cap) (hP : P g) (hg : g < w.heap.size) (hc : ∀ j u, xs[j]? = some u → w.cell? ⟨g, off + j, none⟩ = some u) (h : NC P w xs l) : NL P w (.slice (some ⟨g, off, none⟩) n cap) l
inductive NC (P : Nat → Prop) (w : World) : List Value → List Nd → Prop
 | nil : NC P w [] []
 | cons (k : Int) (q : Bool) (n : List UInt8) (ws : List (List Pt)) (gs rs : List (List UInt8 × List Pt)) (os : List (List UInt8)) (ks : List Nd) (vw va vr vo vk : Value) (xs : List Value) (l : List Nd)
     (hp : Parts P w vw va vr vo ws gs rs os) (h1 : vk.oneCell' = true) (hk : NL P w vk ks) (hr : NC P w xs l) : NC P w (nvs k q n vw va vr vo vk ++ xs) (.mk k q n ws gs rs os ks :: l)
end
inductive NV (P : Nat → Prop) (w : World) : Value → Nd → Prop
 | mk (k : Int) (q : Bool) (n : List UInt8) (ws : List (List Pt)) (gs rs : List (List UInt8 × List Pt)) (os : List (List UInt8)) (ks : List Nd) (vw va vr vo vk : Value)
     (hp : Parts P w vw va vr vo ws gs rs os) (h1 : vk.oneCell' = true) (hk : NL P w vk ks) : NV P w (.agg (nvs k q n vw va vr vo vk).toArray) (.mk k q n ws gs rs os ks)
section
variable {P Q : Nat → Prop} {w w' : World}
theorem SL.same {α : Type} {C D : List Value → List α → Prop} (hk : ∀ g, P g → g < w.heap.size → Q g ∧ w'.heap[g]? = w.heap[g]?) (hs : w.heap.size ≤ w'.heap.size) (hCD : ∀ xs l, C xs l → D xs l) {v : Value} {l : List α} : SL P w C v l → SL Q w' D v l
 | .nil A cap h => .nil A cap h
 | .at g off n cap xs l hn hm hP hg hc h => .at g off n cap xs l hn hm (hk g hP hg).1 (Nat.lt_of_lt_of_le hg hs) (fun j u hu => (World.cell?_of_block (w := w) (a := ⟨g, off + j, none⟩) (hk g hP hg).2).trans (hc j u hu)) (hCD xs l h)
theorem WC.same (hk : ∀ g, P g → g < w.heap.size → Q g ∧ w'.heap[g]? = w.heap[g]?) (hs : w.heap.size ≤ w'.heap.size) : ∀ {xs : List Value} {l : List (List Pt)}, WC P w xs l → WC Q w' xs l
 | _, _, .nil => .nil
 | _, _, .cons v p xs l h1 h hr => .cons v p xs l h1 (h.same hk hs) (hr.same hk hs)
theorem AC.same (hk : ∀ g, P g → g < w.heap.size → Q g ∧ w'.heap[g]? = w.heap[g]?) (hs : w.heap.size ≤ w'.heap.size) : ∀ {xs : List Value} {l : List (List UInt8 × List Pt)}, AC P w xs l → AC Q w' xs l
 | _, _, .nil => .nil
 | _, _, .cons n v p xs l h1 h hr => .cons n v p xs l h1 (h.same hk hs) (hr.same hk hs)
theorem Parts.same (hk : ∀ g, P g → g < w.heap.size → Q g ∧ w'.heap[g]? = w.heap[g]?) (hs : w.heap.size ≤ w'.heap.size) {vw va vr vo : Value} {ws : List (List Pt)} {gs rs : List (List UInt8 × List Pt)} {os : List (List UInt8)} (h : Parts P w vw va vr vo ws gs rs os) : Parts Q w' vw va vr vo ws gs rs os :=
 ⟨h.w1, h.a1, h.r1, h.o1, h.words.same hk hs fun _ _ => WC.same hk hs, h.assigns.same hk hs fun _ _ => AC.same hk hs, h.redirs.same hk hs fun _ _ => AC.same hk hs, h.ops.same hk hs fun _ _ h => h⟩
mutual
theorem NL.same (hk : ∀ g, P g → g < w.heap.size → Q g ∧ w'.heap[g]? = w.heap[g]?) (hs : w.heap.size ≤ w'.heap.size) {v : Value} {l : List Nd} : NL P w v l → NL Q w' v l
 | .nil A cap h => .nil A cap h
 | .at g off n cap xs l hn hm hP hg hc h => .at g off n cap xs l hn hm (hk g hP hg).1 (Nat.lt_of_lt_of_le hg hs) (fun j u hu => (World.cell?_of_block (w := w) (a := ⟨g, off + j, none⟩) (hk g hP hg).2).trans (hc j u hu)) (h.same hk hs)
theorem NC.same (hk : ∀ g, P g → g < w.heap.size → Q g ∧ w'.heap[g]? = w.heap[g]?) (hs : w.heap.size ≤ w'.heap.size) {xs : List Value} {l : List Nd} : NC P w xs l → NC Q w' xs l
 | .nil => .nil
 | .cons k q n ws gs rs os ks vw va vr vo vk xs l hp h1 hkd hr => .cons k q n ws gs rs os ks vw va vr vo vk xs l (hp.same hk hs) h1 (hkd.same hk hs) (hr.same hk hs)
end
theorem NV.same (hk : ∀ g, P g → g < w.heap.size → Q g ∧ w'.heap[g]? = w.heap[g]?) (hs : w.heap.size ≤ w'.heap.size) {v : Value} {d : Nd} : NV P w v d → NV Q w' v d
 | .mk k q n ws gs rs os ks vw va vr vo vk hp h1 hkd => .mk k q n ws gs rs os ks vw va vr vo vk (hp.same hk hs) h1 (hkd.same hk hs)
variable {v : Value} {l : List Nd} {d : Nd} {xs : List Value}
theorem NL.keep (h : NL P w v l) (hb : Below w.heap.size w w') : NL P w' v l := h.same (fun g hP hg => ⟨hP, hb.block g hg⟩) hb.size
theorem NC.keep (h : NC P w xs l) (hb : Below w.heap.size w w') : NC P w' xs l := h.same (fun g hP hg => ⟨hP, hb.block g hg⟩) hb.size
theorem NV.keep (h : NV P w v d) (hb : Below w.heap.size w w') : NV P w' v d := h.same (fun g hP hg => ⟨hP, hb.block g hg⟩) hb.size
theorem NL.mono (h : NL P w v l) (hPQ : ∀ g, P g → g < w.heap.size → Q g) : NL Q w v l := h.same (fun g hP hg => ⟨hPQ g hP hg, rfl⟩) (Nat.le_refl _)
theorem NC.mono (h : NC P w xs l) (hPQ : ∀ g, P g → g < w.heap.size → Q g) : NC Q w xs l := h.same (fun g hP hg => ⟨hPQ g hP hg, rfl⟩) (Nat.le_refl _)
theorem NV.below_alloc (h : NV P w v d) (o : Obj) : NV P (w.alloc o) v d := h.keep ((Below.refl _ _).alloc (Nat.le_refl _) _)
theorem NV.mono (h : NV P w v d) (hPQ : ∀ g, P g → g < w.heap.size → Q g) : NV Q w v d := h.same (fun g hP hg => ⟨hPQ g hP hg, rfl⟩) (Nat.le_refl _)
end
theorem SL.slice {α : Type} {P : Nat → Prop} {w : World} {C : List Value → List α → Prop} {v : Value} {l : List α} (h : SL P w C v l) : ∃ A cap, v = .slice A l.length cap := by
 cases h with
 | nil A cap h => exact ⟨A, cap, rfl⟩
 | «at» g off n cap xs l hn hm hP hg hc h => exact ⟨_, cap, by rw [hn]⟩
theorem NL.slice {P : Nat → Prop} {w : World} {v : Value} {l : List Nd} (h : NL P w v l) : ∃ A cap, v = .slice A l.length cap := by
 cases h with
 | nil A cap h => exact ⟨A, cap, rfl⟩
 | «at» g off n cap xs l hn hm hP hg hc h => exact ⟨_, cap, by rw [hn]⟩
theorem NC.length {P : Nat → Prop} {w : World} {xs : List Value} {l : List Nd} (h : NC P w xs l) : xs.length = l.length * 8 := by
 induction l generalizing xs with
 | nil => cases h; rfl
 | cons d l ih =>
   cases h with
   | cons k q n ws gs rs os ks vw va vr vo vk xs l hp h1 hk hr =>
     rw [List.length_append, ih hr, List.length_cons]
     show 8 + _ = _
     omega
theorem NC.app {P : Nat → Prop} {w : World} {ys : List Value} {m : List Nd} (h2 : NC P w ys m) : ∀ {xs : List Value} {l : List Nd}, NC P w xs l → NC P w (xs ++ ys) (l ++ m)
 | _, _, .nil => h2
 | _, _, .cons k q n ws gs rs os ks vw va vr vo vk xs l hp h1 hk hr => by
   rw [List.append_assoc]
   exact .cons k q n ws gs rs os ks vw va vr vo vk _ _ hp h1 hk (NC.app h2 hr)
theorem NC.append {P : Nat → Prop} {w : World} {xs ys : List Value} {l m : List Nd} (h : NC P w xs l) (h2 : NC P w ys m) : NC P w (xs ++ ys) (l ++ m) := NC.app h2 h
theorem NC.get {P : Nat → Prop} {w : World} {xs : List Value} {l : List Nd} (h : NC P w xs l) : ∀ {j : Nat} (hj : j < l.length), ∃ k q n ws gs rs os ks vw va vr vo vk, l[j] = .mk k q n ws gs rs os ks ∧ Parts P w vw va vr vo ws gs rs os ∧ vk.oneCell' = true ∧ NL P w vk ks ∧ ∀ i u, (nvs k q n vw va vr vo vk)[i]? = some u → xs[j * 8 + i]? = some u := by
 induction l generalizing xs with
 | nil => intro j hj; simp at hj
 | cons d l ih =>
   intro j hj
   cases h with
   | cons k q n ws gs rs os ks vw va vr vo vk xs l hp h1 hk hr =>
     cases j with
     | zero =>
       refine ⟨k, q, n, ws, gs, rs, os, ks, vw, va, vr, vo, vk, rfl, hp, h1, hk, fun i u hu => ?_⟩
       rw [Nat.zero_mul, Nat.zero_add, List.getElem?_append_left (List.getElem?_eq_some_iff.1 hu).1]
       exact hu
     | succ j =>
       obtain ⟨k2, q2, n2, ws2, as2, rs2, os2, ks2, a, b, c, d2, e, h2, h3, h4, h5, h6⟩ := ih hr (j := j) (by simpa using hj)
       refine ⟨k2, q2, n2, ws2, as2, rs2, os2, ks2, a, b, c, d2, e, h2, h3, h4, h5, fun i u hu => ?_⟩
       have hl : (nvs k q n vw va vr vo vk).length = 8 := rfl
       rw [List.getElem?_append_right (by rw [hl]; omega), hl, show (j + 1) * 8 + i - 8 = j * 8 + i by omega]
       exact h6 i u hu
end Sy
end
section
open Go.RowKit Tx
namespace Sy
open Lx (Tok tv tvs tvs_at Qt)
open Wx (Pt LV)
inductive TS (w : World) (G : Nat) : Value → List Tok → Prop
 | nil (A : Option Addr) (k : Nat) (h : A = none → k = 0) : TS w G (.slice A 0 k) []
 | at (tg off n k : Nat) (ts : List Tok) (hn : ts.length = n) (hk : n ≤ k) (hg : tg < G) (hl : tg < w.heap.size) (hc : ∀ j u, (tvs ts)[j]? = some u → w.cell? ⟨tg, off + j, none⟩ = some u) : TS w G (.slice (some ⟨tg, off, none⟩) n k) ts
theorem TS.same {w w' : World} {G : Nat} {v : Value} {ts : List Tok} (hb : ∀ i, i < G → i < w.heap.size → w'.heap[i]? = w.heap[i]?) (hs : w.heap.size ≤ w'.heap.size) : TS w G v ts → TS w' G v ts
 | .nil A k h => .nil A k h
 | .at tg off n k ts hn hk hg hl hc => .at tg off n k ts hn hk hg (Nat.lt_of_lt_of_le hl hs) fun j u hu => (World.cell?_of_block (w := w) (a := ⟨tg, off + j, none⟩) (hb tg hg hl)).trans (hc j u hu)
theorem tokFrom (A : Option Addr) (n k : Nat) (h : 1 ≤ n) (W : World) : (Instr.slice 46 (.slice A n k) (some (.int .i64 1)) none none).run Tryz.prog W = .ok (sliced A 1 n k 2) W := by
 have hu : Tryz.prog.underlying 46 = some (.slice (Tryz.prog.elem 46)) := by kernel_rfl
 have hz : ∀ W : World, (sizeOf (Tryz.prog.elem 46)).run Tryz.prog W = .ok 2 W := fun W => by kernel_rfl
 have h2 : (Instr.sliceBounds true n k (some (.int .i64 1)) none none).run Tryz.prog W = .ok (1, n, k) W := by
   have : (1 : Int) ≤ (n : Int) := by omega
   simp [Instr.sliceBounds, go_sem, this]
 rw [run_slice_any W _ _ _ _ hu, h2]
 simp only [Result.andThen_ok, hz]
theorem TS.tail {w : World} {G : Nat} {A : Option Addr} {n k : Nat} {t : Tok} {r : List Tok} (h : TS w G (.slice A n k) (t :: r)) : ∃ A' k', sliced A 1 n k 2 = .slice A' r.length k' ∧ TS w G (.slice A' r.length k') r := by
 cases h with
 | «at» tg off n k ts hn hk hg hl hc =>
   rw [List.length_cons] at hn
   subst hn
   have he : sliced (some ⟨tg, off, none⟩) 1 (r.length + 1) k 2 = .slice (if k = 1 then some ⟨tg, off, none⟩ else some ⟨tg, off + 2, none⟩) r.length (k - 1) := by
     unfold sliced
     by_cases h1 : k = 1
     · rw [if_pos h1, if_pos h1]; rfl
     · rw [if_neg h1, if_neg h1]
       have : (⟨tg, off, none⟩ : Addr).add (1 * 2) = ⟨tg, off + 2, none⟩ := by unfold Addr.add; split <;> simp_all
       simp only [Option.map_some, this]
       rfl
   refine ⟨_, _, he, ?_⟩
   by_cases h1 : k = 1
   · have : r = [] := List.eq_nil_of_length_eq_zero (by omega)
     subst this
     rw [if_pos h1]
     exact .nil _ _ (fun h => by cases h)
   · rw [if_neg h1]
     refine .at tg (off + 2) _ _ r rfl (by omega) hg hl fun j u hu => ?_
     have := hc (j + 2) u (by
       rw [Lx.tvs_cons, List.getElem?_append_right (by simp [tv])]
       simpa [tv] using hu)
     rwa [show off + (j + 2) = off + 2 + j by omega] at this
theorem TS.head {w : World} {G : Nat} {A : Option Addr} {n k : Nat} {t : Tok} {r : List Tok} (h : TS w G (.slice A n k) (t :: r)) : ∃ tg off, A = some ⟨tg, off, none⟩ ∧ n = r.length + 1 ∧ w.cell? ⟨tg, off, none⟩ = some (.int .i64 t.kind) ∧ w.cell? ⟨tg, off + 1, none⟩ = some (.string (bs t.text)) := by
 cases h with
 | «at» tg off n k ts hn hk hg hl hc =>
   exact ⟨tg, off, rfl, by rw [← hn]; rfl, hc 0 _ rfl, hc 1 _ rfl⟩
theorem TS.slice {w : World} {G : Nat} {v : Value} {ts : List Tok} (h : TS w G v ts) : ∃ A k, v = .slice A ts.length k := by
 cases h with
 | nil A k h => exact ⟨A, k, rfl⟩
 | «at» tg off n k ts hn hk hg hl hc => exact ⟨_, k, by rw [hn]⟩
def consF (k : Int) (x : List UInt8) : Option Nat :=
 if k = 1 ∧ x = [40] then some 49
 else if k = 0 ∧ x = [123] then some 50
 else if k = 0 ∧ x = kIf then some 51
 else if k = 0 ∧ (x = kWhile ∨ x = kUntil) then some 52
 else if k = 0 ∧ x = kFor then some 53
 else if k = 0 ∧ x = kCase then some 54
 else none
def Mp (w : World) (m : Nat) : Prop := ∃ es clock, w.heap[m]? = some (.map es clock) ∧ ∀ (W : World) (k : Int) (x : List UInt8), 0 ≤ k ∧ k ≤ 2 → x.length ≤ 20000 → W.heap[m]? = some (.map es clock) →
 (Instr.lookup 49 (.map (some m)) (.agg #[.int .i64 k, .string (bs x)]) true).run Tryz.prog W = .ok (match consF k x with | some f => .tuple #[.func (.func f) #[] #[], .bool true] | none => .tuple #[.nilFunc, .bool false]) W
structure PM (w : World) (g : Nat) (d : Nat) (ts : List Tok) : Prop where
 row : ∃ A k m, w.heap[g]? = some (.cells #[.slice A ts.length k, .int .i64 (d : Int), .map (some m)] 52 (0, 0)) ∧ TS w g (.slice A ts.length k) ts ∧ Mp w m ∧ m < g
 kit : Wx.Kit w
 ahead : Wx.Ahead g
 good : GoodL ts
 few : ts.length ≤ 20000
 short : ∀ t ∈ ts, t.text.length ≤ 2500
 deep : d ≤ 40
end Sy
end
end Go.Proofs.YtahjonfmhejoeaaGreatDoor
