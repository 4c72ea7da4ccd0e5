/-
  The document's evaluator, first half: its small functions, its readers up to signs.
-/
import Derived.Test.YtlggpefmojacoaaGreatDoorLa54
import Derived.BigCall
import Derived.BigQuiet
import Derived.Deep.CutBlock
import Derived.Deep.DeepCutAuto
import Derived.Deep.LoopGhost
import Derived.Deep.QuietTactic
import Derived.IntWalk
import Derived.Laws.Concat
import Derived.Laws.DeepStrings4
import Derived.Laws.Strings
import Derived.LoopTactic
import Derived.WalkKit
section
namespace Go.Proofs.YtlggpefmojacoaaGreatDoor
open Go.RowKit Tx
namespace Pc

def By8 (w : World) (A : Option Addr) (n : Nat) : Prop := ∀ j, j < n → ∃ g off z, A = some ⟨g, off, none⟩ ∧ g < w.heap.size ∧ w.cell? ⟨g, off + j, none⟩ = some (.int .u8 z) ∧ 0 ≤ z ∧ z ≤ 255
theorem By8.below {w w' : World} {A : Option Addr} {n : Nat} (h : By8 w A n) (hb : Below w.heap.size w w') : By8 w' A n := by
 intro j hj
 obtain ⟨g, off, z, e, hg, hc, h1, h2⟩ := h j hj
 exact ⟨g, off, z, e, Nat.lt_of_lt_of_le hg hb.size, (hb.cell (p := ⟨g, off + j, none⟩) hg).trans hc, h1, h2⟩
def Few (M : Nat) (w : World) (g n : Nat) : Prop := ∀ j, j < n → ∃ x : ByteArray, w.cell? ⟨g, j, none⟩ = some (.string x) ∧ x.size ≤ M
theorem Few.below {M : Nat} {w w' : World} {g n : Nat} (h : Few M w g n) (hg : g < w.heap.size) (hb : Below w.heap.size w w') : Few M w' g n := fun j hj => by
 obtain ⟨x, hc, hs⟩ := h j hj
 exact ⟨x, (hb.cell (p := ⟨g, j, none⟩) hg).trans hc, hs⟩
def short (M : Nat) : Value → Bool
 | .string x => decide (x.size ≤ M)
 | _ => false
theorem few_of {M : Nat} {w : World} {g : Nat} {cs : Array Value} {t : TypeId} (h : w.heap[g]? = some (.cells cs t (0, 0))) (hs : cs.all (short M) = true) : Few M w g cs.size := fun j hj => by
 have h1 := cell_of_row w g j cs t (0, 0) h
 have h2 : short M cs[j] = true := Array.all_eq_true.1 hs j hj
 rw [Array.getElem?_eq_getElem hj] at h1
 cases hc : cs[j] with
 | string x => rw [hc] at h1 h2; exact ⟨x, h1, of_decide_eq_true h2⟩
 | _ => rw [hc] at h2; cases h2
set_option maxHeartbeats 1000000 in
set_option maxRecDepth 100000 in
theorem pieces_any (M : Nat) (hM : M ≤ 100) (A : Option Addr) (n k g m q : Nat) (w : World) (hl : By8 w A n) (hn : n ≤ 9223372036854775807) (hp : Few M w g m) (hm : 0 < m) (hm2 : m ≤ 100) :
   Calls Tryz.prog 14 #[.slice A n k, .slice (some ⟨g, 0, none⟩) m q] w fun e w' => ∃ x : ByteArray, e = .returned (.string x) ∧ x.size ≤ M * 14 ∧ w = w' := by
 have HL := Kept.mk hl
 have HP := Kept.mk hp
 clear hl hp
 go_enter Tryz.func14, Tryz.ntmps14
 go_wp2_with fail
 go_loop [5, 6] (fun v i => ∃ (j : Nat) (x : ByteArray), j ≤ n ∧ j ≤ 14 ∧ i = .int .i64 (j : Int) ∧ v = .string x ∧ x.size ≤ M * j) (fun _ i => n - (intOf i).toNat)
 case atStart => exact ⟨0, ⟨#[]⟩, by omega, by omega, rfl, rfl, Nat.zero_le _⟩
 case round =>
   obtain ⟨j, x, hj, hj14, rfl, rfl, hx⟩ := hrel
   have hMj : M * j ≤ M * 14 := Nat.mul_le_mul_left M hj14
   have j0 : (0 : Int) ≤ j := by omega
   by_cases hlt : j < n
   · have j1 : (j : Int) < (n : Int) := by omega
     by_cases h14 : j < 14
     · have j2 : (j : Int) < 14 := by omega
       obtain ⟨ga, off, z, e, hg, hc, hz0, hz1⟩ := HL.out j hlt
       subst e
       have hm1 : (0 : Int) < (m : Int) := by omega
       have e1 : z.tmod (m : Int) = z % (m : Int) := Int.tmod_eq_emod_of_nonneg hz0
       have r0 : 0 ≤ z % (m : Int) := Int.emod_nonneg _ (by omega)
       have r1 : z % (m : Int) < (m : Int) := Int.emod_lt_of_pos _ hm1
       obtain ⟨y, hy, hys⟩ := HP.out (z % (m : Int)).toNat (by omega)
       have hsum : ¬ 9223372036854775807 < x.size + y.size := by omega
       have HC : Kept (x.size + y.size ≤ M * (j + 1)) := ⟨by rw [Nat.mul_add, Nat.mul_one]; omega⟩
       clear hMj
       go_wp2_with fail
       go_round
       case rel => exact ⟨j + 1, x ++ y, by omega, by omega, by go_num, rfl, by rw [ByteArray.size_append]; exact HC.out⟩
       case measure => simp [intOf]; omega
     · have j2 : ¬ (j : Int) < 14 := by omega
       clear h14
       go_wp2_with fail
       go_ret
       exact ⟨x, rfl, by omega, rfl⟩
   · have j1 : ¬ (j : Int) < (n : Int) := by omega
     have j1b : decide ((j : Int) < (n : Int)) = false := decide_eq_false j1
     clear hlt
     go_wp2_with fail
     go_ret
     exact ⟨x, rfl, by omega, rfl⟩
end Pc
end Go.Proofs.YtlggpefmojacoaaGreatDoor
end
section
namespace Go.Proofs.YtlggpefmojacoaaGreatDoor
open Go.RowKit Tx
namespace Pc

set_option maxHeartbeats 1000000 in
set_option maxRecDepth 100000 in
theorem pieces_prop (ps : List ByteArray) (R : Nat → List UInt8 → Prop) (M : Nat) (hM : M ≤ 100) (hps : ∀ y ∈ ps, y.size ≤ M) (h0 : R 0 []) (hR : ∀ j x y, R j x → y ∈ ps → R (j + 1) (x ++ toL y))
   (A : Option Addr) (n k g m q : Nat) (w : World) (hl : By8 w A n) (hn : n ≤ 9223372036854775807) (hp : Own.At Value.string w g 0 ps) (hml : ps.length = m) (hm : 0 < m) (hm2 : m ≤ 100) :
   Calls Tryz.prog 14 #[.slice A n k, .slice (some ⟨g, 0, none⟩) m q] w fun e w' => ∃ x : ByteArray, e = .returned (.string x) ∧ x.size ≤ M * 14 ∧ (∃ j, j ≤ 14 ∧ R j (toL x)) ∧ w = w' := by
 have HL := Kept.mk hl
 have HP := Kept.mk hp
 have HML := Kept.mk hml
 have HPs := Kept.mk hps
 have HRs := Kept.mk hR
 have H0 := Kept.mk h0
 clear hl hp hml hps hR h0
 go_enter Tryz.func14, Tryz.ntmps14
 go_wp2_with fail
 go_loop [5, 6] (fun v i => ∃ (j : Nat) (x : ByteArray), j ≤ n ∧ j ≤ 14 ∧ i = .int .i64 (j : Int) ∧ v = .string x ∧ x.size ≤ M * j ∧ Kept (R j (toL x))) (fun _ i => n - (intOf i).toNat)
 case atStart => exact ⟨0, ⟨#[]⟩, by omega, by omega, rfl, rfl, Nat.zero_le _, H0⟩
 case round =>
   obtain ⟨j, x, hj, hj14, rfl, rfl, hx, HRx⟩ := hrel
   have hMj : M * j ≤ M * 14 := Nat.mul_le_mul_left M hj14
   have j0 : (0 : Int) ≤ j := by omega
   have HE : Kept (∃ j, j ≤ 14 ∧ R j (toL x)) := ⟨j, hj14, HRx.out⟩
   by_cases hlt : j < n
   · have j1 : (j : Int) < (n : Int) := by omega
     by_cases h14 : j < 14
     · have j2 : (j : Int) < 14 := by omega
       obtain ⟨ga, off, z, e, hg, hc, hz0, hz1⟩ := HL.out j hlt
       subst e
       have hm1 : (0 : Int) < (m : Int) := by omega
       have e1 : z.tmod (m : Int) = z % (m : Int) := Int.tmod_eq_emod_of_nonneg hz0
       have r0 : 0 ≤ z % (m : Int) := Int.emod_nonneg _ (by omega)
       have r1 : z % (m : Int) < (m : Int) := Int.emod_lt_of_pos _ hm1
       have hjl : (z % (m : Int)).toNat < ps.length := by rw [HML.out]; omega
       have hy := HP.out.cell (z % (m : Int)).toNat hjl
       rw [Nat.zero_add] at hy
       have HRy := Kept.mk (HRs.out _ _ _ HRx.out (List.getElem_mem hjl))
       have hys := HPs.out _ (List.getElem_mem hjl)
       generalize ps[(z % (m : Int)).toNat] = y at hy HRy hys
       have hsum : ¬ 9223372036854775807 < x.size + y.size := by omega
       have HC : Kept (x.size + y.size ≤ M * (j + 1)) := ⟨by rw [Nat.mul_add, Nat.mul_one]; omega⟩
       have HR2 : Kept (R (j + 1) (toL (x ++ y))) := ⟨by
         have e : toL (x ++ y) = toL x ++ toL y := by unfold toL; rw [ByteArray.data_append, Array.toList_append]
         rw [e]; exact HRy.out⟩
       clear hMj hjl HRy
       go_wp2_with fail
       go_round
       case rel => exact ⟨j + 1, x ++ y, by omega, by omega, by go_num, rfl, by rw [ByteArray.size_append]; exact HC.out, HR2⟩
       case measure => simp [intOf]; omega
     · have j2 : ¬ (j : Int) < 14 := by omega
       clear h14
       go_wp2_with fail
       go_ret
       exact ⟨x, rfl, by omega, HE.out, rfl⟩
   · have j1 : ¬ (j : Int) < (n : Int) := by omega
     have j1b : decide ((j : Int) < (n : Int)) = false := decide_eq_false j1
     clear hlt
     go_wp2_with fail
     go_ret
     exact ⟨x, rfl, by omega, HE.out, rfl⟩
end Pc
end Go.Proofs.YtlggpefmojacoaaGreatDoor
end
section
namespace Go.Proofs.YtlggpefmojacoaaGreatDoor
open Go.RowKit Tx
namespace Ar
open Va (Vr VS VO getD Sorted)
open Pc (By8 pieces_prop)
def vA (d : ByteArray) : Vr := ⟨⟨#[97]⟩, d, false, false⟩
theorem vs_new (w : World) (l : List Vr) (n : Nat) (cs : Array Value) (t : TypeId) (h : cs = (Va.pvl l).toArray) (hn : n = l.length) : VS (w.alloc (.cells cs t)) (some ⟨w.heap.size, 0, none⟩) n l := by
 subst h hn
 refine ⟨Nat.le_refl _, fun e => (by cases e), fun _ => ⟨w.heap.size, 0, rfl, by simp, fun j u hu => ?_⟩⟩
 rw [Nat.zero_add, cell_of_row _ _ j _ _ _ (heap_alloc_new w _)]
 simpa using hu
def signsL : List ByteArray := [⟨#[49]⟩, ⟨#[50]⟩, ⟨#[48]⟩, ⟨#[97]⟩, ⟨#[98]⟩, ⟨#[120]⟩, ⟨#[43]⟩, ⟨#[45]⟩, ⟨#[42]⟩, ⟨#[47]⟩, ⟨#[37]⟩, ⟨#[40]⟩, ⟨#[41]⟩, ⟨#[32]⟩, ⟨#[60, 60]⟩, ⟨#[62, 62]⟩, ⟨#[60]⟩, ⟨#[62]⟩, ⟨#[61]⟩, ⟨#[61, 61]⟩, ⟨#[33, 61]⟩, ⟨#[33]⟩, ⟨#[126]⟩, ⟨#[38]⟩, ⟨#[124]⟩, ⟨#[94]⟩, ⟨#[38, 38]⟩, ⟨#[124, 124]⟩, ⟨#[63]⟩, ⟨#[58]⟩, ⟨#[48, 120, 49, 102]⟩, ⟨#[48, 49, 55]⟩, ⟨#[57, 50, 50, 51, 51, 55, 50, 48, 51, 54, 56, 53, 52, 55, 55, 53, 56, 48, 55]⟩, ⟨#[97, 61]⟩, ⟨#[98, 43, 61]⟩]
theorem pr_small : ∀ y ∈ signsL, y.size ≤ 20 := by decide +kernel
set_option maxRecDepth 100000 in
theorem signs_any (w : World) : Calls Tryz.prog 15 #[] w fun e w' => ∃ g, e = .returned (.slice (some ⟨g, 0, none⟩) 35 35) ∧ Own.At Value.string w' g 0 signsL ∧ Below w.heap.size w w' := by
 have HB : Kept (∀ o : Obj, Below w.heap.size w (w.alloc o)) := ⟨fun o => (Below.refl _ _).alloc (Nat.le_refl _) o⟩
 have HA := Kept.mk (Own.At.fresh (c := Value.string) w _ 9 signsL rfl)
 go_enter Tryz.func15, Tryz.ntmps15
 go_wp2_with fail
 go_ret
 exact ⟨_, rfl, HA.out, HB.out _⟩
end Ar
end Go.Proofs.YtlggpefmojacoaaGreatDoor
end
section
namespace Go.Proofs.YtlggpefmojacoaaGreatDoor
namespace Ar
def blp (f : P) (least : Nat) : Nat → Ex → P
 | 0, e, ts => .ok (e, ts)
 | _ + 1, e, [] => .ok (e, [])
 | m + 1, e, t :: r => if levelOf t < least ∨ levelOf t = 0 then .ok (e, t :: r) else (match lev f (10 - levelOf t) r with | .error c => .error c | .ok (b, r') => blp f least m (.bin t e b) r')
theorem levelOf_le (t : Tok) : levelOf t ≤ 10 := by unfold levelOf; split <;> (try omega) <;> split <;> (try omega) <;> split <;> (try omega) <;> split <;> (try omega) <;> split <;> (try omega) <;> split <;> (try omega) <;> split <;> (try omega) <;> split <;> (try omega) <;> split <;> (try omega) <;> split <;> omega
theorem blp_more {f : P} (hf : ∀ ts e r, f ts = .ok (e, r) → r <:+ ts) (k : Nat) : ∀ (m : Nat) (e : Ex) (ts : List Tok) (n : Nat), ts.length ≤ m → m ≤ n → blp f k n e ts = blp f k m e ts
 | 0, e, ts, n, h, _ => by
   obtain rfl : ts = [] := List.eq_nil_of_length_eq_zero (by omega)
   cases n <;> rfl
 | m + 1, e, [], n, _, hn => by cases n <;> rfl
 | m + 1, e, t :: r, 0, _, hn => absurd hn (Nat.not_succ_le_zero _)
 | m + 1, e, t :: r, n + 1, h, hn => by
   rw [blp, blp]
   split
   · rfl
   · split
     · rfl
     · rename_i b r' hb
       have := (lev_suf hf _ _ _ _ hb).length_le
       exact blp_more hf k m _ _ n (by simp only [List.length_cons] at h; omega) (by omega)
theorem lp_more {f : P} (hf : ∀ ts e r, f ts = .ok (e, r) → r <:+ ts) (k : Nat) : ∀ (m : Nat) (e : Ex) (ts : List Tok) (n : Nat), ts.length ≤ m → m ≤ n → lp f k n e ts = lp f k m e ts
 | 0, e, ts, n, h, _ => by
   obtain rfl : ts = [] := List.eq_nil_of_length_eq_zero (by omega)
   cases n <;> rfl
 | m + 1, e, [], n, _, hn => by cases n <;> rfl
 | m + 1, e, t :: r, 0, _, hn => absurd hn (Nat.not_succ_le_zero _)
 | m + 1, e, t :: r, n + 1, h, hn => by
   rw [lp, lp]
   split
   · split
     · rfl
     · rename_i b r' hb
       have := (hf _ _ _ hb).length_le
       exact lp_more hf k m _ _ n (by simp only [List.length_cons] at h; omega) (by omega)
   · rfl
theorem blp_stop {f : P} (k : Nat) (m : Nat) (e : Ex) (ts : List Tok) (h : stops k ts) : blp f k m e ts = .ok (e, ts) := by
 cases m with
 | zero => rfl
 | succ m =>
   cases ts with
   | nil => rfl
   | cons t r => rw [blp, if_pos (show levelOf t < k ∨ levelOf t = 0 from h)]
theorem lp_stops {f : P} {k : Nat} (hf : ∀ ts e r, f ts = .ok (e, r) → r <:+ ts) (hs : ∀ ts e r, f ts = .ok (e, r) → stops (k + 1) r) : ∀ (m : Nat) (e : Ex) (ts : List Tok) (e' : Ex) (r : List Tok), ts.length ≤ m → stops (k + 1) ts → lp f k m e ts = .ok (e', r) → stops k r
 | 0, e, ts, e', r, hl, hst, h => by
   obtain rfl : ts = [] := List.eq_nil_of_length_eq_zero (by omega)
   cases h; trivial
 | m + 1, e, [], e', r, hl, hst, h => by cases h; trivial
 | m + 1, e, t :: r0, e', r, hl, hst, h => by
   rw [lp] at h
   split at h
   · cases hb : f r0 with
     | error c => rw [hb] at h; cases h
     | ok z =>
       obtain ⟨b, r1⟩ := z
       rw [hb] at h
       have := (hf _ _ _ hb).length_le
       exact lp_stops hf hs m _ _ _ _ (by simp only [List.length_cons] at hl; omega) (hs _ _ _ hb) h
   · cases h
     rename_i hne
     simp only [stops] at hst ⊢
     omega
theorem lev_stops {f : P} (hf : ∀ ts e r, f ts = .ok (e, r) → r <:+ ts) : ∀ (j : Nat), j ≤ 10 → ∀ (ts : List Tok) (e : Ex) (r : List Tok), lev f j ts = .ok (e, r) → stops (11 - j) r
 | 0, _, ts, e, r, h => by
   cases r with
   | nil => trivial
   | cons t r => exact .inl (by have := levelOf_le t; omega)
 | j + 1, hj, ts, e, r, h => by
   rw [lev] at h
   cases hb : lev f j ts with
   | error c => rw [hb] at h; cases h
   | ok z =>
     obtain ⟨b, r1⟩ := z
     rw [hb] at h
     have hs := lev_stops hf j (by omega)
     rw [show 11 - j = (10 - j) + 1 by omega] at hs
     rw [show 11 - (j + 1) = 10 - j by omega]
     exact lp_stops (lev_suf hf j) hs _ _ _ _ _ (Nat.le_refl _) (hs _ _ _ hb) h
theorem blp_step {f : P} (hf : ∀ ts e r, f ts = .ok (e, r) → r <:+ ts) (j : Nat) (hj : j ≤ 9) : ∀ (m : Nat) (e : Ex) (ts : List Tok), ts.length ≤ m →
   (match blp f (11 - j) m e ts with | .error c => Except.error c | .ok (e', r) => lp (lev f j) (10 - j) r.length e' r) = blp f (10 - j) m e ts
 | 0, e, ts, h => by
   obtain rfl : ts = [] := List.eq_nil_of_length_eq_zero (by omega)
   rfl
 | m + 1, e, [], _ => rfl
 | m + 1, e, t :: r, h => by
   simp only [List.length_cons] at h
   by_cases h1 : levelOf t < 11 - j ∨ levelOf t = 0
   · rw [blp, if_pos h1]
     dsimp only
     by_cases h2 : levelOf t < 10 - j ∨ levelOf t = 0
     · rw [blp, if_pos h2]
       exact lp_stop _ _ _ _ fun t' r' e' => by cases e'; omega
     · rw [blp, if_neg h2]
       have h3 : levelOf t = 10 - j := by omega
       rw [List.length_cons, lp, if_pos h3, h3, show 10 - (10 - j) = j by omega]
       cases hb : lev f j r with
       | error c => rfl
       | ok z =>
         obtain ⟨b, r'⟩ := z
         dsimp only
         have hle := (lev_suf hf _ _ _ _ hb).length_le
         have hst := lev_stops hf j (by omega) _ _ _ hb
         have hI := blp_step hf j hj m (.bin t e b) r' (by omega)
         rw [blp_stop _ _ _ _ hst] at hI
         dsimp only at hI
         rw [← hI]
         exact lp_more (lev_suf hf j) _ _ _ _ _ (Nat.le_refl _) (by omega)
   · have h2 : ¬ (levelOf t < 10 - j ∨ levelOf t = 0) := by omega
     rw [blp, blp, if_neg h1, if_neg h2]
     cases hb2 : lev f (10 - levelOf t) r with
     | error c => rfl
     | ok z =>
       obtain ⟨b, r'⟩ := z
       exact blp_step hf j hj m _ r' (by have := (lev_suf hf _ _ _ _ hb2).length_le; omega)
theorem lev_blp {f : P} (hf : ∀ ts e r, f ts = .ok (e, r) → r <:+ ts) : ∀ (j : Nat), j ≤ 10 → ∀ (ts : List Tok), lev f j ts = match f ts with | .error c => .error c | .ok (e, r) => blp f (11 - j) r.length e r
 | 0, _, ts => by
   rw [lev]
   split
   · assumption
   · rename_i e r h
     rw [h, blp_stop _ _ _ _ (lev_stops hf 0 (by omega) ts e r h)]
 | j + 1, hj, ts => by
   rw [lev, lev_blp hf j (by omega) ts]
   cases hb : f ts with
   | error c => rfl
   | ok z =>
     obtain ⟨e, r⟩ := z
     dsimp only
     rw [show 11 - (j + 1) = 10 - j by omega]
     exact blp_step hf j (by omega) _ e r (Nat.le_refl _)
end Ar
end Go.Proofs.YtlggpefmojacoaaGreatDoor
end
section
namespace Go.Proofs.YtlggpefmojacoaaGreatDoor
namespace Ar

def dops : List Tok := [[60, 60], [62, 62], [60, 61], [62, 61], [61, 61], [33, 61], [38, 38], [124, 124], [43, 61], [45, 61], [42, 61], [47, 61], [37, 61], [43], [45], [42], [47], [37], [60], [62], [38], [124], [94], [63], [58], [61], [33], [126], [40], [41]]
def opS (t : List UInt8) : Tok := (dops.find? fun o => o.isPrefixOf t).getD []
def opH : List Tok → Tok
 | [] => []
 | t :: _ => if dops.contains t then t else []
theorem pre_two (a b x y : UInt8) (r : List UInt8) : List.isPrefixOf [a, b] (x :: y :: r) = ([a, b] == [x, y]) := by
 simp [List.isPrefixOf, List.cons_beq_cons]
theorem pre_one (a x : UInt8) (r : List UInt8) : List.isPrefixOf [a] (x :: r) = ([a] == [x]) := by
 simp [List.isPrefixOf, List.cons_beq_cons]
def dtwo : List Tok := dops.take 13
def done1 : List Tok := dops.drop 13
theorem dops_app : dops = dtwo ++ done1 := rfl
theorem dtwo_long : ∀ o ∈ dtwo, isLong o = true ∧ o.length = 2 := by decide
theorem done_len : ∀ o ∈ done1, o.length = 1 := by decide
theorem long_dtwo {t : Tok} (h : isLong t = true) : t ∈ dtwo := by
 unfold isLong longs assigns at h
 simp only [Bool.or_eq_true, Bool.and_eq_true, List.contains_iff_mem, List.mem_cons, List.not_mem_nil, or_false, bne_iff_ne, ne_eq] at h
 rcases h with h | ⟨h1, h⟩
 · rcases h with rfl | rfl | rfl | rfl | rfl | rfl | rfl | rfl <;> decide
 · rcases h with rfl | rfl | rfl | rfl | rfl | rfl
   · exact absurd rfl h1
   all_goals decide
theorem dops_noword : ∀ o ∈ dops, ∀ c ∈ o.head?, wordB c = false := by decide
theorem dops_ne : ∀ o ∈ dops, o ≠ [] := by decide
theorem find_two (x y : UInt8) (r : List UInt8) : ∀ l : List Tok, (∀ o ∈ l, o.length = 2) → (l.find? fun o => o.isPrefixOf (x :: y :: r)) = if l.contains [x, y] then some [x, y] else none
 | [], _ => rfl
 | o :: l, h => by
   have ho := h o List.mem_cons_self
   have ih := find_two x y r l (fun z hz => h z (List.mem_cons_of_mem _ hz))
   match o, ho with
   | [a, b], _ =>
     rw [List.find?_cons, pre_two, ih, List.contains_cons]
     by_cases e : ([a, b] : Tok) = [x, y]
     · rw [e]; simp
     · have e1 : (([a, b] : Tok) == [x, y]) = false := beq_eq_false_iff_ne.2 e
       have e2 : (([x, y] : Tok) == [a, b]) = false := beq_eq_false_iff_ne.2 (fun k => e k.symm)
       rw [e1, e2]; simp
theorem find_one (x : UInt8) (r : List UInt8) : ∀ l : List Tok, (∀ o ∈ l, o.length = 1) → (l.find? fun o => o.isPrefixOf (x :: r)) = if l.contains [x] then some [x] else none
 | [], _ => rfl
 | o :: l, h => by
   have ho := h o List.mem_cons_self
   have ih := find_one x r l (fun z hz => h z (List.mem_cons_of_mem _ hz))
   match o, ho with
   | [a], _ =>
     rw [List.find?_cons, pre_one, ih, List.contains_cons]
     by_cases e : ([a] : Tok) = [x]
     · rw [e]; simp
     · have e1 : (([a] : Tok) == [x]) = false := beq_eq_false_iff_ne.2 e
       have e2 : (([x] : Tok) == [a]) = false := beq_eq_false_iff_ne.2 (fun k => e k.symm)
       rw [e1, e2]; simp
theorem find_short (x : UInt8) : ∀ l : List Tok, (∀ o ∈ l, o.length = 2) → (l.find? fun o => o.isPrefixOf [x]) = none
 | [], _ => rfl
 | o :: l, h => by
   have ho := h o List.mem_cons_self
   match o, ho with
   | [a, b], _ =>
     rw [List.find?_cons, show List.isPrefixOf [a, b] [x] = false by simp [List.isPrefixOf]]
     exact find_short x l (fun z hz => h z (List.mem_cons_of_mem _ hz))
theorem contains_two (x y : UInt8) : dops.contains [x, y] = dtwo.contains [x, y] := by
 rw [dops_app, List.contains_eq_any_beq, List.contains_eq_any_beq, List.any_append]
 have : (done1.any fun o => [x, y] == o) = false := by
   rw [List.any_eq_false]
   intro o ho
   have := done_len o ho
   intro e
   rw [beq_iff_eq] at e
   rw [← e] at this
   simp at this
 rw [this, Bool.or_false]
theorem contains_one (x : UInt8) : dops.contains [x] = done1.contains [x] := by
 rw [dops_app, List.contains_eq_any_beq, List.contains_eq_any_beq, List.any_append]
 have : (dtwo.any fun o => [x] == o) = false := by
   rw [List.any_eq_false]
   intro o ho
   have := (dtwo_long o ho).2
   intro e
   rw [beq_iff_eq] at e
   rw [← e] at this
   simp at this
 rw [this, Bool.false_or]
theorem op_tok {t : List UInt8} (ht : t ≠ []) : opS t = if dops.contains (t.take (tokL t)) then t.take (tokL t) else [] := by
 by_cases hr : 0 < runL t
 · -- a word: no operator begins so
   have hw : ∃ c r, t = c :: r ∧ wordB c = true := by
     cases t with
     | nil => exact absurd rfl ht
     | cons c r =>
       refine ⟨c, r, rfl, ?_⟩
       by_cases hc : wordB c = true
       · exact hc
       · unfold runL at hr
         rw [List.takeWhile_cons, if_neg hc] at hr
         exact absurd hr (by simp)
   obtain ⟨c, r, rfl, hc⟩ := hw
   have h1 : (dops.find? fun o => o.isPrefixOf (c :: r)) = none := by
     rw [List.find?_eq_none]
     intro o ho hp
     have h2 := dops_noword o ho
     cases o with
     | nil => exact dops_ne [] ho rfl
     | cons a o' =>
       have h3 := h2 a rfl
       have h4 : a = c := by
         simp only [List.isPrefixOf, Bool.and_eq_true, beq_iff_eq] at hp
         exact hp.1
       rw [h4, hc] at h3
       cases h3
   have h5 : dops.contains ((c :: r).take (tokL (c :: r))) = false := by
     rw [List.contains_eq_any_beq, List.any_eq_false]
     intro o ho e
     rw [beq_iff_eq] at e
     have h2 := dops_noword o ho
     have hp := tokL_pos (s := c :: r) (by simp)
     obtain ⟨m, hm⟩ : ∃ m, tokL (c :: r) = m + 1 := ⟨tokL (c :: r) - 1, by omega⟩
     rw [hm, List.take_succ_cons] at e
     have h3 := h2 c (by rw [← e]; rfl)
     rw [hc] at h3
     cases h3
   unfold opS
   rw [h1, if_neg (by rw [h5]; decide)]
   rfl
 · unfold opS tokL
   rw [if_neg hr, dops_app, List.find?_append]
   match t, ht with
   | [x], _ =>
     rw [find_short x dtwo (fun o ho => (dtwo_long o ho).2), Option.none_or, find_one x [] done1 done_len, if_neg (show ¬ (2 ≤ [x].length ∧ isLong ([x].take 2) = true) from fun e => absurd e.1 (by simp)),
       show [x].take (min [x].length 1) = [x] from rfl, ← dops_app, contains_one]
     cases done1.contains [x] <;> rfl
   | x :: y :: r, _ =>
     rw [find_two x y r dtwo (fun o ho => (dtwo_long o ho).2), find_one x (y :: r) done1 done_len, show (x :: y :: r).take 2 = [x, y] from rfl, ← dops_app]
     by_cases hl : isLong [x, y] = true
     · have h1 : dtwo.contains [x, y] = true := List.contains_iff_mem.2 (long_dtwo hl)
       have e2 : (if 2 ≤ (x :: y :: r).length ∧ isLong [x, y] = true then 2 else min (x :: y :: r).length 1) = 2 := if_pos ⟨by simp, hl⟩
       rw [e2, h1, show (x :: y :: r).take 2 = [x, y] from rfl, contains_two, h1]
       rfl
     · have h1 : dtwo.contains [x, y] = false := by
         rw [← Bool.not_eq_true, List.contains_iff_mem]
         exact fun hm => hl (dtwo_long _ hm).1
       have e2 : (if 2 ≤ (x :: y :: r).length ∧ isLong [x, y] = true then 2 else min (x :: y :: r).length 1) = 1 := (if_neg (fun e => hl e.2)).trans (by simp)
       rw [e2, h1, show (x :: y :: r).take 1 = [x] from rfl, contains_one]
       cases done1.contains [x] <;> rfl
theorem op_head (s : List UInt8) : opS (trim s) = opH (toks s) := by
 by_cases h : trim s = []
 · rw [h, toks_nil (cutT_nil.2 h)]
   rfl
 · rw [op_tok h, toks_cons (fun e => h (cutT_nil.1 e))]
   rfl
theorem op_mem {s : List UInt8} {o : Tok} (h : opS s = o) (h0 : o ≠ []) : o ∈ dops ∧ o <+: s := by
 unfold opS at h
 cases hf : dops.find? fun o => o.isPrefixOf s with
 | none => rw [hf] at h; exact absurd h.symm h0
 | some z =>
   rw [hf] at h
   obtain rfl : z = o := h
   exact ⟨List.mem_of_find?_eq_some hf, List.isPrefixOf_iff_prefix.1 (List.find?_some (p := fun o : Tok => o.isPrefixOf s) hf)⟩
theorem op_left {s : List UInt8} {o : Tok} (h : opS (trim s) = o) (h0 : o ≠ []) : toks s = o :: toks ((trim s).drop o.length) := by
 have ht : trim s ≠ [] := fun e => by rw [e] at h; exact h0 (by rw [← h]; rfl)
 have h1 := op_tok ht
 rw [h] at h1
 by_cases hc : dops.contains ((trim s).take (tokL (trim s))) = true
 · rw [if_pos hc] at h1
   rw [toks_cons (fun e => ht (cutT_nil.1 e))]
   have h2 : cutT s = o := h1.symm
   have h3 : o.length = tokL (trim s) := by rw [h1, List.length_take]; have := tokL_le (trim s); omega
   rw [h2, h3]
   rfl
 · rw [if_neg hc] at h1
   exact absurd h1 h0
end Ar
end Go.Proofs.YtlggpefmojacoaaGreatDoor
end
section
namespace Go.Proofs.YtlggpefmojacoaaGreatDoor
open Go.RowKit Tx
namespace Ar
open Va (Vr VS getD Sorted)

structure QM (w : World) (b : Nat) (s : List UInt8) (l : List Vr) (c : Int) : Prop where
 row : ∃ A k, w.heap[b]? = some (.cells #[.string (bs s), .slice A l.length k, .int .i64 c] 66 (0, 0)) ∧ VS w A k l
 ok : Ok l
section
variable {w w' : World} {b : Nat} {s : List UInt8} {l : List Vr} {c : Int}
theorem QM.lt (h : QM w b s l c) : b < w.heap.size := by
 obtain ⟨A, k, hr, _⟩ := h.row
 exact (Array.getElem?_eq_some_iff.1 hr).1
theorem QM.c0 (h : QM w b s l c) : w.cell? ⟨b, 0, none⟩ = some (.string (bs s)) := by
 obtain ⟨A, k, hr, _⟩ := h.row
 exact cell_of_row w b 0 _ _ _ hr
theorem QM.c2 (h : QM w b s l c) : w.cell? ⟨b, 2, none⟩ = some (.int .i64 c) := by
 obtain ⟨A, k, hr, _⟩ := h.row
 exact cell_of_row w b 2 _ _ _ hr
theorem QM.fz (h : QM w b s l c) (i : Nat) : w.frozen? ⟨b, i, none⟩ = false := by
 obtain ⟨A, k, hr, _⟩ := h.row
 exact frozen_of_row w b i _ _ hr
theorem QM.drew (h : QM w b s l c) : QM w.drew b s l c := by
 obtain ⟨A, k, hr, hv⟩ := h.row
 exact ⟨⟨A, k, hr, ⟨hv.cap, hv.nil, hv.mem⟩⟩, h.ok⟩
theorem QM.drewN (h : QM w b s l c) (n : Nat) : QM (w.drewN n) b s l c := by
 obtain ⟨A, k, hr, hv⟩ := h.row
 exact ⟨⟨A, k, hr, ⟨hv.cap, hv.nil, hv.mem⟩⟩, h.ok⟩
theorem QM.below (h : QM w b s l c) (hb : Below w.heap.size w w') : QM w' b s l c := by
 obtain ⟨A, k, hr, hv⟩ := h.row
 exact ⟨⟨A, k, (hb.block b h.lt).trans hr, hv.below hb⟩, h.ok⟩
theorem VS.elsewhere {A : Option Addr} {k : Nat} {x y z : Value} {t : TypeId} {q : Nat × Nat} (hv : VS w A k l) (hr : w.heap[b]? = some (.cells #[x, y, z] t q)) (hy : ∃ a n m, y = .slice a n m) (hz : ∃ i, z = .int .i64 i) {w2 : World} (hs : w.heap.size ≤ w2.heap.size) (hb : ∀ g, g ≠ b → w2.heap[g]? = w.heap[g]?) : VS w2 A k l := by
 refine ⟨hv.cap, hv.nil, fun hl => ?_⟩
 obtain ⟨g, off, h1, h3, h4⟩ := hv.mem hl
 have hg : g ≠ b := by
   rintro rfl
   obtain ⟨v, t, rfl⟩ := List.exists_cons_of_ne_nil hl
   obtain ⟨a, n, m, rfl⟩ := hy
   obtain ⟨i, rfl⟩ := hz
   have h5 := h4 0 (.string v.name) rfl
   have h6 := h4 1 (.string v.value) rfl
   rw [cell_of_row w g (off + 0) _ _ _ hr] at h5
   rw [cell_of_row w g (off + 1) _ _ _ hr] at h6
   match off, h5, h6 with
   | 0, _, h6 => simp at h6
   | 1, h5, _ => simp at h5
   | 2, h5, _ => simp at h5
   | o + 3, h5, _ => simp at h5
 exact ⟨g, off, h1, Nat.lt_of_lt_of_le h3 hs, fun j u hu => (World.cell?_of_block (w := w) (a := ⟨g, off + j, none⟩) (hb g hg)).trans (h4 j u hu)⟩
theorem QM.text (h : QM w b s l c) (t : List UInt8) : QM (w.setCell ⟨b, 0, none⟩ (.string (bs t))) b t l c ∧ Only (· = b) w (w.setCell ⟨b, 0, none⟩ (.string (bs t))) := by
 obtain ⟨A, k, hr, hv⟩ := h.row
 refine ⟨⟨⟨A, k, by have := heap_setCell_same w b 0 _ _ (.string (bs t)) hr; simpa using this, VS.elsewhere hv hr ⟨_, _, _, rfl⟩ ⟨_, rfl⟩ (by simp [World.setCell]) fun g hg => Below.heap_setCell _ _ _ _ hg⟩, h.ok⟩, (Only.refl _ _).setCell _ _ (fun _ => rfl)⟩
theorem QM.err (h : QM w b s l c) (d : Int) : QM (w.setCell ⟨b, 2, none⟩ (.int .i64 d)) b s l d ∧ Only (· = b) w (w.setCell ⟨b, 2, none⟩ (.int .i64 d)) := by
 obtain ⟨A, k, hr, hv⟩ := h.row
 refine ⟨⟨⟨A, k, by have := heap_setCell_same w b 2 _ _ (.int .i64 d) hr; simpa using this, VS.elsewhere hv hr ⟨_, _, _, rfl⟩ ⟨_, rfl⟩ (by simp [World.setCell]) fun g hg => Below.heap_setCell _ _ _ _ hg⟩, h.ok⟩, (Only.refl _ _).setCell _ _ (fun _ => rfl)⟩
end
theorem bs_inj {a b : List UInt8} (h : bs a = bs b) : a = b := by rw [← toL_bs a, h, toL_bs]
def firstE (c d : Int) : Int := if c = 0 then d else c
def Qt0 (w : World) (b : Nat) (s : List UInt8) (l : List Vr) (c : Int) (e : Ending) (w' : World) : Prop := e = .returned (.tuple #[]) ∧ Kept (QM w' b s l c) ∧ Kept (Only (· = b) w w')
set_option maxRecDepth 100000 in
theorem fail_any (w : World) (b : Nat) (s : List UInt8) (l : List Vr) (c d : Int) (h : QM w b s l c) :
   Calls Tryz.prog 47 #[.pointer (some ⟨b, 0, none⟩), .int .i64 d] w (Qt0 w b s l (firstE c d)) := by
 have H := Kept.mk h
 have HE := Kept.mk (h.err d)
 have c2 := h.c2
 have f2 := h.fz 2
 clear h
 by_cases hc : c = 0
 · subst hc
   have HF : Kept (firstE 0 d = d) := ⟨if_pos rfl⟩
   rw [HF.out]
   go_enter Tryz.func47, Tryz.ntmps47
   go_wp2_with fail
   go_end0
   exact ⟨rfl, ⟨HE.out.1⟩, ⟨HE.out.2⟩⟩
 · have HF : Kept (firstE c d = c) := ⟨if_neg hc⟩
   rw [HF.out]
   go_enter Tryz.func47, Tryz.ntmps47
   go_wp2_with fail
   go_end0
   exact ⟨rfl, H, ⟨Only.refl _ _⟩⟩
set_option maxRecDepth 100000 in
theorem fail2_any (w : World) (b : Nat) (s : List UInt8) (l : List Vr) (c d : Int) (h : QM w b s l c) :
   Calls Tryz.prog 69 #[.pointer (some ⟨b, 0, none⟩), .int .i64 d] w (Qt0 w b s l (firstE c d)) := by
 have H := Kept.mk h
 clear h
 by_cases hd : d = 0
 · subst hd
   have HF : Kept (firstE c 0 = c) := ⟨by unfold firstE; split <;> simp_all⟩
   rw [HF.out]
   go_enter Tryz.func69, Tryz.ntmps69
   go_wp2_with fail
   go_end0
   exact ⟨rfl, H, ⟨Only.refl _ _⟩⟩
 · go_enter Tryz.func69, Tryz.ntmps69
   go_wp2_with fail
   go_at_call 47
   refine (fail_any _ b s l c d H.out).mono ?_
   rintro e w1 ⟨rfl, h1, h2⟩
   have H1 := h1
   have H2 := h2
   clear h1 h2
   go_wp2_with fail
   go_end0
   exact ⟨rfl, H1, H2⟩
theorem head_run (x : UInt8) (r : List UInt8) (W : World) : (Instr.index 9 (.string (bs (x :: r))) (.int .i64 0)).run Tryz.prog W = .ok (.int .u8 (x.toNat : Int)) W := by
 rw [Go.run_index_string W 9 (bs (x :: r)) .i64 0 Tryz.underlying9, dif_pos ⟨by omega, by rw [bs_size, List.length_cons]; omega⟩]
 rfl
theorem tail_run (x : UInt8) (r : List UInt8) (W : World) : (Instr.slice 9 (.string (bs (x :: r))) (some (.int .i64 1)) none none).run Tryz.prog W = .ok (.string (bs r)) W := by
 rw [Go.run_slice_string_l W 9 (bs (x :: r)) Tryz.underlying9 .i64 1 (by omega) (by rw [bs_size]; simp; omega)]
 congr 2
 apply toL_inj
 rw [toL_extract, toL_bs, toL_bs, bs_size]
 simp
theorem trim_blank {x : UInt8} (h : isBlank x = true) (r : List UInt8) : trim (x :: r) = trim r := by unfold trim; rw [List.dropWhile_cons, if_pos h]
theorem trim_stays {x : UInt8} (h : isBlank x = false) (r : List UInt8) : trim (x :: r) = x :: r := by unfold trim; rw [List.dropWhile_cons, if_neg (by rw [h]; decide)]
theorem blankZ (c : UInt8) : (isBlank c = true ∧ ((c.toNat : Int) = 32 ∨ (c.toNat : Int) = 9 ∨ (c.toNat : Int) = 10)) ∨ (isBlank c = false ∧ ¬ (c.toNat : Int) = 32 ∧ ¬ (c.toNat : Int) = 9 ∧ ¬ (c.toNat : Int) = 10) := by
 have hn : ∀ d : UInt8, ¬ c = d → ¬ (c.toNat : Int) = (d.toNat : Int) := fun d h e => h (UInt8.toNat_inj.1 (by omega))
 unfold isBlank
 by_cases h1 : c = 32
 · subst h1; exact .inl ⟨rfl, .inl rfl⟩
 · by_cases h2 : c = 9
   · subst h2; exact .inl ⟨rfl, .inr (.inl rfl)⟩
   · by_cases h3 : c = 10
     · subst h3; exact .inl ⟨rfl, .inr (.inr rfl)⟩
     · exact .inr ⟨by simp [h1, h2, h3], hn 32 h1, hn 9 h2, hn 10 h3⟩
set_option maxHeartbeats 2000000 in
set_option maxRecDepth 100000 in
theorem space_any (w : World) (b : Nat) (s : List UInt8) (l : List Vr) (c : Int) (h : QM w b s l c) :
   Calls Tryz.prog 45 #[.pointer (some ⟨b, 0, none⟩)] w (Qt0 w b (trim s) l c) := by
 have H := Kept.mk h
 clear h
 go_enter Tryz.func45, Tryz.ntmps45
 go_wp2_with fail
 go_loopg [] s.length (fun m wr => ∃ t : List UInt8, Kept (t.length ≤ m) ∧ Kept (QM wr b t l c) ∧ Kept (trim t = trim s) ∧ Kept (Only (· = b) w wr))
 case atStart => exact ⟨s, ⟨Nat.le_refl _⟩, H, ⟨rfl⟩, ⟨Only.refl _ _⟩⟩
 case round =>
   clear H
   obtain ⟨t, HL, HQ, HT, HO⟩ := hrel
   cases t with
   | nil =>
     have c0 := HQ.out.c0
     have HR : Kept (QM wr b (trim s) l c) := ⟨by have := HQ.out; rwa [← HT.out]⟩
     clear HQ
     go_wp2_with fail
     go_end0
     exact ⟨rfl, HR, HO⟩
   | cons x r =>
     have c0 := HQ.out.c0
     have f0 := HQ.out.fz 0
     have HE := Kept.mk (HQ.out.text r)
     have hix := head_run x r
     have hsl := tail_run x r
     have hsz : 0 < (bs (x :: r)).size := by rw [bs_size, List.length_cons]; omega
     obtain ⟨S, hS⟩ : ∃ S, S = bs (x :: r) := ⟨_, rfl⟩
     rw [← hS] at c0 hix hsl hsz
     have hz := blankZ x
     generalize (x.toNat : Int) = z at hix hz
     clear hS
     rcases hz with ⟨hb, hz⟩ | ⟨hb, n1, n2, n3⟩
     · have HT2 : Kept (trim r = trim s) := ⟨by rw [← HT.out, trim_blank hb]⟩
       have HO2 : Kept (Only (· = b) w (wr.setCell ⟨b, 0, none⟩ (.string (bs r)))) := ⟨HO.out.trans HE.out.2 (fun i _ h => h)⟩
       clear hb
       rcases hz with rfl | rfl | rfl
       all_goals
         go_wp2_with fail
         go_roundg r.length
         case measure => have := HL.out; simp at this; omega
         case rel => exact ⟨r, ⟨Nat.le_refl _⟩, ⟨HE.out.1⟩, HT2, HO2⟩
     · have HR : Kept (QM wr b (trim s) l c) := ⟨by have := HQ.out; rwa [← HT.out, trim_stays hb]⟩
       have n4 : (z == 10) = false := beq_eq_false_iff_ne.2 n3
       clear hb
       go_wp2_with fail
       go_end0
       exact ⟨rfl, HR, HO⟩
end Ar
end Go.Proofs.YtlggpefmojacoaaGreatDoor
end
section
namespace Go.Proofs.YtlggpefmojacoaaGreatDoor
open Go.RowKit Tx
namespace Ar
open Va (Vr VS getD Sorted)

theorem find_at {α : Type} {l : List α} {p : α → Bool} {j : Nat} (hj : j < l.length) (h1 : ∀ o ∈ l.take j, p o = false) (h2 : p l[j] = true) : l.find? p = some l[j] := by
 have e : l = l.take j ++ l[j] :: l.drop (j + 1) := by rw [← List.drop_eq_getElem_cons hj, List.take_append_drop]
 have h3 : (l.take j).find? p = none := by rw [List.find?_eq_none]; intro o ho; rw [h1 o ho]; decide
 conv => lhs; rw [e]
 rw [List.find?_append, h3, Option.none_or, List.find?_cons, h2]
theorem take_false {α : Type} {l : List α} {p : α → Bool} {j : Nat} (hj : j < l.length) (h1 : ∀ o ∈ l.take j, p o = false) (h2 : p l[j] = false) : ∀ o ∈ l.take (j + 1), p o = false := by
 intro o ho
 rw [List.take_succ_eq_append_getElem hj] at ho
 rcases List.mem_append.1 ho with ho | ho
 · exact h1 o ho
 · rw [List.mem_singleton] at ho; subst ho; exact h2
theorem take_run (t : List UInt8) (n : Nat) (h : n ≤ t.length) (W : World) : (Instr.slice 9 (.string (bs t)) none (some (.int .i64 (n : Int))) none).run Tryz.prog W = .ok (.string (bs (t.take n))) W := by
 rw [Go.run_slice_string_h W 9 (bs t) Tryz.underlying9 .i64 (n : Int) (by omega) (by rw [bs_size]; omega)]
 congr 2
 apply toL_inj
 rw [toL_extract, toL_bs, toL_bs]
 simp
theorem drop_run (t : List UInt8) (n : Nat) (h : n ≤ t.length) (W : World) : (Instr.slice 9 (.string (bs t)) (some (.int .i64 (n : Int))) none none).run Tryz.prog W = .ok (.string (bs (t.drop n))) W := by
 rw [Go.run_slice_string_l W 9 (bs t) Tryz.underlying9 .i64 (n : Int) (by omega) (by rw [bs_size]; omega)]
 congr 2
 apply toL_inj
 rw [toL_extract, toL_bs, toL_bs, bs_size]
 simp only [Int.toNat_natCast]
 exact List.take_of_length_le (by rw [List.length_drop]; omega)
theorem bs_beq (x y : List UInt8) : ((bs x).toList == (bs y).toList) = decide (x = y) := by
 rw [beq_str]
 by_cases h : x = y
 · subst h; simp
 · rw [decide_eq_false h, decide_eq_false (fun e => h (bs_inj e))]
theorem pre_take (o t : List UInt8) : o.isPrefixOf t = (decide (o.length ≤ t.length) && decide (t.take o.length = o)) := by
 by_cases h : o.isPrefixOf t = true
 · have h1 := List.isPrefixOf_iff_prefix.1 h
   rw [h, decide_eq_true h1.length_le, decide_eq_true (List.prefix_iff_eq_take.1 h1).symm]
   rfl
 · have h2 : o.isPrefixOf t = false := Bool.eq_false_iff.2 h
   rw [h2]
   symm
   rw [Bool.and_eq_false_iff]
   by_cases hl : o.length ≤ t.length
   · refine .inr (decide_eq_false fun e => h ?_)
     exact List.isPrefixOf_iff_prefix.2 (by rw [← e]; exact List.take_prefix _ _)
   · exact .inl (decide_eq_false hl)
theorem dops_len : ∀ o ∈ dops, 1 ≤ o.length ∧ o.length ≤ 2 := by decide
set_option maxHeartbeats 4000000 in
set_option maxRecDepth 100000 in
theorem op_any (w : World) (b : Nat) (s : List UInt8) (l : List Vr) (c : Int) (h : QM w b s l c) (hs : s.length ≤ 100000) :
   Calls Tryz.prog 86 #[.pointer (some ⟨b, 0, none⟩)] w fun e w' => e = .returned (.string (bs (opS (trim s)))) ∧ Kept (QM w' b (trim s) l c) ∧ Kept (Only (· = b) w w') := by
 have H := Kept.mk h
 have HSp : Kept (∀ w, QM w b s l c → _) := ⟨fun w h => space_any w b s l c h⟩
 obtain ⟨T, hT⟩ : ∃ T, T = trim s := ⟨_, rfl⟩
 have HTl : Kept (T.length ≤ 100000) := ⟨by have := trim_le s; rw [hT]; omega⟩
 rw [← hT] at HSp ⊢
 clear h hs hT
 go_enter Tryz.func86, Tryz.ntmps86
 go_wp2_with fail
 go_at_call 45
 refine (HSp.out _ H.out).mono ?_
 rintro e w1 ⟨rfl, h1, h2⟩
 have hb : Below w1.heap.size w1 (w1.alloc (.cells ((dops.map bs).map Value.string).toArray 9)) := (Below.refl _ _).alloc (Nat.le_refl _) _
 have HQ := Kept.mk (h1.out.below hb)
 have HO := Kept.mk (h2.out.below hb)
 have HA := Kept.mk (Own.At.fresh (c := Value.string) w1 _ 9 (dops.map bs) rfl)
 clear h1 h2 hb H HSp
 go_wp2_with fail
 try simp only [dops, List.map_cons, List.map_nil, bs] at HQ HO HA
 generalize World.alloc _ _ = W at *
 generalize w1.heap.size = g at *
 go_loopw [4] (fun i wr => ∃ j : Nat, j ≤ 30 ∧ i = .int .i64 (j : Int) ∧ Kept (QM wr b T l c) ∧ Kept (Own.At Value.string wr g 0 (dops.map bs)) ∧ Kept (∀ o ∈ dops.take j, o.isPrefixOf T = false) ∧ Kept (Only (· = b) w wr)) (fun i _ => 30 - (intOf i).toNat)
 case atStart => exact ⟨0, by omega, rfl, HQ, HA, ⟨fun o ho => by cases ho⟩, HO⟩
 case round =>
   clear HQ HO HA
   obtain ⟨j, hj, rfl, HQ, HA, HN, HO⟩ := hrel
   by_cases hlt : j < 30
   · have hl2 : (j : Int) < 30 := by omega
     have hj0 : (0 : Int) ≤ (j : Int) := by omega
     have hjd : j < dops.length := hlt
     have hc := HA.out.cell j (by rw [List.length_map]; exact hjd)
     rw [List.getElem_map, Nat.zero_add] at hc
     have HLo := Kept.mk (dops_len _ (List.getElem_mem hjd))
     have HP := Kept.mk (pre_take dops[j] T)
     have HF := Kept.mk (fun h => find_at (p := fun o => o.isPrefixOf T) hjd HN.out h)
     have HG := Kept.mk (fun h => take_false (p := fun o => o.isPrefixOf T) hjd HN.out h)
     generalize dops[j] = o at hc HLo HP HF HG
     have c0 := HQ.out.c0
     have hso : (bs o).size = o.length := bs_size o
     have hsT : (bs T).size = T.length := bs_size T
     have hx := fun h => take_run T o.length h
     have hy := bs_beq (T.take o.length) o
     obtain ⟨X, hX⟩ : ∃ X, X = bs (T.take o.length) := ⟨_, rfl⟩
     obtain ⟨O, hO⟩ : ∃ O, O = bs o := ⟨_, rfl⟩
     obtain ⟨S, hS⟩ : ∃ S, S = bs T := ⟨_, rfl⟩
     rw [← hX, ← hS] at hx
     rw [← hX, ← hO] at hy
     rw [← hO] at hc hso
     rw [← hS] at c0 hsT
     have HOe := Kept.mk hO
     have HQd : Kept (∀ n, QM (wr.drewN n) b T l c) := ⟨HQ.out.drewN⟩
     have HAd : Kept (∀ n, Own.At Value.string (wr.drewN n) g 0 (dops.map bs)) := ⟨HA.out.drewN⟩
     have HOd : Kept (∀ n, Only (· = b) w (wr.drewN n)) := ⟨HO.out.drewN⟩
     clear hX hO hS HQ HA HO
     by_cases hle : o.length ≤ T.length
     · have z1 : (O.size : Int) ≤ (S.size : Int) := by omega
       have hsl := hx hle
       rw [← hso] at hsl
       by_cases heq : T.take o.length = o
       · have hE : (X.toList == O.toList) = true := by rw [hy, decide_eq_true heq]
         have HR : Kept (opS T = o) := ⟨by unfold opS; rw [HF.out (by rw [HP.out, decide_eq_true hle, decide_eq_true heq]; rfl)]; rfl⟩
         clear hx hy heq hle hso hsT HF HG
         go_wp2_with fail
         go_quiet (fail)
         go_wp2_with fail
         go_ret
         exact ⟨by rw [HR.out, ← HOe.out]; rfl, ⟨HQd.out _⟩, ⟨HOd.out _⟩⟩
       · have hE : (X.toList == O.toList) = false := by rw [hy, decide_eq_false heq]
         have HN2 := Kept.mk (HG.out (by rw [HP.out, decide_eq_true hle, decide_eq_false heq]; rfl))
         clear hx hy heq hle hso hsT HF HG
         go_wp2_with fail
         go_quiet (fail)
         go_wp2_with fail
         go_roundw
         case rel => exact ⟨j + 1, by omega, by go_num, ⟨HQd.out _⟩, ⟨HAd.out _⟩, HN2, ⟨HOd.out _⟩⟩
         case measure => simp [intOf]; omega
     · have z1 : ¬ (O.size : Int) ≤ (S.size : Int) := by omega
       have z2 : ¬ O.size ≤ S.size := by omega
       have z3 : S.size < O.size := by omega
       have z4 : decide (O.size ≤ S.size) = false := decide_eq_false z2
       have z5 : decide ((O.size : Int) ≤ (S.size : Int)) = false := decide_eq_false z1
       have HN2 := Kept.mk (HG.out (by rw [HP.out, decide_eq_false hle]; rfl))
       clear hx hy hle hso hsT HF HG
       go_wp2_with fail
       go_quiet (fail)
       go_wp2_with fail
       go_roundw
       case rel => exact ⟨j + 1, by omega, by go_num, ⟨HQd.out _⟩, ⟨HAd.out _⟩, HN2, ⟨HOd.out _⟩⟩
       case measure => simp [intOf]; omega
   · obtain rfl : j = 30 := by omega
     have HR : Kept (opS T = []) := ⟨by
       unfold opS
       rw [List.find?_eq_none.2 (fun o ho => by rw [HN.out o (by rw [show dops.take 30 = dops from rfl]; exact ho)]; decide)]
       rfl⟩
     clear hlt
     go_wp2_with fail
     go_ret
     exact ⟨by rw [HR.out]; rfl, HQ, HO⟩
set_option maxHeartbeats 2000000 in
set_option maxRecDepth 100000 in
theorem dtake_any (w : World) (b : Nat) (s : List UInt8) (l : List Vr) (c : Int) (o : Tok) (h : QM w b s l c) (hs : s.length ≤ 100000) (ho : o ≠ []) (t : Bool) (ht : Kept (t = decide (opS (trim s) = o))) :
   Calls Tryz.prog 88 #[.pointer (some ⟨b, 0, none⟩), .string (bs o)] w fun e w' => e = .returned (.bool t) ∧ Kept (QM w' b (if t then (trim s).drop o.length else trim s) l c) ∧ Kept (Only (· = b) w w') := by
 have H := Kept.mk h
 have hq := bs_beq (opS (trim s)) o
 have HLe : Kept (opS (trim s) = o → o.length ≤ (trim s).length) := ⟨fun e => (op_mem e ho).2.length_le⟩
 have HOp : Kept (∀ w, QM w b s l c → _) := ⟨fun w h => op_any w b s l c h hs⟩
 obtain ⟨T, hT⟩ : ∃ T, T = trim s := ⟨_, rfl⟩
 rw [← hT] at HOp hq HLe ht ⊢
 obtain ⟨X, hX⟩ : ∃ X, X = bs (opS T) := ⟨_, rfl⟩
 obtain ⟨O, hO⟩ : ∃ O, O = bs o := ⟨_, rfl⟩
 rw [← hX, ← hO] at hq
 rw [← hX] at HOp
 rw [← hO]
 have hso : O.size = o.length := by rw [hO]; exact bs_size o
 clear h hs hX hO hT
 go_enter Tryz.func88, Tryz.ntmps88
 go_wp2_with fail
 go_at_call 86
 refine (HOp.out _ H.out).mono ?_
 rintro e w1 ⟨rfl, h1, h2⟩
 have HQ := h1
 have HO := h2
 have c0 := h1.out.c0
 have f0 := h1.out.fz 0
 clear h1 h2 H HOp
 cases t with
 | true =>
   have he : opS T = o := of_decide_eq_true ht.out.symm
   have hE : (X.toList == O.toList) = true := by rw [hq, decide_eq_true he]
   have hsl := drop_run T o.length (HLe.out he)
   have HSo := Kept.mk hso
   have HE := Kept.mk (HQ.out.text (T.drop O.size))
   rw [← hso] at hsl
   have hz0 : (0 : Int) ≤ (O.size : Int) := by omega
   clear hq he hso
   go_wp2_with fail
   go_ret
   exact ⟨rfl, ⟨by rw [← HSo.out]; exact HE.out.1⟩, ⟨HO.out.trans HE.out.2 (fun i _ h => h)⟩⟩
 | false =>
   have he : ¬ opS T = o := of_decide_eq_false ht.out.symm
   have hE : (X.toList == O.toList) = false := by rw [hq, decide_eq_false he]
   clear hq he hso
   go_wp2_with fail
   go_ret
   exact ⟨rfl, HQ, HO⟩
end Ar
end Go.Proofs.YtlggpefmojacoaaGreatDoor
end
section
namespace Go.Proofs.YtlggpefmojacoaaGreatDoor
open Go.RowKit Tx
namespace Ar
open Va (Vr VS getD Sorted)

theorem dig_cases (c : UInt8) : (48 ≤ c.toNat ∧ c.toNat ≤ 57 ∧ digV c = c.toNat - 48) ∨ (97 ≤ c.toNat ∧ c.toNat ≤ 102 ∧ digV c = c.toNat - 87) ∨ (65 ≤ c.toNat ∧ c.toNat ≤ 70 ∧ digV c = c.toNat - 55) ∨ (¬ (48 ≤ c.toNat ∧ c.toNat ≤ 57) ∧ ¬ (97 ≤ c.toNat ∧ c.toNat ≤ 102) ∧ ¬ (65 ≤ c.toNat ∧ c.toNat ≤ 70) ∧ digV c = 99) := by
 have e : ∀ a b : UInt8, (a ≤ b) = (a.toNat ≤ b.toNat) := fun a b => rfl
 unfold digV
 simp only [e, show (48 : UInt8).toNat = 48 from rfl, show (57 : UInt8).toNat = 57 from rfl, show (97 : UInt8).toNat = 97 from rfl, show (102 : UInt8).toNat = 102 from rfl, show (65 : UInt8).toNat = 65 from rfl, show (70 : UInt8).toNat = 70 from rfl]
 by_cases h1 : 48 ≤ c.toNat ∧ c.toNat ≤ 57
 · rw [if_pos h1]; exact .inl ⟨h1.1, h1.2, rfl⟩
 · rw [if_neg h1]
   by_cases h2 : 97 ≤ c.toNat ∧ c.toNat ≤ 102
   · rw [if_pos h2]; exact .inr (.inl ⟨h2.1, h2.2, rfl⟩)
   · rw [if_neg h2]
     by_cases h3 : 65 ≤ c.toNat ∧ c.toNat ≤ 70
     · rw [if_pos h3]; exact .inr (.inr (.inl ⟨h3.1, h3.2, rfl⟩))
     · rw [if_neg h3]; exact .inr (.inr (.inr ⟨h1, h2, h3, rfl⟩))
theorem dig_le (c : UInt8) : digV c ≤ 99 := by rcases dig_cases c with h | h | h | h <;> omega
set_option maxHeartbeats 1000000 in
set_option maxRecDepth 100000 in
theorem digit_any (c : UInt8) (w : World) : Calls Tryz.prog 126 #[.int .u8 (c.toNat : Int)] w fun e w' => e = .returned (.int .i64 (digV c : Int)) ∧ w = w' := by
 have h := dig_cases c
 obtain ⟨d, hd⟩ : ∃ d, d = digV c := ⟨_, rfl⟩
 rw [← hd] at h ⊢
 have hk := c.toNat_lt
 generalize c.toNat = k at h hk
 have q1 : IntKind.i64.wrap (k : Int) = (k : Int) := IntWalk.i64_in _ (by omega)
 clear hd
 rcases h with ⟨h1, h2, h3⟩ | ⟨h1, h2, h3⟩ | ⟨h1, h2, h3⟩ | ⟨h1, h2, h3, h4⟩
 · have z1 : (48 : Int) ≤ (k : Int) := by omega
   have z2 : (k : Int) ≤ 57 := by omega
   have HD : Kept ((d : Int) = (k : Int) - 48) := ⟨by omega⟩
   rw [HD.out]
   clear h1 h2 h3 hk
   go_enter Tryz.func126, Tryz.ntmps126
   go_wp2_with fail
   go_ret
   exact ⟨rfl, rfl⟩
 · have z0 : ¬ (k : Int) ≤ 57 := by omega
   have z00 : (48 : Int) ≤ (k : Int) := by omega
   have z1 : (97 : Int) ≤ (k : Int) := by omega
   have z2 : (k : Int) ≤ 102 := by omega
   have HD : Kept ((d : Int) = (k : Int) - 87) := ⟨by omega⟩
   rw [HD.out]
   clear h1 h2 h3 hk
   go_enter Tryz.func126, Tryz.ntmps126
   go_wp2_with fail
   go_ret
   exact ⟨rfl, rfl⟩
 · have z0 : ¬ (k : Int) ≤ 57 := by omega
   have z00 : (48 : Int) ≤ (k : Int) := by omega
   have z01 : ¬ (97 : Int) ≤ (k : Int) := by omega
   have z1 : (65 : Int) ≤ (k : Int) := by omega
   have z2 : (k : Int) ≤ 70 := by omega
   have HD : Kept ((d : Int) = (k : Int) - 55) := ⟨by omega⟩
   rw [HD.out]
   clear h1 h2 h3 hk
   go_enter Tryz.func126, Tryz.ntmps126
   go_wp2_with fail
   go_ret
   exact ⟨rfl, rfl⟩
 · have g1 : (decide ((48 : Int) ≤ (k : Int)) && decide ((k : Int) ≤ 57)) = false := by simp; omega
   have HD : Kept ((d : Int) = 99) := ⟨by omega⟩
   rw [HD.out]
   by_cases a1 : (48 : Int) ≤ (k : Int)
   all_goals
     by_cases a2 : (k : Int) ≤ 57
     all_goals
       by_cases a3 : (97 : Int) ≤ (k : Int)
       all_goals
         by_cases a4 : (k : Int) ≤ 102
         all_goals
           by_cases a5 : (65 : Int) ≤ (k : Int)
           all_goals
             by_cases a6 : (k : Int) ≤ 70
             all_goals
               first
                 | (exfalso; omega)
                 | (clear h1 h2 h3 h4 hk g1
                    go_enter Tryz.func126, Tryz.ntmps126
                    go_wp2_with fail
                    go_ret
                    exact ⟨rfl, rfl⟩)
end Ar
end Go.Proofs.YtlggpefmojacoaaGreatDoor
end
section
namespace Go.Proofs.YtlggpefmojacoaaGreatDoor
open Go.RowKit Tx
namespace Ar

def lops : List Tok := [[124, 124], [38, 38], [124], [94], [38], [61, 61], [33, 61], [60], [60, 61], [62], [62, 61], [60, 60], [62, 62], [43], [45], [42], [47], [37]]
theorem level_zero {t : Tok} (h : t ∉ lops) : levelOf t = 0 := by
 simp only [lops, List.mem_cons, List.not_mem_nil, or_false, not_or] at h
 unfold levelOf
 simp [h]
set_option maxHeartbeats 4000000 in
set_option maxRecDepth 100000 in
theorem level_any (t : Tok) (w : World) : Calls Tryz.prog 109 #[.string (bs t)] w fun e w' => e = .returned (.int .i64 (levelOf t : Int)) ∧ w = w' := by
 by_cases h : t ∈ lops
 · simp only [lops, List.mem_cons, List.not_mem_nil, or_false] at h
   rcases h with rfl | rfl | rfl | rfl | rfl | rfl | rfl | rfl | rfl | rfl | rfl | rfl | rfl | rfl | rfl | rfl | rfl | rfl
   all_goals
     simp only [levelOf, bs]
     go_enter Tryz.func109, Tryz.ntmps109
     go_wp2_with fail
     go_ret
     exact ⟨rfl, rfl⟩
 · have h0 := level_zero h
   rw [h0]
   have hE : ∀ o ∈ lops, ((bs t).toList == o) = false := fun o ho => by
     rw [ByteArray.toList_eq]
     show (toL (bs t) == o) = false
     rw [toL_bs, beq_eq_false_iff_ne]
     rintro rfl
     exact h ho
   simp only [lops, List.forall_mem_cons] at hE
   obtain ⟨e1, e2, e3, e4, e5, e6, e7, e8, e9, e10, e11, e12, e13, e14, e15, e16, e17, e18⟩ := hE
   generalize bs t = T at *
   clear h h0
   go_enter Tryz.func109, Tryz.ntmps109
   go_wp2_with fail
   go_ret
   exact ⟨rfl, rfl⟩
end Ar
end Go.Proofs.YtlggpefmojacoaaGreatDoor
end
section
namespace Go.Proofs.YtlggpefmojacoaaGreatDoor
open Go.RowKit Tx
namespace Ar
open Va (Vr VS getD Sorted)

theorem num_step (b : Nat) (c : UInt8) (r : List UInt8) (n : Nat) : numF b (c :: r) n = if digV c < b ∧ n * b + digV c ≤ 9223372036854775807 then numF b r (n * b + digV c) else none := rfl
theorem fits_iff {b d n : Nat} (hb : 0 < b) (hd : d < b) (hb2 : b ≤ 16) : ¬ ((9223372036854775807 : Int) - (d : Int)).tdiv (b : Int) < (n : Int) ↔ n * b + d ≤ 9223372036854775807 := by
 have e : ((9223372036854775807 : Int) - (d : Int)).tdiv (b : Int) = (((9223372036854775807 - d) / b : Nat) : Int) := by
   have h1 : (9223372036854775807 : Int) - (d : Int) = ((9223372036854775807 - d : Nat) : Int) := by omega
   rw [h1]
   exact (Int.ofNat_tdiv _ _).symm
 rw [e]
 have h2 : n ≤ (9223372036854775807 - d) / b ↔ n * b ≤ 9223372036854775807 - d := Nat.le_div_iff_mul_le hb
 constructor
 · intro h
   have h3 : n ≤ (9223372036854775807 - d) / b := by omega
   have := h2.1 h3
   omega
 · intro h
   have := h2.2 (by omega)
   omega
theorem nth_run (s : ByteArray) (j : Nat) (hj : j < s.size) (W : World) : (Instr.index 9 (.string s) (.int .i64 (j : Int))).run Tryz.prog W = .ok (.int .u8 ((s[j]'hj).toNat : Int)) W := by
 rw [Go.run_index_string W 9 s .i64 _ Tryz.underlying9, dif_pos ⟨by omega, by omega⟩]
 simp only [Int.toNat_natCast]
inductive NS : List UInt8 → Nat → List UInt8 → Prop
 | none : NS [] 10 []
 | one (x : UInt8) : NS [x] 10 [x]
 | ten (x y : UInt8) (r : List UInt8) (h : x ≠ 48) : NS (x :: y :: r) 10 (x :: y :: r)
 | hex (y z : UInt8) (r : List UInt8) (h : y = 120 ∨ y = 88) : NS (48 :: y :: z :: r) 16 (z :: r)
 | oct2 (y : UInt8) : NS [48, y] 8 [48, y]
 | oct (y z : UInt8) (r : List UInt8) (h : ¬ (y = 120 ∨ y = 88)) : NS (48 :: y :: z :: r) 8 (48 :: y :: z :: r)
theorem ns_of : ∀ s : List UInt8, ∃ b t, NS s b t
 | [] => ⟨_, _, .none⟩
 | [x] => ⟨_, _, .one x⟩
 | [x, y] => by
   by_cases h : x = 48
   · subst h; exact ⟨_, _, .oct2 y⟩
   · exact ⟨_, _, .ten x y [] h⟩
 | x :: y :: z :: r => by
   by_cases h : x = 48
   · subst h
     by_cases h2 : y = 120 ∨ y = 88
     · exact ⟨_, _, .hex y z r h2⟩
     · exact ⟨_, _, .oct y z r h2⟩
   · exact ⟨_, _, .ten x y (z :: r) h⟩
theorem ns_base {s t : List UInt8} {b : Nat} (h : NS s b t) : (b = 10 ∨ b = 8 ∨ b = 16) ∧ t.length ≤ s.length := by cases h <;> simp
theorem oct_zero (r : List UInt8) : numF 8 (48 :: r) 0 = numF 8 r 0 := by rw [num_step]; rfl
theorem ns_lit {s t : List UInt8} {b : Nat} (h : NS s b t) : litV s = num b t := by
 cases h with
 | none => rfl
 | one x => unfold litV; split <;> simp_all
 | ten x y r h =>
   unfold litV
   split
   · rename_i he; cases he; exact absurd rfl h
   · rfl
 | hex y z r h =>
   show (if y = 120 ∨ y = 88 then num 16 (z :: r) else num 8 (y :: z :: r)) = _
   rw [if_pos h]
 | oct2 y =>
   show (if y = 120 ∨ y = 88 then num 16 [] else num 8 [y]) = num 8 [48, y]
   have e1 : num 8 [y] = numF 8 [y] 0 := by unfold num; rw [if_neg (by simp)]
   have e2 : num 8 [48, y] = numF 8 [y] 0 := by unfold num; rw [if_neg (by simp), oct_zero]
   rw [e1, e2]
   by_cases h : y = 120 ∨ y = 88
   · rw [if_pos h]
     rcases h with rfl | rfl <;> rfl
   · rw [if_neg h]
 | oct y z r h =>
   show (if y = 120 ∨ y = 88 then num 16 (z :: r) else num 8 (y :: z :: r)) = _
   rw [if_neg h]
   unfold num
   rw [if_neg (by simp), if_neg (by simp), oct_zero]
theorem ne_num {c d : UInt8} (h : c ≠ d) : ¬ (c.toNat : Int) = (d.toNat : Int) := fun e => h (UInt8.toNat_inj.1 (by omega))
def DNum (o : Option Nat) (w : World) (e : Ending) (w' : World) : Prop := e = .returned (.tuple #[.int .i64 ((o.getD 0 : Nat) : Int), .bool o.isSome]) ∧ w = w'
theorem drop2_run (x y : UInt8) (r : List UInt8) (W : World) : (Instr.slice 9 (.string (bs (x :: y :: r))) (some (.int .i64 2)) none none).run Tryz.prog W = .ok (.string (bs r)) W := drop_run (x :: y :: r) 2 (by simp) W
theorem snd_run (x y : UInt8) (r : List UInt8) (W : World) : (Instr.index 9 (.string (bs (x :: y :: r))) (.int .i64 1)).run Tryz.prog W = .ok (.int .u8 (y.toNat : Int)) W := nth_run (bs (x :: y :: r)) 1 (by rw [bs_size]; simp) W
theorem fst_run (x : UInt8) (r : List UInt8) (W : World) : (Instr.index 9 (.string (bs (x :: r))) (.int .i64 0)).run Tryz.prog W = .ok (.int .u8 (x.toNat : Int)) W := nth_run (bs (x :: r)) 0 (by rw [bs_size]; simp) W
theorem num_all {b : Nat} {t : List UInt8} (h : t ≠ []) : num b t = numF b t 0 := by unfold num; rw [if_neg h]
theorem wrap_sum {M d : Nat} (h : M + d ≤ 9223372036854775807) : wrap64 ((M : Int) + (d : Int)) = ((M + d : Nat) : Int) := by
 unfold wrap64
 omega
theorem num_nil (b : Nat) : num b [] = none := rfl
set_option maxHeartbeats 4000000 in
set_option maxRecDepth 100000 in
theorem number_any (s : List UInt8) (w : World) (hs : s.length ≤ 281474976710656) : Calls Tryz.prog 110 #[.string (bs s)] w (DNum (litV s) w) := by
 obtain ⟨B, t, hn⟩ := ns_of s
 have HL := Kept.mk (ns_lit hn)
 have HB := Kept.mk (ns_base hn)
 have HS := Kept.mk hs
 have HN := Kept.mk hn
 rw [HL.out]
 clear hn hs
 go_enter Tryz.func110, Tryz.ntmps110
 go_upto_block 0 with fail
 go_cut [0, 4] (fun v x wx => v = .string (bs t) ∧ x = .int .i64 (B : Int) ∧ wx = w)
 case first =>
   have hn := HN.out
   clear HL HB HS HN
   cases hn with
   | none =>
     have hz : (bs []).size = 0 := rfl
     go_wp2_with fail
     go_meet
     exact ⟨rfl, rfl, rfl⟩
   | one x =>
     have hz : (bs [x]).size = 1 := rfl
     go_wp2_with fail
     go_meet
     exact ⟨rfl, rfl, rfl⟩
   | ten x y r h =>
     have hx := fst_run x (y :: r)
     have hz : (bs (x :: y :: r)).size = r.length + 2 := by rw [bs_size]; rfl
     have hx0 : ¬ (x.toNat : Int) = 48 := ne_num h
     have hx1 : ((x.toNat : Int) == 48) = false := beq_eq_false_iff_ne.2 hx0
     obtain ⟨S, hS⟩ : ∃ S, S = bs (x :: y :: r) := ⟨_, rfl⟩
     rw [← hS] at hx hz ⊢
     have HSS := Kept.mk hS
     clear hS h
     generalize (x.toNat : Int) = z at hx hx0 hx1
     have h1 : (1 : Int) < (S.size : Int) := by omega
     by_cases h2 : (2 : Int) < (S.size : Int)
     all_goals
       clear hz
       go_wp2_with fail
       go_meet
       exact ⟨by rw [HSS.out], rfl, rfl⟩
   | hex y z r h =>
     have hx := fst_run 48 (y :: z :: r)
     have hy := snd_run 48 y (z :: r)
     have hd := drop2_run 48 y (z :: r)
     have hz : (bs (48 :: y :: z :: r)).size = r.length + 3 := by rw [bs_size]; rfl
     have hb : (y.toNat : Int) = 120 ∨ (y.toNat : Int) = 88 := by rcases h with rfl | rfl; exact .inl rfl; exact .inr rfl
     obtain ⟨S, hS⟩ : ∃ S, S = bs (48 :: y :: z :: r) := ⟨_, rfl⟩
     rw [← hS] at hx hy hd hz ⊢
     clear hS h
     have e48 : (((48 : UInt8).toNat : Nat) : Int) = 48 := rfl
     rw [e48] at hx
     generalize (y.toNat : Int) = q at hy hb
     have h1 : (1 : Int) < (S.size : Int) := by omega
     have h2 : (2 : Int) < (S.size : Int) := by omega
     clear hz
     rcases hb with rfl | rfl
     all_goals
       go_wp2_with fail
       go_meet
       exact ⟨rfl, rfl, rfl⟩
   | oct2 y =>
     have hx := fst_run 48 [y]
     have hz : (bs [48, y]).size = 2 := rfl
     have e48 : (((48 : UInt8).toNat : Nat) : Int) = 48 := rfl
     rw [e48] at hx
     go_wp2_with fail
     go_meet
     exact ⟨rfl, rfl, rfl⟩
   | oct y z r h =>
     have hx := fst_run 48 (y :: z :: r)
     have hy := snd_run 48 y (z :: r)
     have hz : (bs (48 :: y :: z :: r)).size = r.length + 3 := by rw [bs_size]; rfl
     have n1 : ¬ (y.toNat : Int) = 120 := ne_num (fun e => h (.inl e))
     have n2 : ¬ (y.toNat : Int) = 88 := ne_num (fun e => h (.inr e))
     have n3 := beq_eq_false_iff_ne.2 n1
     have n4 := beq_eq_false_iff_ne.2 n2
     obtain ⟨S, hS⟩ : ∃ S, S = bs (48 :: y :: z :: r) := ⟨_, rfl⟩
     rw [← hS] at hx hy hz ⊢
     have HSS := Kept.mk hS
     clear hS h
     have e48 : (((48 : UInt8).toNat : Nat) : Int) = 48 := rfl
     rw [e48] at hx
     generalize (y.toNat : Int) = q at hy n1 n2 n3 n4
     have h1 : (1 : Int) < (S.size : Int) := by omega
     have h2 : (2 : Int) < (S.size : Int) := by omega
     clear hz
     go_wp2_with fail
     go_meet
     exact ⟨by rw [HSS.out], rfl, rfl⟩
 case rest =>
   obtain ⟨rfl, rfl, rfl⟩ := hcut
   have HT : Kept (t.length ≤ 281474976710656) := ⟨by have := HB.out.2; have := HS.out; omega⟩
   have HBb : Kept (B = 10 ∨ B = 8 ∨ B = 16) := ⟨HB.out.1⟩
   clear HN HL HB HS
   go_wp2_with fail
   go_loopw [5, 6] (fun n i wr => ∃ j k : Nat, j ≤ t.length ∧ i = .int .i64 (j : Int) ∧ n = .int .i64 (k : Int) ∧ wr = wc ∧ Kept (k ≤ 9223372036854775807) ∧ Kept (numF B t 0 = numF B (t.drop j) k)) (fun _ i _ => t.length - (intOf i).toNat)
   case atStart => exact ⟨0, 0, by omega, rfl, rfl, rfl, ⟨by omega⟩, ⟨rfl⟩⟩
   case round =>
     obtain ⟨j, k, hj, rfl, rfl, rfl, HK, HR⟩ := hrel
     have hsz : (bs t).size = t.length := bs_size t
     by_cases hlt : j < t.length
     · have hc := nth_run (bs t) j (by omega)
       have hdr : t.drop j = t[j] :: t.drop (j + 1) := List.drop_eq_getElem_cons hlt
       have hge : (bs t)[j]'(by omega) = t[j] := rfl
       have hne : t ≠ [] := by rintro rfl; simp at hlt
       rw [hge] at hc
       have HD := Kept.mk (fun w => digit_any t[j] w)
       have HR2 := Kept.mk (HR.out.trans (by rw [hdr, num_step]))
       have hd9 := dig_le t[j]
       have HNA := Kept.mk (num_all (b := B) hne)
       have hB := HBb.out
       obtain ⟨d, hd⟩ : ∃ d, d = digV t[j] := ⟨_, rfl⟩
       rw [← hd] at HD HR2 hd9
       generalize t[j] = c at hc HD
       have z0 : (0 : Int) ≤ (j : Int) := by omega
       have z1 : (j : Int) < (t.length : Int) := by omega
       obtain ⟨S, hS⟩ : ∃ S, S = bs t := ⟨_, rfl⟩
       rw [← hS] at hc hsz ⊢
       have z2 : (j : Int) < (S.size : Int) := by omega
       have HSS := Kept.mk hS
       clear hd hdr hge hne hS HR
       by_cases hdb : d < B
       · have b1 : ¬ (B : Int) ≤ (d : Int) := by omega
         have b2 : ¬ (B : Int) = 0 := by omega
         have b3 : ((B : Int) == 0) = false := beq_eq_false_iff_ne.2 b2
         have q1 : IntKind.i64.wrap (9223372036854775807 - (d : Int)) = 9223372036854775807 - (d : Int) := IntWalk.i64_in _ (by omega)
         by_cases hfit : k * B + d ≤ 9223372036854775807
         · have f1 := (fits_iff (n := k) (b := B) (d := d) (by omega) hdb (by omega)).2 hfit
           have hm : k * B ≤ 9223372036854775807 := by omega
           have e1 : ((k * B : Nat) : Int) = (k : Int) * (B : Int) := Int.natCast_mul _ _
           have q2 : IntKind.i64.wrap ((k : Int) * (B : Int)) = ((k * B : Nat) : Int) := by rw [← e1]; exact IntWalk.i64_in _ (by omega)
           have q3 : IntKind.i64.wrap (((k * B : Nat) : Int) + (d : Int)) = ((k * B + d : Nat) : Int) := by rw [IntWalk.i64_in _ (by omega)]; omega
           have HR3 : Kept (numF B t 0 = numF B (t.drop (j + 1)) (k * B + d)) := ⟨by rw [HR2.out, if_pos ⟨hdb, hfit⟩]⟩
           have HK3 := Kept.mk hfit
           have HV : Kept (wrap64 ((k : Int) * (B : Int) + (d : Int)) = ((k * B + d : Nat) : Int)) := ⟨by rw [← e1]; exact wrap_sum hfit⟩
           have hT := HT.out
           have ht0 := Int.tdiv_nonneg (a := 9223372036854775807 - (d : Int)) (b := (B : Int)) (by omega) (by omega)
           have ht1 : ((9223372036854775807 : Int) - (d : Int)).tdiv (B : Int) ≤ 9223372036854775807 := by
             refine Int.le_trans (Int.tdiv_le_self _ (by omega)) (by omega)
           have q4 : IntKind.i64.wrap (((9223372036854775807 : Int) - (d : Int)).tdiv (B : Int)) = ((9223372036854775807 : Int) - (d : Int)).tdiv (B : Int) := IntWalk.i64_in _ (by omega)
           generalize hQ : ((9223372036854775807 : Int) - (d : Int)).tdiv (B : Int) = Q at *
           clear e1 hm hfit hdb ht0 ht1 hB HR2
           go_wp2_with fail
           go_at_call 126
           refine (HD.out _).mono ?_
           rintro e w1 ⟨rfl, rfl⟩
           clear hc
           go_wp2_with fail
           go_roundw
           case rel => exact ⟨j + 1, k * B + d, by omega, by go_num, by rw [HV.out], by first | rfl | trivial, HK3, HR3⟩
           case measure => simp [intOf]; omega
         · have f1 : (9223372036854775807 - (d : Int)).tdiv (B : Int) < (k : Int) := Decidable.not_not.1 fun h => hfit ((fits_iff (n := k) (b := B) (d := d) (by omega) hdb (by omega)).1 h)
           have HNo : Kept (num B t = none) := ⟨by rw [HNA.out, HR2.out, if_neg (fun h => hfit h.2)]⟩
           have ht0 := Int.tdiv_nonneg (a := 9223372036854775807 - (d : Int)) (b := (B : Int)) (by omega) (by omega)
           have ht1 : ((9223372036854775807 : Int) - (d : Int)).tdiv (B : Int) ≤ 9223372036854775807 := by
             refine Int.le_trans (Int.tdiv_le_self _ (by omega)) (by omega)
           have q4 : IntKind.i64.wrap (((9223372036854775807 : Int) - (d : Int)).tdiv (B : Int)) = ((9223372036854775807 : Int) - (d : Int)).tdiv (B : Int) := IntWalk.i64_in _ (by omega)
           generalize hQ : ((9223372036854775807 : Int) - (d : Int)).tdiv (B : Int) = Q at *
           clear hfit hdb ht0 ht1 hB HR2
           go_wp2_with fail
           go_at_call 126
           refine (HD.out _).mono ?_
           rintro e w1 ⟨rfl, rfl⟩
           clear hc
           go_wp2_with fail
           go_ret2
           exact ⟨by rw [HNo.out]; rfl, rfl⟩
       · have b1 : (B : Int) ≤ (d : Int) := by omega
         have HNo : Kept (num B t = none) := ⟨by rw [HNA.out, HR2.out, if_neg (fun h => hdb h.1)]⟩
         go_wp2_with fail
         go_at_call 126
         refine (HD.out _).mono ?_
         rintro e w1 ⟨rfl, rfl⟩
         clear hc
         go_wp2_with fail
         go_ret2
         exact ⟨by rw [HNo.out]; rfl, rfl⟩
     · obtain rfl : j = t.length := by omega
       by_cases ht : t = []
       · subst ht
         obtain rfl : k = 0 := (Option.some.inj (show some 0 = some k from HR.out)).symm
         have hE : ((bs []).toList == ([] : List UInt8)) = true := by rw [ByteArray.toList_eq]; rfl
         have hsz0 : (bs []).size = 0 := rfl
         generalize bs [] = S at *
         clear hlt HR hj
         go_wp2_with fail
         go_ret2
         exact ⟨rfl, rfl⟩
       · have hne : ((bs t).toList == ([] : List UInt8)) = false := by
           rw [ByteArray.toList_eq]
           show (toL (bs t) == []) = false
           rw [toL_bs, beq_eq_false_iff_ne]
           exact ht
         have HNo : Kept (num B t = some k) := ⟨by rw [num_all ht, HR.out, List.drop_length]; rfl⟩
         have z1 : ¬ (t.length : Int) < (t.length : Int) := by omega
         rw [← hsz] at z1 ⊢
         generalize bs t = S at *
         clear ht HR hj hlt
         go_wp2_with fail
         go_ret2
         exact ⟨by rw [HNo.out]; rfl, rfl⟩
end Ar
end Go.Proofs.YtlggpefmojacoaaGreatDoor
end
section
namespace Go.Proofs.YtlggpefmojacoaaGreatDoor
open Go.RowKit Tx
namespace Ar
open Va (Vr VS getD Sorted)

def DVal (o : Option Int) (w : World) (e : Ending) (w' : World) : Prop := e = .returned (.tuple #[.int .i64 (o.getD 0), .bool o.isSome]) ∧ w = w'
theorem valV_neg (r : List UInt8) : valV (45 :: r) = (litV r).map fun n => -(n : Int) := rfl
theorem valV_pos {x : UInt8} (h : x ≠ 45) (r : List UInt8) : valV (x :: r) = (litV (x :: r)).map fun n => (n : Int) := by
 unfold valV
 split
 · rename_i e; cases e
 · rename_i e; cases e; exact absurd rfl h
 · rfl
theorem empty_beq : ((bs []).toList == ([] : List UInt8)) = true := by rw [ByteArray.toList_eq]; rfl
theorem full_beq {s : List UInt8} (h : s ≠ []) : ((bs s).toList == ([] : List UInt8)) = false := by
 rw [ByteArray.toList_eq]
 show (toL (bs s) == []) = false
 rw [toL_bs, beq_eq_false_iff_ne]
 exact h
set_option maxHeartbeats 2000000 in
set_option maxRecDepth 100000 in
theorem dval_any (s : List UInt8) (w : World) (hs : s.length ≤ 281474976710656) : Calls Tryz.prog 89 #[.string (bs s)] w (DVal (valV s) w) := by
 cases s with
 | nil =>
   have hE := empty_beq
   generalize bs [] = S at *
   go_enter Tryz.func89, Tryz.ntmps89
   go_wp2_with fail
   go_ret2
   exact ⟨rfl, rfl⟩
 | cons x r =>
   have hE := full_beq (List.cons_ne_nil x r)
   have hx := fst_run x r
   have ht := tail_run x r
   have HN1 := Kept.mk (fun w => number_any (x :: r) w hs)
   have HN2 := Kept.mk (fun w => number_any r w (by simp at hs; omega))
   obtain ⟨S, hS⟩ : ∃ S, S = bs (x :: r) := ⟨_, rfl⟩
   rw [← hS] at hx ht hE HN1 ⊢
   clear hS
   by_cases h45 : x = 45
   · subst h45
     have e45 : (((45 : UInt8).toNat : Nat) : Int) = 45 := rfl
     rw [e45] at hx
     rw [valV_neg]
     cases hl : litV r with
     | none =>
       rw [hl] at HN2
       clear HN1 hl hs
       go_enter Tryz.func89, Tryz.ntmps89
       go_wp2_with fail
       go_at_call 110
       refine (HN2.out _).mono ?_
       rintro e w1 ⟨rfl, rfl⟩
       go_wp2_with fail
       go_ret2
       exact ⟨rfl, rfl⟩
     | some n =>
       have hn := litV_le hl
       rw [hl] at HN2
       clear HN1 hl hs
       go_enter Tryz.func89, Tryz.ntmps89
       go_wp2_with fail
       go_at_call 110
       refine (HN2.out _).mono ?_
       rintro e w1 ⟨rfl, rfl⟩
       go_wp2_with fail
       go_ret2
       exact ⟨rfl, rfl⟩
   · have h1 : ¬ (x.toNat : Int) = 45 := ne_num h45
     have h2 := beq_eq_false_iff_ne.2 h1
     have HR : Kept (∀ w, DVal (valV (x :: r)) w (.returned (.tuple #[.int .i64 (((litV (x :: r)).getD 0 : Nat) : Int), .bool (litV (x :: r)).isSome])) w) := ⟨fun w => by
       rw [valV_pos h45]
       cases litV (x :: r) <;> exact ⟨rfl, rfl⟩⟩
     generalize (x.toNat : Int) = z at hx h1 h2
     generalize litV (x :: r) = o at HN1 HR
     generalize valV (x :: r) = V at HR ⊢
     clear HN2 h45 hs
     go_enter Tryz.func89, Tryz.ntmps89
     go_wp2_with fail
     go_at_call 110
     refine (HN1.out _).mono ?_
     rintro e w1 ⟨rfl, rfl⟩
     go_wp2_with fail
     go_ret2
     exact HR.out _
end Ar
end Go.Proofs.YtlggpefmojacoaaGreatDoor
end
section
namespace Go.Proofs.YtlggpefmojacoaaGreatDoor
open Go.RowKit Tx
namespace Wx

theorem le_nat (a c : UInt8) : decide (a ≤ c) = decide ((a.toNat : Int) ≤ (c.toNat : Int)) := by
 rw [decide_eq_decide, UInt8.le_iff_toNat_le]; omega
theorem eq_nat (a c : UInt8) : (c == a) = decide ((c.toNat : Int) = (a.toNat : Int)) := by
 rw [Bool.eq_iff_iff, beq_iff_eq, decide_eq_true_eq]
 exact ⟨fun h => by rw [h], fun h => UInt8.toNat_inj.1 (by omega)⟩
theorem letter_nat (c : UInt8) : letter c = ((decide ((65 : Int) ≤ (c.toNat : Int)) && decide ((c.toNat : Int) ≤ 90)) || (decide ((97 : Int) ≤ (c.toNat : Int)) && decide ((c.toNat : Int) ≤ 122)) || decide ((c.toNat : Int) = 95)) := by
 unfold letter
 rw [le_nat, le_nat, le_nat, le_nat, eq_nat]
 rfl
theorem digit_nat (c : UInt8) : digit c = (decide ((48 : Int) ≤ (c.toNat : Int)) && decide ((c.toNat : Int) ≤ 57)) := by
 unfold digit
 rw [le_nat, le_nat]
 rfl
theorem letter_any (c : UInt8) (w : World) (t : Bool) (ht : t = letter c) : Calls Tryz.prog 70 #[.int .u8 (c.toNat : Int)] w fun e w' => e = .returned (.bool t) ∧ w = w' := by
 rw [letter_nat] at ht
 generalize (c.toNat : Int) = z at ht ⊢
 by_cases h0 : z ≤ 64
 · have d65 : decide ((65 : Int) ≤ z) = false := decide_eq_false (by omega)
   have d90 : decide (z ≤ (90 : Int)) = true := decide_eq_true (by omega)
   have d97 : decide ((97 : Int) ≤ z) = false := decide_eq_false (by omega)
   have d122 : decide (z ≤ (122 : Int)) = true := decide_eq_true (by omega)
   have d95 : decide (z = (95 : Int)) = false := decide_eq_false (by omega)
   rw [d65, d90, d97, d122, d95] at ht
   have y95 : (z == (95 : Int)) = false := by simpa using d95
   simp only [Bool.and_true, Bool.or_false] at ht
   subst ht
   clear d95
   go_enter Tryz.func70, Tryz.ntmps70
   go_wp2_with fail
   go_ret
   exact ⟨rfl, rfl⟩
 by_cases h1 : z ≤ 90
 · have d65 : decide ((65 : Int) ≤ z) = true := decide_eq_true (by omega)
   have d90 : decide (z ≤ (90 : Int)) = true := decide_eq_true (by omega)
   have d97 : decide ((97 : Int) ≤ z) = false := decide_eq_false (by omega)
   have d122 : decide (z ≤ (122 : Int)) = true := decide_eq_true (by omega)
   have d95 : decide (z = (95 : Int)) = false := decide_eq_false (by omega)
   rw [d65, d90, d97, d122, d95] at ht
   have y95 : (z == (95 : Int)) = false := by simpa using d95
   simp only [Bool.and_true, Bool.or_false] at ht
   subst ht
   clear d95
   go_enter Tryz.func70, Tryz.ntmps70
   go_wp2_with fail
   go_ret
   exact ⟨rfl, rfl⟩
 by_cases h2 : z ≤ 94
 · have d65 : decide ((65 : Int) ≤ z) = true := decide_eq_true (by omega)
   have d90 : decide (z ≤ (90 : Int)) = false := decide_eq_false (by omega)
   have d97 : decide ((97 : Int) ≤ z) = false := decide_eq_false (by omega)
   have d122 : decide (z ≤ (122 : Int)) = true := decide_eq_true (by omega)
   have d95 : decide (z = (95 : Int)) = false := decide_eq_false (by omega)
   rw [d65, d90, d97, d122, d95] at ht
   have y95 : (z == (95 : Int)) = false := by simpa using d95
   simp only [Bool.and_true, Bool.and_false, Bool.or_false] at ht
   subst ht
   clear d95
   go_enter Tryz.func70, Tryz.ntmps70
   go_wp2_with fail
   go_ret
   exact ⟨rfl, rfl⟩
 by_cases h3 : z ≤ 95
 · have d65 : decide ((65 : Int) ≤ z) = true := decide_eq_true (by omega)
   have d90 : decide (z ≤ (90 : Int)) = false := decide_eq_false (by omega)
   have d97 : decide ((97 : Int) ≤ z) = false := decide_eq_false (by omega)
   have d122 : decide (z ≤ (122 : Int)) = true := decide_eq_true (by omega)
   have d95 : decide (z = (95 : Int)) = true := decide_eq_true (by omega)
   rw [d65, d90, d97, d122, d95] at ht
   have y95 : (z == (95 : Int)) = true := by simpa using d95
   simp only [Bool.and_true, Bool.and_false, Bool.or_false, Bool.or_true] at ht
   subst ht
   clear d95
   go_enter Tryz.func70, Tryz.ntmps70
   go_wp2_with fail
   go_ret
   exact ⟨rfl, rfl⟩
 by_cases h4 : z ≤ 96
 · have d65 : decide ((65 : Int) ≤ z) = true := decide_eq_true (by omega)
   have d90 : decide (z ≤ (90 : Int)) = false := decide_eq_false (by omega)
   have d97 : decide ((97 : Int) ≤ z) = false := decide_eq_false (by omega)
   have d122 : decide (z ≤ (122 : Int)) = true := decide_eq_true (by omega)
   have d95 : decide (z = (95 : Int)) = false := decide_eq_false (by omega)
   rw [d65, d90, d97, d122, d95] at ht
   have y95 : (z == (95 : Int)) = false := by simpa using d95
   simp only [Bool.and_true, Bool.and_false, Bool.or_false] at ht
   subst ht
   clear d95
   go_enter Tryz.func70, Tryz.ntmps70
   go_wp2_with fail
   go_ret
   exact ⟨rfl, rfl⟩
 by_cases h5 : z ≤ 122
 · have d65 : decide ((65 : Int) ≤ z) = true := decide_eq_true (by omega)
   have d90 : decide (z ≤ (90 : Int)) = false := decide_eq_false (by omega)
   have d97 : decide ((97 : Int) ≤ z) = true := decide_eq_true (by omega)
   have d122 : decide (z ≤ (122 : Int)) = true := decide_eq_true (by omega)
   have d95 : decide (z = (95 : Int)) = false := decide_eq_false (by omega)
   rw [d65, d90, d97, d122, d95] at ht
   have y95 : (z == (95 : Int)) = false := by simpa using d95
   simp only [Bool.and_true, Bool.and_false, Bool.or_false, Bool.or_true] at ht
   subst ht
   clear d95
   go_enter Tryz.func70, Tryz.ntmps70
   go_wp2_with fail
   go_ret
   exact ⟨rfl, rfl⟩
 have d65 : decide ((65 : Int) ≤ z) = true := decide_eq_true (by omega)
 have d90 : decide (z ≤ (90 : Int)) = false := decide_eq_false (by omega)
 have d97 : decide ((97 : Int) ≤ z) = true := decide_eq_true (by omega)
 have d122 : decide (z ≤ (122 : Int)) = false := decide_eq_false (by omega)
 have d95 : decide (z = (95 : Int)) = false := decide_eq_false (by omega)
 rw [d65, d90, d97, d122, d95] at ht
 have y95 : (z == (95 : Int)) = false := by simpa using d95
 simp only [Bool.and_false, Bool.or_false] at ht
 subst ht
 clear d95
 go_enter Tryz.func70, Tryz.ntmps70
 go_wp2_with fail
 go_ret
 exact ⟨rfl, rfl⟩
theorem digit_any (c : UInt8) (w : World) (t : Bool) (ht : t = digit c) : Calls Tryz.prog 71 #[.int .u8 (c.toNat : Int)] w fun e w' => e = .returned (.bool t) ∧ w = w' := by
 rw [digit_nat] at ht
 generalize (c.toNat : Int) = z at ht ⊢
 by_cases h0 : z ≤ 47
 · have d48 : decide ((48 : Int) ≤ z) = false := decide_eq_false (by omega)
   have d57 : decide (z ≤ (57 : Int)) = true := decide_eq_true (by omega)
   rw [d48, d57] at ht
   simp only [Bool.and_true] at ht
   subst ht
   skip
   go_enter Tryz.func71, Tryz.ntmps71
   go_wp2_with fail
   go_ret
   exact ⟨rfl, rfl⟩
 by_cases h1 : z ≤ 57
 · have d48 : decide ((48 : Int) ≤ z) = true := decide_eq_true (by omega)
   have d57 : decide (z ≤ (57 : Int)) = true := decide_eq_true (by omega)
   rw [d48, d57] at ht
   simp only [Bool.and_true] at ht
   subst ht
   skip
   go_enter Tryz.func71, Tryz.ntmps71
   go_wp2_with fail
   go_ret
   exact ⟨rfl, rfl⟩
 have d48 : decide ((48 : Int) ≤ z) = true := decide_eq_true (by omega)
 have d57 : decide (z ≤ (57 : Int)) = false := decide_eq_false (by omega)
 rw [d48, d57] at ht
 simp only [Bool.and_false] at ht
 subst ht
 skip
 go_enter Tryz.func71, Tryz.ntmps71
 go_wp2_with fail
 go_ret
 exact ⟨rfl, rfl⟩

set_option maxHeartbeats 1000000 in
set_option maxRecDepth 100000 in
theorem name_any (s : ByteArray) (w : World) (hs : s.size ≤ 1000000) (m : Nat) (hm : m = nameL (toL s)) : Calls Tryz.prog 48 #[.string s] w fun e w' => e = .returned (.int .i64 (m : Int)) ∧ w = w' := by
 have HM := Kept.mk hm
 clear hm
 go_enter Tryz.func48, Tryz.ntmps48
 go_wp2_with fail
 go_loop [3] (fun i => ∃ k : Nat, k ≤ s.size ∧ i = .int .i64 (k : Int) ∧ Kept (k = 0 ∨ (0 < k ∧ m = k + (((toL s).drop k).takeWhile fun c => letter c || digit c).length))) (fun i => s.size - (intOf i).toNat)
 case atStart => exact ⟨0, by omega, rfl, ⟨.inl rfl⟩⟩
 case round =>
   obtain ⟨k, hk, rfl, HK⟩ := hrel
   by_cases hlt : k < s.size
   · have z : (k : Int) < s.size := by omega
     cases hL : letter (s[k]'hlt) with
     | true =>
       have HL : Kept (true = letter (s[k]'hlt)) := ⟨hL.symm⟩
       have HN : Kept (k + 1 = 0 ∨ (0 < k + 1 ∧ m = (k + 1) + (((toL s).drop (k + 1)).takeWhile fun c => letter c || digit c).length)) := ⟨.inr ⟨by omega, by
         rcases HK.out with h0 | ⟨_, h1⟩
         · subst h0
           rw [HM.out, name_first hlt, if_pos hL]
         · rw [h1, takeW_go hlt (by simp [hL])]; omega⟩⟩
       clear hL HK
       go_wp2_with (go_at_call 70; refine (letter_any _ _ true HL.out).mono ?_; rintro e w1 ⟨rfl, rfl⟩)
       go_round
       case rel => exact ⟨k + 1, by omega, by go_num, HN⟩
       case measure => simp [intOf]; omega
     | false =>
       have HL : Kept (false = letter (s[k]'hlt)) := ⟨hL.symm⟩
       by_cases h0 : k = 0
       · subst h0
         have HR : Kept (m = 0) := ⟨by rw [HM.out, name_first hlt, if_neg (by simp [hL])]⟩
         clear hL HK
         go_wp2_with (go_at_call 70; refine (letter_any _ _ false HL.out).mono ?_; rintro e w1 ⟨rfl, rfl⟩)
         go_ret
         exact ⟨by rw [HR.out]; rfl, rfl⟩
       · have zp : (0 : Int) < (k : Int) := by omega
         have zp2 : 0 < k := by omega
         cases hD : digit (s[k]'hlt) with
         | true =>
           have HD : Kept (true = digit (s[k]'hlt)) := ⟨hD.symm⟩
           have HN : Kept (k + 1 = 0 ∨ (0 < k + 1 ∧ m = (k + 1) + (((toL s).drop (k + 1)).takeWhile fun c => letter c || digit c).length)) := ⟨.inr ⟨by omega, by
             rcases HK.out with h1 | ⟨_, h1⟩
             · exact absurd h1 h0
             · rw [h1, takeW_go hlt (by simp [hD])]; omega⟩⟩
           clear hL HK hD h0
           go_wp2_with (first
             | (go_at_call 70; refine (letter_any _ _ false HL.out).mono ?_; rintro e w1 ⟨rfl, rfl⟩)
             | (go_at_call 71; refine (digit_any _ _ true HD.out).mono ?_; rintro e w1 ⟨rfl, rfl⟩))
           go_round
           case rel => exact ⟨k + 1, by omega, by go_num, HN⟩
           case measure => simp [intOf]; omega
         | false =>
           have HD : Kept (false = digit (s[k]'hlt)) := ⟨hD.symm⟩
           have HR : Kept (m = k) := ⟨by
             rcases HK.out with h1 | ⟨_, h1⟩
             · exact absurd h1 h0
             · rw [h1, takeW_no hlt (by simp [hD, hL])]; rfl⟩
           clear hL HK hD h0
           go_wp2_with (first
             | (go_at_call 70; refine (letter_any _ _ false HL.out).mono ?_; rintro e w1 ⟨rfl, rfl⟩)
             | (go_at_call 71; refine (digit_any _ _ false HD.out).mono ?_; rintro e w1 ⟨rfl, rfl⟩))
           go_ret
           exact ⟨by rw [HR.out]; rfl, rfl⟩
   · have z : ¬ (k : Int) < s.size := by omega
     have z2 : decide ((k : Int) < (s.size : Int)) = false := decide_eq_false z
     have HR : Kept (m = k) := ⟨by
       rcases HK.out with h1 | ⟨_, h1⟩
       · subst h1
         have : toL s = [] := by have := drop_end (s := s) (p := 0) (by omega); simpa using this
         rw [HM.out, this]; rfl
       · rw [h1, takeW_end (by omega)]; rfl⟩
     clear hlt HK
     go_wp2_with fail
     go_ret
     exact ⟨by rw [HR.out]; rfl, rfl⟩
end Wx
end Go.Proofs.YtlggpefmojacoaaGreatDoor
end
section
namespace Go.Proofs.YtlggpefmojacoaaGreatDoor
open Go.RowKit Tx
namespace Ar
open Va (Vr VS getD Sorted)

theorem alpha_letter (c : UInt8) : alpha c = Wx.letter c := by
 unfold alpha Wx.letter
 generalize (c == 95) = x
 generalize decide (65 ≤ c) = a
 generalize decide (c ≤ 90) = b
 generalize decide (97 ≤ c) = d
 generalize decide (c ≤ 122) = e
 revert x a b d e
 decide
theorem one_name (c : UInt8) : Wx.nameL [c] = if alpha c = true then 1 else 0 := by
 rw [alpha_letter]
 rfl
theorem one_cut (s : ByteArray) (k : Nat) (h : k < s.size) : toL (s.extract k (k + 1)) = [s[k]'h] := by
 rw [toL_extract, List.drop_eq_getElem_cons (by rw [toL_length]; exact h), at_toL s k h]
 simp
theorem one_run (s : ByteArray) (k : Nat) (h : k < s.size) (W : World) : (Instr.slice 9 (.string s) (some (.int .i64 (k : Int))) (some (.int .i64 ((k : Int) + 1))) none).run Tryz.prog W = .ok (.string (s.extract k (k + 1))) W := by
 rw [Go.run_slice_string W 9 s .i64 .i64 _ _ Tryz.underlying9 (by omega) (by omega) (by omega)]
 rfl
set_option maxHeartbeats 2000000 in
set_option maxRecDepth 100000 in
theorem run_any (s : ByteArray) (w : World) (hs : s.size ≤ 1000000) : Calls Tryz.prog 143 #[.string s] w fun e w' => e = .returned (.int .i64 (runL (toL s) : Int)) ∧ w = w' := by
 go_enter Tryz.func143, Tryz.ntmps143
 go_wp2_with fail
 go_loopw [3] (fun x wr => ∃ k : Nat, x = .int .i64 (k : Int) ∧ k ≤ s.size ∧ w = wr ∧ Kept (runL (toL s) = k + runL ((toL s).drop k))) (fun x _ => s.size - (intOf x).toNat)
 case atStart => exact ⟨0, rfl, Nat.zero_le _, rfl, ⟨by simp⟩⟩
 case round =>
   obtain ⟨k, rfl, hk, rfl, HR⟩ := hrel
   by_cases hlt : k < s.size
   · have hl : k < (toL s).length := by rw [toL_length]; exact hlt
     have HS := Kept.mk (runL_step (toL s) k hl)
     have HC : Kept ((toL s)[k]'hl = s[k]'hlt) := ⟨at_toL s k hlt⟩
     rw [HC.out] at HS
     have HD := Kept.mk (dig_iff (s[k]'hlt))
     have hcut := one_run s k hlt
     have HN : Kept (∀ w, Calls Tryz.prog 48 #[.string (s.extract k (k + 1))] w fun e w' => e = .returned (.int .i64 ((if alpha (s[k]'hlt) = true then 1 else 0 : Nat) : Int)) ∧ w = w') := ⟨fun w =>
       Wx.name_any (s.extract k (k + 1)) w (by have h1 := toL_length (s.extract k (k + 1)); rw [one_cut s k hlt] at h1; have h2 : 1 = (s.extract k (k + 1)).size := h1; omega) _ (by rw [one_cut s k hlt, one_name])⟩
     have j1 : (k : Int) < (s.size : Int) := by omega
     have jw : IntKind.i64.wrap ((k : Int) + 1) = ((k + 1 : Nat) : Int) := by rw [IntWalk.i64_in _ (by omega)]; omega
     clear hl HC
     generalize s.extract k (k + 1) = X at hcut HN
     cases ha : alpha (s[k]'hlt) with
     | true =>
       have HA := Kept.mk ha
       have HW : Kept (runL (toL s) = (k + 1) + runL ((toL s).drop (k + 1))) := ⟨by rw [HR.out, HS.out, if_pos (by rw [wordB_of, HA.out]; rfl)]; omega⟩
       rw [ha, if_pos rfl] at HN
       clear ha
       go_wp2_with (go_at_call 48; refine (HN.out _).mono ?_; rintro e w1 ⟨rfl, rfl⟩)
       go_roundw
       case measure => simp [intOf]; omega
       case rel => exact ⟨k + 1, rfl, by omega, trivial, HW⟩
     | false =>
       have HA := Kept.mk ha
       rw [ha, if_neg (by decide)] at HN
       clear ha
       by_cases hd : 48 ≤ ((s[k]'hlt).toNat : Int) ∧ ((s[k]'hlt).toNat : Int) ≤ 57
       · have HW : Kept (runL (toL s) = (k + 1) + runL ((toL s).drop (k + 1))) := ⟨by rw [HR.out, HS.out, if_pos (by rw [wordB_of, HA.out, HD.out.2 hd]; rfl)]; omega⟩
         obtain ⟨hd1, hd2⟩ := hd
         go_wp2_with (go_at_call 48; refine (HN.out _).mono ?_; rintro e w1 ⟨rfl, rfl⟩)
         go_roundw
         case measure => simp [intOf]; omega
         case rel => exact ⟨k + 1, rfl, by omega, trivial, HW⟩
       · have HW : Kept (runL (toL s) = k) := ⟨by rw [HR.out, HS.out, if_neg (by rw [wordB_of, HA.out, bool_of HD.out hd]; decide)]; omega⟩
         by_cases hd1 : 48 ≤ ((s[k]'hlt).toNat : Int)
         · have hd2 : ¬ ((s[k]'hlt).toNat : Int) ≤ 57 := fun e => hd ⟨hd1, e⟩
           clear hd
           go_wp2_with (go_at_call 48; refine (HN.out _).mono ?_; rintro e w1 ⟨rfl, rfl⟩)
           go_ret
           exact ⟨by rw [HW.out]; rfl, rfl⟩
         · clear hd
           go_wp2_with (go_at_call 48; refine (HN.out _).mono ?_; rintro e w1 ⟨rfl, rfl⟩)
           go_ret
           exact ⟨by rw [HW.out]; rfl, rfl⟩
   · have HW : Kept (runL (toL s) = k) := ⟨by rw [HR.out, List.drop_eq_nil_of_le (by rw [toL_length]; omega)]; rfl⟩
     have j1 : ¬ (k : Int) < (s.size : Int) := by omega
     go_wp2_with fail
     go_ret
     exact ⟨by rw [HW.out]; rfl, rfl⟩
end Ar
end Go.Proofs.YtlggpefmojacoaaGreatDoor
end
section
namespace Go.Proofs.YtlggpefmojacoaaGreatDoor
open Go.RowKit Tx
namespace Va
theorem less_lt : ∀ a b : List UInt8, Op.bytesLess a b = decide (a < b)
 | [], [] => by simp [Op.bytesLess]
 | [], _ :: _ => by simp [Op.bytesLess]
 | _ :: _, [] => by simp [Op.bytesLess]
 | a :: r, b :: s => by
   rw [Op.bytesLess, less_lt r s]
   simp only [List.cons_lt_cons_iff, Bool.decide_or, Bool.decide_and]
   by_cases h : a = b
   · simp [h]
   · simp [h]
theorem less_str (a b : ByteArray) : Op.bytesLess a.toList b.toList = decide (lt a b) := by
 rw [ByteArray.toList_eq, ByteArray.toList_eq, less_lt]
 rfl
set_option maxRecDepth 100000 in
theorem find_any (l : List Vr) (A : Option Addr) (ln k : Nat) (n : ByteArray) (w : World) (hV : VS w A k l) (hn : l.length = ln) (hl : ln ≤ 100000) (p : Nat) (b : Bool) (hp : pos l n = p) (hb : found l n = b) :
   Calls Tryz.prog 49 #[.slice A ln k, .string n] w fun e w' => e = .returned (.tuple #[.int .i64 (p : Int), .bool b]) ∧ Below w.heap.size w w' := by
 have HV := Kept.mk hV
 have HN := Kept.mk hn
 have HP := Kept.mk hp
 have HF := Kept.mk hb
 clear hV hn hp hb
 go_enter Tryz.func49, Tryz.ntmps49
 go_wp2_with fail
 go_loop [6] (fun i => ∃ j : Nat, j ≤ ln ∧ i = .int .i64 (j : Int) ∧ Kept (∀ i u, l[i]? = some u → i < j → lt u.name n)) (fun i => ln - (intOf i).toNat)
 case atStart => exact ⟨0, by omega, rfl, ⟨fun i _ _ h => absurd h (Nat.not_lt_zero _)⟩⟩
 case round =>
   obtain ⟨j, hj, rfl, hI⟩ := hrel
   have j0 : (0 : Int) ≤ (j : Int) := by omega
   by_cases hlt : j < ln
   · obtain ⟨v, hv⟩ : ∃ v, l[j]? = some v := ⟨_, List.getElem?_eq_getElem (by rw [HN.out]; exact hlt)⟩
     obtain ⟨g, off, rfl, hg, c0, _⟩ := HV.out.at hv
     have j1 : (j : Int) < (ln : Int) := by omega
     by_cases hxn : lt v.name n
     · have HI2 : Kept (∀ i u, l[i]? = some u → i < j + 1 → lt u.name n) := ⟨fun i u hi hij => by
         by_cases e : i = j
         · subst e; rw [hv] at hi; injection hi with hi; rw [← hi]; exact hxn
         · exact hI.out i u hi (by omega)⟩
       clear hv hI
       generalize v.name = x at c0 hxn
       have bL : Op.bytesLess x.toList n.toList = true := by rw [less_str, decide_eq_true hxn]
       clear hxn
       go_wp2_with fail
       go_round
       case rel => exact ⟨j + 1, by omega, by go_num, HI2⟩
       case measure => simp [intOf]; omega
     · obtain ⟨e1, e2⟩ := pos_at hv hI.out hxn
       obtain rfl : p = j := HP.out.symm.trans e1
       have hf : b = decide (v.name = n) := HF.out.symm.trans e2
       clear hv hI e1 e2
       generalize v.name = x at c0 hxn hf
       have bL : Op.bytesLess x.toList n.toList = false := by rw [less_str, decide_eq_false hxn]
       clear hxn
       by_cases hE : x = n
       · have hE1 := beq_true hE
         have : b = true := by rw [hf, decide_eq_true hE]
         subst this
         clear hf hE
         go_wp2_with fail
         go_quiet (fail)
         go_wp2_with fail
         go_ret2
         exact ⟨rfl, below_drewN (Below.refl _ _) _⟩
       · have hE1 := beq_false hE
         have : b = false := by rw [hf, decide_eq_false hE]
         subst this
         clear hf hE
         go_wp2_with fail
         go_quiet (fail)
         go_wp2_with fail
         go_ret2
         exact ⟨rfl, below_drewN (Below.refl _ _) _⟩
   · obtain rfl : j = ln := by omega
     obtain ⟨e1, e2⟩ := pos_all (l := l) (n := n) (fun i u h1 h2 => hI.out i u h1 (by have := HN.out; omega))
     obtain rfl : p = j := by rw [← HP.out, e1, HN.out]
     obtain rfl : b = false := HF.out.symm.trans e2
     have j1 : ¬ (p : Int) < (p : Int) := by omega
     clear hlt hI e1 e2
     go_wp2_with fail
     go_quiet (fail)
     go_wp2_with fail
     go_ret2
     exact ⟨rfl, below_drewN (Below.refl _ _) _⟩
set_option maxHeartbeats 1000000 in
set_option maxRecDepth 100000 in
theorem refGet_any (l : List Vr) (A : Option Addr) (ln k : Nat) (n : ByteArray) (w : World) (hV : VS w A k l) (hn : l.length = ln) (hl : ln ≤ 100000) (v : Vr) (b : Bool) (hp : getD l n = v) (hb : found l n = b) :
   Calls Tryz.prog 35 #[.slice A ln k, .string n] w (GEnd w v b) := by
 have HV := Kept.mk hV
 have HN := Kept.mk hn
 have HF := Kept.mk hb
 have HX0 := Kept.mk (VX.begin w Vr.zero)
 have HV0 := Kept.mk (HV.out.below HX0.out.bl)
 cases b with
 | false =>
   obtain rfl : Vr.zero = v := (getD_no hb).symm.trans hp
   clear hV hn hp hb
   go_enter Tryz.func35, Tryz.ntmps35
   go_wp2_with (first
     | (go_at_call 49; refine (find_any l A ln k n _ HV0.out HN.out hl _ false rfl HF.out).mono ?_; rintro e w1 ⟨rfl, hb1⟩; have HX1 := Kept.mk (HX0.out.below hb1); clear hb1)
     | (refine wpList_store_row rfl 31 _ _ rfl _ _ rfl rfl 31 _ HX1.out.r (by kernel_rfl) rfl (by simp [Value.oneCell']) ?_
        have HO := Kept.mk (HX1.out.row Vr.zero)))
   refine bodyPost_ret (res_two rfl _ _ w.heap.size _ _ (0, 0) _ rfl HO.out.r Tryz.underlying31 rfl (by kernel_rfl)) rfl ?_
   exact ⟨rfl, HO.out.bl⟩
 | true =>
   have hlt := found_lt hb
   have hv : l[pos l n]? = some v := by rw [List.getElem?_eq_getElem hlt, ← getD_at hb, hp]
   obtain ⟨p, hpp⟩ : ∃ p, pos l n = p := ⟨_, rfl⟩
   rw [hpp] at hlt hv
   rw [hn] at hlt
   have HPp := Kept.mk hpp
   obtain ⟨g, off, rfl, hg, c0, c1, c2, c3⟩ := HV.out.at hv
   have HC := Kept.mk (And.intro hg (And.intro c0 (And.intro c1 (And.intro c2 c3))))
   have z0 : (0 : Int) ≤ (p : Int) := by omega
   have z1 : (p : Int) < (ln : Int) := by omega
   clear hV hn hp hb hv hpp c0 c1 c2 c3 hg
   go_enter Tryz.func35, Tryz.ntmps35
   go_wp2_with (first
     | (go_at_call 49; refine (find_any l _ ln k n _ HV0.out HN.out hl p true HPp.out HF.out).mono ?_; rintro e w1 ⟨rfl, hb1⟩; have HX1 := Kept.mk (HX0.out.below hb1)
        have c0 := (HX1.out.bl.cell (p := ⟨g, off + p * 4, none⟩) HC.out.1).trans HC.out.2.1
        have c1 := (HX1.out.bl.cell (p := ⟨g, off + p * 4 + 1, none⟩) HC.out.1).trans HC.out.2.2.1
        have c2 := (HX1.out.bl.cell (p := ⟨g, off + p * 4 + 2, none⟩) HC.out.1).trans HC.out.2.2.2.1
        have c3 := (HX1.out.bl.cell (p := ⟨g, off + p * 4 + 3, none⟩) HC.out.1).trans HC.out.2.2.2.2
        clear hb1)
     | (refine wpList_store_row rfl 31 _ _ rfl _ _ rfl rfl 31 _ HX1.out.r (by kernel_rfl) rfl (by simp [Value.oneCell']) ?_
        have HO := Kept.mk (HX1.out.row v)))
   refine bodyPost_ret (res_two rfl _ _ w.heap.size _ _ (0, 0) _ rfl HO.out.r Tryz.underlying31 rfl (by kernel_rfl)) rfl ?_
   exact ⟨rfl, HO.out.bl⟩
set_option maxRecDepth 100000 in
theorem isName_any (s : ByteArray) (w : World) (hs : s.size ≤ 1000000) (b : Bool) (hb : isName s = b) : Calls Tryz.prog 34 #[.string s] w fun e w' => e = .returned (.bool b) ∧ w = w' := by
 obtain ⟨m, hm⟩ : ∃ m, m = Wx.nameL (toL s) := ⟨_, rfl⟩
 have HM := Kept.mk (Wx.name_any s w (by omega) m hm)
 have hmle := Wx.nameL_le (toL s)
 rw [toL_length, ← hm] at hmle
 by_cases h0 : s = ⟨#[]⟩
 · subst h0
   obtain rfl : false = b := hb
   clear hm hmle HM
   go_enter Tryz.func34, Tryz.ntmps34
   go_wp2_with fail
   go_ret
   exact ⟨rfl, rfl⟩
 · have hsz : 0 < s.size := Nat.pos_of_ne_zero fun e => h0 (by rw [← bs_toL s, List.eq_nil_of_length_eq_zero (l := toL s) (by rw [toL_length]; exact e)]; rfl)
   have hE : (s.toList == ([] : List UInt8)) = false := Wx.not_empty hsz
   have hE2 : (s.toList != ([] : List UInt8)) = true := by unfold bne; rw [hE]; rfl
   clear hsz
   have hne : toL s ≠ [] := fun e => h0 (by rw [← bs_toL s, e]; rfl)
   have hb2 : b = decide (m = s.size) := by
     rw [← hb]
     unfold isName isN
     rw [← hm, toL_length]
     cases e : toL s with
     | nil => exact absurd e hne
     | cons c r => rw [Bool.eq_iff_iff]; simp
   by_cases hms : m = s.size
   · obtain rfl : b = true := by rw [hb2, decide_eq_true hms]
     have hz : ((m : Int) == (s.size : Int)) = true := by rw [hms]; exact beq_self_eq_true _
     clear hb hm hb2 hne h0
     go_enter Tryz.func34, Tryz.ntmps34
     go_wp2_with (go_at_call 48; refine HM.out.mono ?_; rintro e w1 ⟨rfl, rfl⟩)
     go_ret
     exact ⟨rfl, rfl⟩
   · obtain rfl : b = false := by rw [hb2, decide_eq_false hms]
     have hz : ((m : Int) == (s.size : Int)) = false := beq_eq_false_iff_ne.2 (by omega)
     clear hb hm hb2 hne h0
     go_enter Tryz.func34, Tryz.ntmps34
     go_wp2_with (go_at_call 48; refine HM.out.mono ?_; rintro e w1 ⟨rfl, rfl⟩)
     go_ret
     exact ⟨rfl, rfl⟩
end Va
end Go.Proofs.YtlggpefmojacoaaGreatDoor
end
section
namespace Go.Proofs.YtlggpefmojacoaaGreatDoor
open Go.RowKit Tx
namespace Ar
open Va (Vr VS VX getD found Sorted)

theorem get_dead (w : World) (b : Nat) (s : List UInt8) (l : List Vr) (c : Int) (n : ByteArray) (live : Bool) (h : QM w b s l c) (hd : live = false ∨ c ≠ 0) :
   Calls Tryz.prog 68 #[.pointer (some ⟨b, 0, none⟩), .string n, .bool live] w fun e w' => e = .returned (.int .i64 0) ∧ w = w' := by
 have c2 := h.c2
 cases live with
 | false =>
   clear h hd
   go_enter Tryz.func68, Tryz.ntmps68
   go_wp2_with fail
   go_ret
   exact ⟨rfl, rfl⟩
 | true =>
   have hc : c ≠ 0 := by rcases hd with hd | hd; cases hd; exact hd
   have hc1 : (c == 0) = false := beq_eq_false_iff_ne.2 hc
   have hc2 : (c != 0) = true := by simp [bne, hc1]
   clear h hd
   go_enter Tryz.func68, Tryz.ntmps68
   go_wp2_with fail
   go_ret
   exact ⟨rfl, rfl⟩
def GetE (o : Option Int) (w : World) (b : Nat) (s : List UInt8) (l : List Vr) (e : Ending) (w' : World) : Prop := e = .returned (.int .i64 (o.getD 0)) ∧ Kept (QM w' b s l (if o.isSome then 0 else 130)) ∧ Kept (Only (· = b) w w')
set_option maxHeartbeats 2000000 in
set_option maxRecDepth 100000 in
theorem get_live (w : World) (b : Nat) (s : List UInt8) (l : List Vr) (n : ByteArray) (h : QM w b s l 0) (hl : l.length ≤ 100000) :
   Calls Tryz.prog 68 #[.pointer (some ⟨b, 0, none⟩), .string n, .bool true] w (GetE (valV (toL (getD l n).value)) w b s l) := by
 have c2 := h.c2
 have hv := getD_small h.ok n
 obtain ⟨A, k, hr, hV⟩ := h.row
 have c1 : w.cell? ⟨b, 1, none⟩ = some (.slice A l.length k) := cell_of_row w b 1 _ _ _ hr
 have H := Kept.mk h
 obtain ⟨v, hvv⟩ : ∃ v, getD l n = v := ⟨_, rfl⟩
 obtain ⟨f, hf⟩ : ∃ f, found l n = f := ⟨_, rfl⟩
 have HG := Kept.mk (Va.refGet_any l A l.length k n w hV rfl hl v f hvv hf)
 rw [hvv] at hv ⊢
 have HD : Kept (∀ w, _) := ⟨fun w => dval_any (toL v.value) w (by rw [toL_length]; exact hv)⟩
 rw [bs_toL] at HD
 obtain ⟨o, ho⟩ : ∃ o, o = valV (toL v.value) := ⟨_, rfl⟩
 rw [← ho] at HD ⊢
 clear hV hr hvv hf ho h hv hl
 have HF : Kept (∀ w', QM w' b s l 0 → _) := ⟨fun w' h => fail_any w' b s l 0 130 h⟩
 cases o with
 | none =>
   go_enter Tryz.func68, Tryz.ntmps68
   go_wp2_with (first
     | (go_at_call 35; refine HG.out.mono ?_; rintro e w1 ⟨rfl, hb1⟩; have HX0 := Kept.mk (VX.zero hb1); clear hb1)
     | (refine wpList_store_row rfl 31 _ _ rfl _ _ rfl rfl 31 _ HX0.out.r (by kernel_rfl) rfl (by simp [Value.oneCell']) ?_
        have HX := Kept.mk (HX0.out.row v)
        have vc1 := HX.out.c1)
     | (go_at_call 89; refine (HD.out _).mono ?_; rintro e w2 ⟨rfl, rfl⟩)
     | (go_at_call 47; refine (HF.out _ (H.out.below HX.out.bl)).mono ?_; rintro e w3 ⟨rfl, h3, h4⟩; have H3 := h3; have H4 := h4; clear h3 h4))
   go_ret
   exact ⟨rfl, H3, ⟨((Only.refl _ _).below HX.out.bl).trans H4.out (fun i _ h => h)⟩⟩
 | some m =>
   go_enter Tryz.func68, Tryz.ntmps68
   go_wp2_with (first
     | (go_at_call 35; refine HG.out.mono ?_; rintro e w1 ⟨rfl, hb1⟩; have HX0 := Kept.mk (VX.zero hb1); clear hb1)
     | (refine wpList_store_row rfl 31 _ _ rfl _ _ rfl rfl 31 _ HX0.out.r (by kernel_rfl) rfl (by simp [Value.oneCell']) ?_
        have HX := Kept.mk (HX0.out.row v)
        have vc1 := HX.out.c1)
     | (go_at_call 89; refine (HD.out _).mono ?_; rintro e w2 ⟨rfl, rfl⟩))
   go_ret
   exact ⟨rfl, ⟨H.out.below HX.out.bl⟩, ⟨(Only.refl _ _).below HX.out.bl⟩⟩
end Ar
end Go.Proofs.YtlggpefmojacoaaGreatDoor
end
section
namespace Go.Proofs.YtlggpefmojacoaaGreatDoor
open Go.RowKit Tx
namespace Ar
open Va (Vr VS getD Sorted)

theorem word_letter (c : UInt8) : (Wx.letter c || Wx.digit c) = wordB c := by
 rw [← alpha_letter]
 rfl
theorem takeWhile_whole {p : UInt8 → Bool} : ∀ {r : List UInt8}, (∀ c ∈ r, p c = true) → r.takeWhile p = r
 | [], _ => rfl
 | a :: r, h => by
   rw [List.takeWhile_cons, if_pos (h a (List.mem_cons_self ..)), takeWhile_whole (fun c hc => h c (List.mem_cons_of_mem _ hc))]
theorem all_run {t : List UInt8} (h : ∀ c ∈ t, wordB c = true) : Va.isName (bs t) = isNm t := by
 show Va.isN (toL (bs t)) = _
 rw [toL_bs]
 cases t with
 | nil => rfl
 | cons c r =>
   have hw : r.takeWhile (fun c => Wx.letter c || Wx.digit c) = r := takeWhile_whole fun x hx => by rw [word_letter]; exact h x (List.mem_cons_of_mem _ hx)
   show (true && (if Wx.letter c = true then 1 + (r.takeWhile fun c => Wx.letter c || Wx.digit c).length else 0) == (r.length + 1)) = alpha c
   rw [hw, alpha_letter]
   cases Wx.letter c with
   | true => simp; omega
   | false => simp
theorem takeWhile_mem {p : UInt8 → Bool} : ∀ {s : List UInt8} {c : UInt8}, c ∈ s.takeWhile p → p c = true
 | [], _, h => by cases h
 | a :: s, c, h => by
   cases hp : p a with
   | false => rw [List.takeWhile_cons, hp] at h; cases h
   | true =>
     rw [List.takeWhile_cons, hp] at h
     rcases List.mem_cons.1 h with rfl | h
     · exact hp
     · exact takeWhile_mem h
theorem run_all (s : List UInt8) : ∀ c ∈ s.take (runL s), wordB c = true := by
 intro c hc
 have e : s.take (runL s) = s.takeWhile wordB := (List.prefix_iff_eq_take.1 (List.takeWhile_prefix wordB)).symm
 rw [e] at hc
 exact takeWhile_mem hc
theorem dname_any (s : List UInt8) (w : World) (hs : s.length ≤ 1000000) : Calls Tryz.prog 34 #[.string (bs (s.take (runL s)))] w fun e w' => e = .returned (.bool (isNm (s.take (runL s)))) ∧ w = w' :=
 Va.isName_any (bs (s.take (runL s))) w (by rw [bs_size, List.length_take]; omega) _ (all_run (run_all s))
end Ar
end Go.Proofs.YtlggpefmojacoaaGreatDoor
end
section
namespace Go.Proofs.YtlggpefmojacoaaGreatDoor
open Go.RowKit Tx
namespace Ar
open Va (Vr VS getD Sorted)

def leafV (live : Bool) (tk : Tok) (l : List Vr) : Option Int :=
 if tk = [] then none else if isNm tk = true then (if live = true then valV (toL (getD l (bs tk)).value) else some 0) else (litV tk).map fun n : Nat => (n : Int)
set_option maxHeartbeats 4000000 in
set_option maxRecDepth 100000 in
theorem prim_leaf (w : World) (b : Nat) (s T tk r : List UInt8) (l : List Vr) (live : Bool) (d : Int) (h : QM w b s l 0) (hs : s.length ≤ 100000) (hl : l.length ≤ 100000) (ho : opS (trim s) ≠ [40]) (hT : T = trim s) (htk : tk = T.take (runL T)) (hr : r = T.drop (runL T)) :
   Calls Tryz.prog 125 #[.pointer (some ⟨b, 0, none⟩), .bool live, .int .i64 d] w (GetE (leafV live tk l) w b r l) := by
 have HTk : Kept (∀ w, QM w b s l 0 → Calls Tryz.prog 88 #[.pointer (some ⟨b, 0, none⟩), .string ⟨#[40]⟩] w fun e w' => e = .returned (.bool false) ∧ Kept (QM w' b T l 0) ∧ Kept (Only (· = b) w w')) := ⟨fun w h => by
   subst hT
   exact dtake_any w b s l 0 [40] h hs (by decide) false ⟨(decide_eq_false ho).symm⟩⟩
 have hTl : T.length ≤ 100000 := by have := trim_le s; rw [hT]; omega
 have HRn : Kept (∀ w, _) := ⟨fun w => run_any (bs T) w (by rw [bs_size]; omega)⟩
 rw [toL_bs] at HRn
 have HNm : Kept (∀ w, _) := ⟨fun w => dname_any T w (by omega)⟩
 have hk : runL T ≤ T.length := (List.takeWhile_sublist _).length_le
 have htr := take_run T (runL T) hk
 have hdr := drop_run T (runL T) hk
 have htl : tk.length ≤ 100000 := by rw [htk, List.length_take]; omega
 rw [← htk] at HNm htr
 rw [← hr] at hdr
 have hz0 : (0 : Int) ≤ (runL T : Int) := by omega
 generalize runL T = k at HRn htr hdr hz0
 have H := Kept.mk h
 have HLl := Kept.mk hl
 clear h hs hl ho hT htk hr hk hTl
 obtain ⟨S, hS⟩ : ∃ S, S = bs T := ⟨_, rfl⟩
 have HSS := Kept.mk hS
 rw [← hS] at HRn htr hdr
 have HTx : Kept (∀ w', QM w' b T l 0 → w'.cell? ⟨b, 0, none⟩ = some (.string S) ∧ w'.frozen? ⟨b, 0, none⟩ = false ∧ QM (w'.setCell ⟨b, 0, none⟩ (.string (bs r))) b r l 0 ∧ Only (· = b) w' (w'.setCell ⟨b, 0, none⟩ (.string (bs r)))) := ⟨fun w' h => ⟨by rw [hS]; exact h.c0, h.fz 0, h.text r⟩⟩
 clear hS HSS
 by_cases he : tk = []
 · have HV : Kept (leafV live tk l = none) := ⟨by unfold leafV; rw [if_pos he]⟩
   rw [HV.out]
   subst he
   have hE := empty_beq
   generalize bs [] = K at htr hE HNm
   have HF : Kept (∀ w', QM w' b r l 0 → _) := ⟨fun w' h => fail_any w' b r l 0 130 h⟩
   go_enter Tryz.func125, Tryz.ntmps125
   go_wp2_with (first
     | (go_at_call 88; refine (HTk.out _ H.out).mono ?_; rintro e w1 ⟨rfl, h1, h2⟩
        have HO1 := h2; have HX := Kept.mk (HTx.out _ h1.out); have c0 := HX.out.1; have f0 := HX.out.2.1; clear h1 h2)
     | (go_at_call 143; refine (HRn.out _).mono ?_; rintro e w2 ⟨rfl, rfl⟩)
     | (go_at_call 47; refine (HF.out _ HX.out.2.2.1).mono ?_; rintro e w3 ⟨rfl, h3, h4⟩; have H3 := h3; have H4 := h4; clear h3 h4))
   go_ret
   exact ⟨rfl, H3, ⟨(HO1.out.trans HX.out.2.2.2 (fun i _ h => h)).trans H4.out (fun i _ h => h)⟩⟩
 · have hE := full_beq he
   have HNu : Kept (∀ w, _) := ⟨fun w => number_any tk w (by omega)⟩
   cases hnm : isNm tk with
   | false =>
     have HV : Kept (leafV live tk l = (litV tk).map fun n : Nat => (n : Int)) := ⟨by unfold leafV; rw [if_neg he, if_neg (by rw [hnm]; decide)]⟩
     rw [HV.out]
     rw [hnm] at HNm
     cases hlv : litV tk with
     | none =>
       rw [hlv] at HNu
       generalize bs tk = K at htr hE HNm HNu
       have HF : Kept (∀ w', QM w' b r l 0 → _) := ⟨fun w' h => fail_any w' b r l 0 130 h⟩
       clear HV hlv hnm
       go_enter Tryz.func125, Tryz.ntmps125
       go_wp2_with (first
         | (go_at_call 88; refine (HTk.out _ H.out).mono ?_; rintro e w1 ⟨rfl, h1, h2⟩
            have HO1 := h2; have HX := Kept.mk (HTx.out _ h1.out); have c0 := HX.out.1; have f0 := HX.out.2.1; clear h1 h2)
         | (go_at_call 143; refine (HRn.out _).mono ?_; rintro e w2 ⟨rfl, rfl⟩)
         | (go_at_call 34; refine (HNm.out _).mono ?_; rintro e w2 ⟨rfl, rfl⟩)
         | (go_at_call 110; refine (HNu.out _).mono ?_; rintro e w2 ⟨rfl, rfl⟩)
         | (go_at_call 47; refine (HF.out _ HX.out.2.2.1).mono ?_; rintro e w3 ⟨rfl, h3, h4⟩; have H3 := h3; have H4 := h4; clear h3 h4))
       go_ret
       exact ⟨rfl, H3, ⟨(HO1.out.trans HX.out.2.2.2 (fun i _ h => h)).trans H4.out (fun i _ h => h)⟩⟩
     | some n =>
       rw [hlv] at HNu
       generalize bs tk = K at htr hE HNm HNu
       clear HV hlv hnm
       go_enter Tryz.func125, Tryz.ntmps125
       go_wp2_with (first
         | (go_at_call 88; refine (HTk.out _ H.out).mono ?_; rintro e w1 ⟨rfl, h1, h2⟩
            have HO1 := h2; have HX := Kept.mk (HTx.out _ h1.out); have c0 := HX.out.1; have f0 := HX.out.2.1; clear h1 h2)
         | (go_at_call 143; refine (HRn.out _).mono ?_; rintro e w2 ⟨rfl, rfl⟩)
         | (go_at_call 34; refine (HNm.out _).mono ?_; rintro e w2 ⟨rfl, rfl⟩)
         | (go_at_call 110; refine (HNu.out _).mono ?_; rintro e w2 ⟨rfl, rfl⟩))
       go_ret
       exact ⟨rfl, ⟨HX.out.2.2.1⟩, ⟨HO1.out.trans HX.out.2.2.2 (fun i _ h => h)⟩⟩
   | true =>
     rw [hnm] at HNm
     cases live with
     | false =>
       have HV : Kept (leafV false tk l = some 0) := ⟨by unfold leafV; rw [if_neg he, if_pos hnm, if_neg (by decide)]⟩
       rw [HV.out]
       generalize bs tk = K at htr hE HNm HNu
       have HG : Kept (∀ w', QM w' b r l 0 → _) := ⟨fun w' h => get_dead w' b r l 0 K false h (.inl rfl)⟩
       clear HV hnm HNu
       go_enter Tryz.func125, Tryz.ntmps125
       go_wp2_with (first
         | (go_at_call 88; refine (HTk.out _ H.out).mono ?_; rintro e w1 ⟨rfl, h1, h2⟩
            have HO1 := h2; have HX := Kept.mk (HTx.out _ h1.out); have c0 := HX.out.1; have f0 := HX.out.2.1; clear h1 h2)
         | (go_at_call 143; refine (HRn.out _).mono ?_; rintro e w2 ⟨rfl, rfl⟩)
         | (go_at_call 34; refine (HNm.out _).mono ?_; rintro e w2 ⟨rfl, rfl⟩)
         | (go_at_call 68; refine (HG.out _ HX.out.2.2.1).mono ?_; rintro e w3 ⟨rfl, rfl⟩))
       go_ret
       exact ⟨rfl, ⟨HX.out.2.2.1⟩, ⟨HO1.out.trans HX.out.2.2.2 (fun i _ h => h)⟩⟩
     | true =>
       have HV : Kept (leafV true tk l = valV (toL (getD l (bs tk)).value)) := ⟨by unfold leafV; rw [if_neg he, if_pos hnm, if_pos rfl]⟩
       rw [HV.out]
       generalize bs tk = K at htr hE HNm HNu ⊢
       have HG : Kept (∀ w', QM w' b r l 0 → _) := ⟨fun w' h => get_live w' b r l K h HLl.out⟩
       clear HV hnm HNu
       go_enter Tryz.func125, Tryz.ntmps125
       go_wp2_with (first
         | (go_at_call 88; refine (HTk.out _ H.out).mono ?_; rintro e w1 ⟨rfl, h1, h2⟩
            have HO1 := h2; have HX := Kept.mk (HTx.out _ h1.out); have c0 := HX.out.1; have f0 := HX.out.2.1; clear h1 h2)
         | (go_at_call 143; refine (HRn.out _).mono ?_; rintro e w2 ⟨rfl, rfl⟩)
         | (go_at_call 34; refine (HNm.out _).mono ?_; rintro e w2 ⟨rfl, rfl⟩)
         | (go_at_call 68; refine (HG.out _ HX.out.2.2.1).mono ?_; rintro e w3 ⟨rfl, h3, h4⟩; have H3 := h3; have H4 := h4; clear h3 h4))
       go_ret
       exact ⟨rfl, H3, ⟨(HO1.out.trans HX.out.2.2.2 (fun i _ h => h)).trans H4.out (fun i _ h => h)⟩⟩
end Ar
end Go.Proofs.YtlggpefmojacoaaGreatDoor
end
section
namespace Go.Proofs.YtlggpefmojacoaaGreatDoor
open Go.RowKit Tx
namespace Ar
open Va (Vr VS getD Sorted)

def asgS : List Tok := [[61], [43, 61], [45, 61], [42, 61], [47, 61], [37, 61]]
theorem qm_new (w : World) (t : List UInt8) : QM (w.alloc (.cells #[.string (bs t), .slice none 0 0, .int .i64 0] 66)) w.heap.size t [] 0 :=
 ⟨⟨none, 0, heap_alloc_new w _, VS.empty _⟩, ⟨List.Pairwise.nil, fun v hv => by cases hv⟩⟩
theorem only_new {w w1 w2 : World} {g : Nat} (h : Only (· = g) w1 w2) (hg : w.heap.size ≤ g) (hb : Below w.heap.size w w1) : Below w.heap.size w w2 :=
 hb.trans ⟨h.os, h.tape, h.output, h.size, fun k hk => h.block k (by have := hb.size; omega) (fun e => by omega)⟩
set_option maxHeartbeats 4000000 in
set_option maxRecDepth 100000 in
theorem assigns_no (w : World) (b : Nat) (s T R : List UInt8) (l : List Vr) (c : Int) (h : QM w b s l c) (hs : s.length ≤ 100000) (hT : T = trim s) (hR : R = T.drop (Wx.nameL T)) (ho : opS (trim R) ∉ asgS) :
   Calls Tryz.prog 66 #[.pointer (some ⟨b, 0, none⟩)] w fun e w' => e = .returned (.tuple #[.string ⟨#[]⟩, .string ⟨#[]⟩]) ∧ Kept (QM w' b T l c) ∧ Kept (Only (· = b) w w') := by
 have HSp : Kept (∀ w, QM w b s l c → _) := ⟨fun w h => space_any w b s l c h⟩
 rw [← hT] at HSp
 have hTl : T.length ≤ 100000 := by have := trim_le s; rw [hT]; omega
 have hml : Wx.nameL T ≤ T.length := Wx.nameL_le T
 have hRl : R.length ≤ 100000 := by rw [hR, List.length_drop]; omega
 have HNm : Kept (∀ w, _) := ⟨fun w => Wx.name_any (bs T) w (by rw [bs_size]; omega) (Wx.nameL T) (by rw [toL_bs])⟩
 have hdr := drop_run T (Wx.nameL T) hml
 rw [← hR] at hdr
 have HOp : Kept (∀ w g, QM w g R [] 0 → _) := ⟨fun w g h => op_any w g R [] 0 h hRl⟩
 have hE : ∀ o ∈ asgS, ((bs (opS (trim R))).toList == o) = false := fun o ho2 => by
   rw [ByteArray.toList_eq]
   show (toL (bs (opS (trim R))) == o) = false
   rw [toL_bs, beq_eq_false_iff_ne]
   rintro rfl
   exact ho ho2
 simp only [asgS, List.forall_mem_cons] at hE
 obtain ⟨e1, e2, e3, e4, e5, e6⟩ := hE
 have hz0 : (0 : Int) ≤ (Wx.nameL T : Int) := by omega
 generalize Wx.nameL T = m at HNm hdr hz0
 generalize bs (opS (trim R)) = O at HOp e1 e2 e3 e4 e5 e6
 have HQN : Kept (∀ w', QM (World.alloc w' (.cells #[.string (bs R), .slice none 0 0, .int .i64 0] 66)) w'.heap.size R [] 0) := ⟨fun w' => qm_new w' R⟩
 have HC0 : Kept (∀ w', QM w' b T l c → w'.cell? ⟨b, 0, none⟩ = some (.string (bs T))) := ⟨fun w' h => h.c0⟩
 obtain ⟨S, hS⟩ : ∃ S, S = bs T := ⟨_, rfl⟩
 obtain ⟨X, hX⟩ : ∃ X, X = bs R := ⟨_, rfl⟩
 rw [← hS] at HNm hdr HC0
 rw [← hX] at hdr HQN
 have H := Kept.mk h
 clear h hs hT hR ho hTl hml hRl hS hX
 go_enter Tryz.func66, Tryz.ntmps66
 go_wp2_with (first
   | (go_at_call 45; refine (HSp.out _ H.out).mono ?_; rintro e w1 ⟨rfl, h1, h2⟩; have H1 := h1; have HO1 := h2; have c0 := HC0.out _ h1.out; clear h1 h2)
   | (go_at_call 48; refine (HNm.out _).mono ?_; rintro e w2 ⟨rfl, rfl⟩)
   | (go_at_call 86; refine (HOp.out _ _ (HQN.out w1)).mono ?_; rintro e w3 ⟨rfl, h3, h4⟩; have HB := Kept.mk (only_new h4.out (Nat.le_refl _) ((Below.refl _ _).alloc (Nat.le_refl _) _)); clear h3 h4))
 go_ret2
 exact ⟨rfl, ⟨H1.out.below HB.out⟩, ⟨HO1.out.below HB.out⟩⟩
end Ar
end Go.Proofs.YtlggpefmojacoaaGreatDoor
end
section
namespace Go.Proofs.YtlggpefmojacoaaGreatDoor
open Go.RowKit Tx
namespace Va
set_option maxHeartbeats 1000000 in
set_option maxRecDepth 100000 in
theorem refPut_any (l : List Vr) (A : Option Addr) (ln k : Nat) (v : Vr) (w : World) (hV : VS w A k l) (hn : l.length = ln) (hl : ln ≤ 100000) :
   Calls Tryz.prog 36 #[.slice A ln k, .agg #[.string v.name, .string v.value, .bool v.ex, .bool v.ro]] w fun e w' => ∃ A2 n2 k2, e = .returned (.slice A2 n2 k2) ∧ Kept (VO w' w.heap.size (.slice A2 n2 k2) (put l v.name [v])) ∧ n2 = (put l v.name [v]).length ∧ Below w.heap.size w w' := by
 have HC := Kept.mk (Cut.of l v.name)
 rw [hn] at HC
 obtain ⟨p, hp⟩ : ∃ p, p = pos l v.name := ⟨_, rfl⟩
 obtain ⟨b, hb⟩ : ∃ b, b = found l v.name := ⟨_, rfl⟩
 obtain ⟨q, hq⟩ : ∃ q, q = p + if b then 1 else 0 := ⟨_, rfl⟩
 rw [← hp, ← hb, ← hq] at HC
 have hple := pos_le l v.name
 rw [← hp, hn] at hple
 have hqle := HC.out.le
 have HP : Kept (put l v.name [v] = l.take p ++ [v] ++ l.drop q) := ⟨by rw [put_cut, ← hp, ← hb, ← hq]⟩
 obtain ⟨A1, k1, r1, h1⟩ := hV.take (n := ln) p (by omega)
 obtain ⟨m, hm⟩ : ∃ m, (l.drop q).length = m := ⟨_, rfl⟩
 obtain ⟨A2, k2, r2, h2⟩ := hV.drop (n := ln) q m (by omega) hn hm
 have hml : m + q = ln := by rw [List.length_drop, hn] at hm; omega
 have HV := Kept.mk hV
 have H1 := Kept.mk h1
 have H2 := Kept.mk h2
 have HM := Kept.mk hm
 have HN := Kept.mk hn
 have hlp : (l.take p).length = p := by rw [List.length_take]; omega
 have HLP := Kept.mk hlp
 rw [HP.out]
 have HQ := Kept.mk hq
 clear hV h1 h2 hm hn hlp hq hp hb HP
 have z0 : (0 : Int) ≤ (p : Int) := by omega
 have hw1 : IntKind.i64.wrap ((p : Int) + 1) = (p : Int) + 1 := IntWalk.i64_in _ (by omega)
 have HX0 := Kept.mk (VX.begin w v)
 have HV0 := Kept.mk (HV.out.below HX0.out.bl)
 have c0 := HX0.out.c0
 have T1 : Kept True := ⟨trivial⟩
 have T2 : Kept True := ⟨trivial⟩
 have T3 : Kept True := ⟨trivial⟩
 have hpm : p + 1 + m ≤ 300000 := by omega
 have e2 : ((q : Nat) : Int) = if b then (p : Int) + 1 else (p : Int) := by rw [HQ.out]; cases b <;> simp
 rw [e2] at r2
 clear e2
 cases b
 all_goals
   simp only [if_true, Bool.false_eq_true, if_false] at r2
   go_enter Tryz.func36, Tryz.ntmps36
   go_wp2_with (first
     | (go_at_call 49; refine (find_any l A ln k v.name _ HV0.out HN.out hl p _ HC.out.pos HC.out.fnd).mono ?_; rintro e w1 ⟨rfl, hb1⟩
        have HX1 := Kept.mk (HX0.out.below hb1)
        have HA1 := Kept.mk (H1.out.below HX1.out.bl)
        have HA2 := Kept.mk (H2.out.below HX1.out.bl)
        clear hb1)
     | (at_builtin; have := T1
        refine wpList_append_vars rfl _ _ rfl rfl rfl (VO.empty w1 w1.heap.size) (ln := 0) rfl HA1.out HLP.out (Nat.le_refl _) (by omega) ?_
        clear T1; intro B1 kk1 nn1 w2 hnn1 hO1 hb2
        have HX2 := Kept.mk (HX1.out.below hb2)
        have HB2 : Kept (Below w1.heap.size w1 w2) := ⟨hb2⟩
        have HA3 := Kept.mk (HA2.out.below hb2)
        have hnn : nn1 ≤ 100000 := by have := hnn1.out; omega
        clear hb2)
     | (refine wpList_load_row rfl 31 _ rfl w.heap.size rfl 31 #[.string v.name, .string v.value, .bool v.ex, .bool v.ro] (0, 0) _ HX2.out.r Tryz.underlying31 rfl (by kernel_rfl) ?_)
     | (at_builtin; have := T2
        refine wpList_append_vars rfl _ _ rfl rfl rfl (hO1.out.grow (.cells #[.string v.name, .string v.value, .bool v.ex, .bool v.ro] 31)) (ln := nn1) (by rw [List.nil_append, HLP.out]; have := hnn1.out; omega) (VS.fresh w2 v _ 31 rfl) rfl (by have := HB2.out.size; simp; omega) (by omega) ?_
        clear T2; intro B2 kk2 nn2 w3 hnn2 hO2 hb3
        have HB3 : Kept (Below w1.heap.size w1 w3) := ⟨(HB2.out.alloc HB2.out.size _).trans (hb3.mono (Nat.le_refl _))⟩
        have HA4 := Kept.mk (HA2.out.below HB3.out)
        clear hb3)
     | (at_builtin; have := T3
        refine wpList_append_vars rfl _ _ rfl rfl rfl hO2.out (ln := nn2) (by simp only [List.nil_append, List.length_append, HLP.out, List.length_singleton]; have := hnn1.out; have := hnn2.out; omega) HA4.out HM.out HB3.out.size (by have := hnn1.out; have := hnn2.out; omega) ?_
        clear T3; intro B3 kk3 nn3 w4 hnn3 hO3 hb4
        have HB4 : Kept (Below w1.heap.size w1 w4) := ⟨HB3.out.trans hb4⟩
        clear hb4))
   go_ret
   exact ⟨_, _, _, rfl, ⟨hO3.out.more HX1.out.bl.size⟩, hO3.out.vs.2, HX1.out.bl.trans (HB4.out.mono HX1.out.bl.size)⟩
set_option maxHeartbeats 2000000 in
set_option maxRecDepth 100000 in
theorem refSet_any (l : List Vr) (A : Option Addr) (ln k : Nat) (n x : ByteArray) (w : World) (hV : VS w A k l) (hn : l.length = ln) (hl : ln ≤ 100000) (hns : n.size ≤ 1000000) :
   Calls Tryz.prog 23 #[.slice A ln k, .string n, .string x] w (SEnd w (set l n x)) := by
 have HV := Kept.mk hV
 have HN := Kept.mk hn
 clear hV hn
 by_cases hi : isName n = true
 · have HI := Kept.mk hi
   obtain ⟨b, hb⟩ : ∃ b, found l n = b := ⟨_, rfl⟩
   obtain ⟨v, hv⟩ : ∃ v, getD l n = v := ⟨_, rfl⟩
   have HB := Kept.mk hb
   have HD := Kept.mk hv
   have HS : Kept (set l n x = if v.ro = true then .error 150 else .ok (put l n [⟨n, x, v.ex, v.ro⟩])) := ⟨by unfold set; rw [hi, hv]; rfl⟩
   rw [HS.out]
   clear hi hb hv HS
   obtain ⟨ro, hro⟩ : ∃ ro, ro = v.ro := ⟨_, rfl⟩
   have HRo : Kept (v.ro = ro) := ⟨hro.symm⟩
   rw [HRo.out]
   clear hro
   cases ro with
   | true =>
     rw [if_pos rfl]
     have T1 : Kept True := ⟨trivial⟩
     go_enter Tryz.func23, Tryz.ntmps23
     go_wp2_with (first
       | (go_at_call 34; refine (isName_any n w hns true HI.out).mono ?_; rintro e w0 ⟨rfl, rfl⟩)
       | (go_at_call 35; refine (refGet_any l A ln k n w HV.out HN.out hl v b HD.out HB.out).mono ?_; rintro e w1 ⟨rfl, hb1⟩
          have HX := Kept.mk (VX.zero hb1); clear hb1)
       | (have := T1; refine wpList_store_row rfl 31 _ _ rfl _ _ rfl rfl 31 _ HX.out.r (by kernel_rfl) rfl (by simp [Value.oneCell']) ?_
          clear T1
          have HO := Kept.mk (HX.out.row v)
          generalize World.setRow _ _ _ = W at HO ⊢
          have c3 := HO.out.c3
          rw [HRo.out] at c3))
     go_ret2
     exact ⟨_, _, _, rfl, rfl, ⟨VS.empty _⟩, HO.out.bl⟩
   | false =>
     rw [if_neg (by decide)]
     have T1 : Kept True := ⟨trivial⟩
     go_enter Tryz.func23, Tryz.ntmps23
     go_wp2_with (first
       | (go_at_call 34; refine (isName_any n w hns true HI.out).mono ?_; rintro e w0 ⟨rfl, rfl⟩)
       | (go_at_call 35; refine (refGet_any l A ln k n w HV.out HN.out hl v b HD.out HB.out).mono ?_; rintro e w1 ⟨rfl, hb1⟩
          have HX := Kept.mk (VX.zero hb1); clear hb1)
       | (have := T1; refine wpList_store_row rfl 31 _ _ rfl _ _ rfl rfl 31 _ HX.out.r (by kernel_rfl) rfl (by simp [Value.oneCell']) ?_
          clear T1
          have HO := Kept.mk (HX.out.row v)
          generalize World.setRow _ _ _ = W at HO ⊢
          have c3 := HO.out.c3
          rw [HRo.out] at c3
          have c0 := HO.out.c0
          have f0 := HO.out.f0
          have HO2 : Kept (VX w (W.setCell ⟨w1.heap.size, 0, none⟩ (.string n)) w1.heap.size ⟨n, v.value, v.ex, v.ro⟩) := ⟨HO.out.set rfl⟩
          have c1 := HO2.out.c1
          have f1 := HO2.out.f1
          have HO3 : Kept (VX w ((W.setCell ⟨w1.heap.size, 0, none⟩ (.string n)).setCell ⟨w1.heap.size, 1, none⟩ (.string x)) w1.heap.size ⟨n, x, v.ex, v.ro⟩) := ⟨HO2.out.set rfl⟩)
       | (have := HO3; refine wpList_load_row rfl 31 _ rfl w1.heap.size rfl 31 #[.string n, .string x, .bool v.ex, .bool v.ro] (0, 0) _ HO3.out.r Tryz.underlying31 rfl (by kernel_rfl) ?_)
       | (go_at_call 36; refine (refPut_any l A ln k ⟨n, x, v.ex, v.ro⟩ _ (HV.out.below HO3.out.bl) HN.out hl).mono ?_; rintro e w4 ⟨A2, n2, k2, rfl, hO, hn2, hb4⟩
          have HN2 := Kept.mk hn2
          have HB4 := Kept.mk (HO3.out.bl.trans (hb4.mono HO3.out.bl.size))
          clear hn2 hb4))
     go_ret2
     rw [HRo.out] at hO HN2
     exact ⟨_, _, _, rfl, HN2.out, ⟨hO.out.vs.1⟩, HB4.out⟩
 · have hi : isName n = false := by simpa using hi
   have HI := Kept.mk hi
   have HS : Kept (set l n x = .error 1) := ⟨by unfold set; rw [hi]; rfl⟩
   rw [HS.out]
   clear hi HS
   go_enter Tryz.func23, Tryz.ntmps23
   go_wp2_with (go_at_call 34; refine (isName_any n w hns false HI.out).mono ?_; rintro e w0 ⟨rfl, rfl⟩)
   go_ret2
   exact ⟨_, _, _, rfl, rfl, ⟨VS.empty _⟩, Below.refl _ _⟩
end Va
end Go.Proofs.YtlggpefmojacoaaGreatDoor
end
section
namespace Go.Proofs.YtlggpefmojacoaaGreatDoor
open Go.RowKit Tx
namespace Ar
open Va (Vr VS getD Sorted)

theorem lit_beq2 (o L : Tok) : ((bs o).toList == L) = decide (o = L) := by
 rw [ByteArray.toList_eq]
 show (toL (bs o) == L) = _
 rw [toL_bs]
 by_cases h : o = L
 · rw [decide_eq_true h, h]; simp
 · rw [decide_eq_false h, beq_eq_false_iff_ne]; exact h
set_option maxHeartbeats 4000000 in
set_option maxRecDepth 100000 in
theorem assigns_none (w : World) (b : Nat) (s T R : List UInt8) (l : List Vr) (c : Int) (h : QM w b s l c) (hs : s.length ≤ 100000) (hT : T = trim s) (hR : R = T.drop (Wx.nameL T)) (ho : opS (trim R) ∈ asgS) (hm : Wx.nameL T = 0) :
   Calls Tryz.prog 66 #[.pointer (some ⟨b, 0, none⟩)] w fun e w' => e = .returned (.tuple #[.string ⟨#[]⟩, .string ⟨#[]⟩]) ∧ Kept (QM w' b T l c) ∧ Kept (Only (· = b) w w') := by
 have HSp : Kept (∀ w, QM w b s l c → _) := ⟨fun w h => space_any w b s l c h⟩
 rw [← hT] at HSp
 have hTl : T.length ≤ 100000 := by have := trim_le s; rw [hT]; omega
 have hml : Wx.nameL T ≤ T.length := Wx.nameL_le T
 have hRl : R.length ≤ 100000 := by rw [hR, List.length_drop]; omega
 have HNm : Kept (∀ w, _) := ⟨fun w => Wx.name_any (bs T) w (by rw [bs_size]; omega) (Wx.nameL T) (by rw [toL_bs])⟩
 have hdr := drop_run T (Wx.nameL T) hml
 rw [← hR] at hdr
 have HOp : Kept (∀ w g, QM w g R [] 0 → _) := ⟨fun w g h => op_any w g R [] 0 h hRl⟩
 have hz0 : (0 : Int) ≤ (Wx.nameL T : Int) := by omega
 have hz1 : decide ((0 : Int) < (Wx.nameL T : Int)) = false := decide_eq_false (by omega)
 have hz2 : ¬ (0 : Int) < (Wx.nameL T : Int) := by omega
 generalize Wx.nameL T = m at HNm hdr hz0 hz1 hz2
 generalize opS (trim R) = o at HOp ho
 have HQN : Kept (∀ w', QM (World.alloc w' (.cells #[.string (bs R), .slice none 0 0, .int .i64 0] 66)) w'.heap.size R [] 0) := ⟨fun w' => qm_new w' R⟩
 have HC0 : Kept (∀ w', QM w' b T l c → w'.cell? ⟨b, 0, none⟩ = some (.string (bs T))) := ⟨fun w' h => h.c0⟩
 obtain ⟨S, hS⟩ : ∃ S, S = bs T := ⟨_, rfl⟩
 obtain ⟨X, hX⟩ : ∃ X, X = bs R := ⟨_, rfl⟩
 rw [← hS] at HNm hdr HC0
 rw [← hX] at hdr HQN
 have H := Kept.mk h
 have E0 := lit_beq2 o [61]
 have E1 := lit_beq2 o [43, 61]
 have E2 := lit_beq2 o [45, 61]
 have E3 := lit_beq2 o [42, 61]
 have E4 := lit_beq2 o [47, 61]
 have E5 := lit_beq2 o [37, 61]
 generalize bs o = O at HOp E0 E1 E2 E3 E4 E5
 clear h hs hT hR hm hTl hml hRl hS hX
 simp only [asgS, List.mem_cons, List.not_mem_nil, or_false] at ho
 rcases ho with rfl | rfl | rfl | rfl | rfl | rfl
 · have F0 : (O.toList == [61]) = true := E0.trans (by decide)
   have F1 : (O.toList == [43, 61]) = false := E1.trans (by decide)
   have F2 : (O.toList == [45, 61]) = false := E2.trans (by decide)
   have F3 : (O.toList == [42, 61]) = false := E3.trans (by decide)
   have F4 : (O.toList == [47, 61]) = false := E4.trans (by decide)
   have F5 : (O.toList == [37, 61]) = false := E5.trans (by decide)
   clear E0 E1 E2 E3 E4 E5
   go_enter Tryz.func66, Tryz.ntmps66
   go_wp2_with fail
   go_at_call 45
   refine (HSp.out _ H.out).mono ?_
   rintro e w1 ⟨rfl, h1, h2⟩
   have H1 := h1
   have HO1 := h2
   have c0 := HC0.out _ h1.out
   clear h1 h2
   go_wp2_with fail
   go_at_call 48
   refine (HNm.out _).mono ?_
   rintro e w2 ⟨rfl, rfl⟩
   go_wp2_with fail
   go_at_call 86
   refine (HOp.out _ _ (HQN.out w1)).mono ?_
   rintro e w3 ⟨rfl, h3, h4⟩
   have HB := Kept.mk (only_new h4.out (Nat.le_refl _) ((Below.refl _ _).alloc (Nat.le_refl _) _))
   clear h3 h4
   go_wp2_with fail
   go_ret2
   exact ⟨rfl, ⟨H1.out.below HB.out⟩, ⟨HO1.out.below HB.out⟩⟩
 · have F0 : (O.toList == [61]) = false := E0.trans (by decide)
   have F1 : (O.toList == [43, 61]) = true := E1.trans (by decide)
   have F2 : (O.toList == [45, 61]) = false := E2.trans (by decide)
   have F3 : (O.toList == [42, 61]) = false := E3.trans (by decide)
   have F4 : (O.toList == [47, 61]) = false := E4.trans (by decide)
   have F5 : (O.toList == [37, 61]) = false := E5.trans (by decide)
   clear E0 E1 E2 E3 E4 E5
   go_enter Tryz.func66, Tryz.ntmps66
   go_wp2_with fail
   go_at_call 45
   refine (HSp.out _ H.out).mono ?_
   rintro e w1 ⟨rfl, h1, h2⟩
   have H1 := h1
   have HO1 := h2
   have c0 := HC0.out _ h1.out
   clear h1 h2
   go_wp2_with fail
   go_at_call 48
   refine (HNm.out _).mono ?_
   rintro e w2 ⟨rfl, rfl⟩
   go_wp2_with fail
   go_at_call 86
   refine (HOp.out _ _ (HQN.out w1)).mono ?_
   rintro e w3 ⟨rfl, h3, h4⟩
   have HB := Kept.mk (only_new h4.out (Nat.le_refl _) ((Below.refl _ _).alloc (Nat.le_refl _) _))
   clear h3 h4
   go_wp2_with fail
   go_ret2
   exact ⟨rfl, ⟨H1.out.below HB.out⟩, ⟨HO1.out.below HB.out⟩⟩
 · have F0 : (O.toList == [61]) = false := E0.trans (by decide)
   have F1 : (O.toList == [43, 61]) = false := E1.trans (by decide)
   have F2 : (O.toList == [45, 61]) = true := E2.trans (by decide)
   have F3 : (O.toList == [42, 61]) = false := E3.trans (by decide)
   have F4 : (O.toList == [47, 61]) = false := E4.trans (by decide)
   have F5 : (O.toList == [37, 61]) = false := E5.trans (by decide)
   clear E0 E1 E2 E3 E4 E5
   go_enter Tryz.func66, Tryz.ntmps66
   go_wp2_with fail
   go_at_call 45
   refine (HSp.out _ H.out).mono ?_
   rintro e w1 ⟨rfl, h1, h2⟩
   have H1 := h1
   have HO1 := h2
   have c0 := HC0.out _ h1.out
   clear h1 h2
   go_wp2_with fail
   go_at_call 48
   refine (HNm.out _).mono ?_
   rintro e w2 ⟨rfl, rfl⟩
   go_wp2_with fail
   go_at_call 86
   refine (HOp.out _ _ (HQN.out w1)).mono ?_
   rintro e w3 ⟨rfl, h3, h4⟩
   have HB := Kept.mk (only_new h4.out (Nat.le_refl _) ((Below.refl _ _).alloc (Nat.le_refl _) _))
   clear h3 h4
   go_wp2_with fail
   go_ret2
   exact ⟨rfl, ⟨H1.out.below HB.out⟩, ⟨HO1.out.below HB.out⟩⟩
 · have F0 : (O.toList == [61]) = false := E0.trans (by decide)
   have F1 : (O.toList == [43, 61]) = false := E1.trans (by decide)
   have F2 : (O.toList == [45, 61]) = false := E2.trans (by decide)
   have F3 : (O.toList == [42, 61]) = true := E3.trans (by decide)
   have F4 : (O.toList == [47, 61]) = false := E4.trans (by decide)
   have F5 : (O.toList == [37, 61]) = false := E5.trans (by decide)
   clear E0 E1 E2 E3 E4 E5
   go_enter Tryz.func66, Tryz.ntmps66
   go_wp2_with fail
   go_at_call 45
   refine (HSp.out _ H.out).mono ?_
   rintro e w1 ⟨rfl, h1, h2⟩
   have H1 := h1
   have HO1 := h2
   have c0 := HC0.out _ h1.out
   clear h1 h2
   go_wp2_with fail
   go_at_call 48
   refine (HNm.out _).mono ?_
   rintro e w2 ⟨rfl, rfl⟩
   go_wp2_with fail
   go_at_call 86
   refine (HOp.out _ _ (HQN.out w1)).mono ?_
   rintro e w3 ⟨rfl, h3, h4⟩
   have HB := Kept.mk (only_new h4.out (Nat.le_refl _) ((Below.refl _ _).alloc (Nat.le_refl _) _))
   clear h3 h4
   go_wp2_with fail
   go_ret2
   exact ⟨rfl, ⟨H1.out.below HB.out⟩, ⟨HO1.out.below HB.out⟩⟩
 · have F0 : (O.toList == [61]) = false := E0.trans (by decide)
   have F1 : (O.toList == [43, 61]) = false := E1.trans (by decide)
   have F2 : (O.toList == [45, 61]) = false := E2.trans (by decide)
   have F3 : (O.toList == [42, 61]) = false := E3.trans (by decide)
   have F4 : (O.toList == [47, 61]) = true := E4.trans (by decide)
   have F5 : (O.toList == [37, 61]) = false := E5.trans (by decide)
   clear E0 E1 E2 E3 E4 E5
   go_enter Tryz.func66, Tryz.ntmps66
   go_wp2_with fail
   go_at_call 45
   refine (HSp.out _ H.out).mono ?_
   rintro e w1 ⟨rfl, h1, h2⟩
   have H1 := h1
   have HO1 := h2
   have c0 := HC0.out _ h1.out
   clear h1 h2
   go_wp2_with fail
   go_at_call 48
   refine (HNm.out _).mono ?_
   rintro e w2 ⟨rfl, rfl⟩
   go_wp2_with fail
   go_at_call 86
   refine (HOp.out _ _ (HQN.out w1)).mono ?_
   rintro e w3 ⟨rfl, h3, h4⟩
   have HB := Kept.mk (only_new h4.out (Nat.le_refl _) ((Below.refl _ _).alloc (Nat.le_refl _) _))
   clear h3 h4
   go_wp2_with fail
   go_ret2
   exact ⟨rfl, ⟨H1.out.below HB.out⟩, ⟨HO1.out.below HB.out⟩⟩
 · have F0 : (O.toList == [61]) = false := E0.trans (by decide)
   have F1 : (O.toList == [43, 61]) = false := E1.trans (by decide)
   have F2 : (O.toList == [45, 61]) = false := E2.trans (by decide)
   have F3 : (O.toList == [42, 61]) = false := E3.trans (by decide)
   have F4 : (O.toList == [47, 61]) = false := E4.trans (by decide)
   have F5 : (O.toList == [37, 61]) = true := E5.trans (by decide)
   clear E0 E1 E2 E3 E4 E5
   go_enter Tryz.func66, Tryz.ntmps66
   go_wp2_with fail
   go_at_call 45
   refine (HSp.out _ H.out).mono ?_
   rintro e w1 ⟨rfl, h1, h2⟩
   have H1 := h1
   have HO1 := h2
   have c0 := HC0.out _ h1.out
   clear h1 h2
   go_wp2_with fail
   go_at_call 48
   refine (HNm.out _).mono ?_
   rintro e w2 ⟨rfl, rfl⟩
   go_wp2_with fail
   go_at_call 86
   refine (HOp.out _ _ (HQN.out w1)).mono ?_
   rintro e w3 ⟨rfl, h3, h4⟩
   have HB := Kept.mk (only_new h4.out (Nat.le_refl _) ((Below.refl _ _).alloc (Nat.le_refl _) _))
   clear h3 h4
   go_wp2_with fail
   go_ret2
   exact ⟨rfl, ⟨H1.out.below HB.out⟩, ⟨HO1.out.below HB.out⟩⟩
set_option maxHeartbeats 4000000 in
set_option maxRecDepth 100000 in
theorem assigns_yes (w : World) (b : Nat) (s T R : List UInt8) (l : List Vr) (c : Int) (h : QM w b s l c) (hs : s.length ≤ 100000) (hT : T = trim s) (hR : R = T.drop (Wx.nameL T)) (o : Tok) (ho : o ∈ asgS) (hoe : opS (trim R) = o) (hm : 0 < Wx.nameL T) :
   Calls Tryz.prog 66 #[.pointer (some ⟨b, 0, none⟩)] w fun e w' => e = .returned (.tuple #[.string (bs (T.take (Wx.nameL T))), .string (bs o)]) ∧ Kept (QM w' b ((trim R).drop o.length) l c) ∧ Kept (Only (· = b) w w') := by
 have HSp : Kept (∀ w, QM w b s l c → _) := ⟨fun w h => space_any w b s l c h⟩
 rw [← hT] at HSp
 have hTl : T.length ≤ 100000 := by have := trim_le s; rw [hT]; omega
 have hml : Wx.nameL T ≤ T.length := Wx.nameL_le T
 have hRl : R.length ≤ 100000 := by rw [hR, List.length_drop]; omega
 have HNm : Kept (∀ w, _) := ⟨fun w => Wx.name_any (bs T) w (by rw [bs_size]; omega) (Wx.nameL T) (by rw [toL_bs])⟩
 have hdr := drop_run T (Wx.nameL T) hml
 rw [← hR] at hdr
 have HOp : Kept (∀ w g, QM w g R [] 0 → _) := ⟨fun w g h => op_any w g R [] 0 h hRl⟩
 have hto := take_run T (Wx.nameL T) hml
 have hle : o.length ≤ (trim R).length := by
   have h0 : o ≠ [] := by rintro rfl; revert ho; decide
   exact (op_mem hoe h0).2.length_le
 have HD2 := Kept.mk (drop_run (trim R) o.length hle)
 have HDe : Kept (∀ w' g, QM w' g (trim R) [] 0 → w'.cell? ⟨g, 0, none⟩ = some (.string (bs (trim R)))) := ⟨fun w' g h => h.c0⟩
 obtain ⟨q, hq⟩ : ∃ q, q = (trim R).drop o.length := ⟨_, rfl⟩
 rw [← hq] at HD2 ⊢
 have hz0 : (0 : Int) ≤ (Wx.nameL T : Int) := by omega
 have hz1 : (0 : Int) < (Wx.nameL T : Int) := by omega
 have hz2 : 0 < Wx.nameL T := hm
 rw [hoe] at HOp
 generalize trim R = Y at HOp HD2 HDe
 generalize T.take (Wx.nameL T) = nm at hto ⊢
 generalize Wx.nameL T = m at HNm hdr hto hz0 hz1 hz2
 have HQN : Kept (∀ w', QM (World.alloc w' (.cells #[.string (bs R), .slice none 0 0, .int .i64 0] 66)) w'.heap.size R [] 0) := ⟨fun w' => qm_new w' R⟩
 have HC0 : Kept (∀ w', QM w' b T l c → w'.cell? ⟨b, 0, none⟩ = some (.string (bs T))) := ⟨fun w' h => h.c0⟩
 obtain ⟨S, hS⟩ : ∃ S, S = bs T := ⟨_, rfl⟩
 obtain ⟨X, hX⟩ : ∃ X, X = bs R := ⟨_, rfl⟩
 rw [← hS] at HNm hdr HC0 hto
 rw [← hX] at hdr HQN
 have H := Kept.mk h
 have HF0 : Kept (∀ w', QM w' b T l c → w'.frozen? ⟨b, 0, none⟩ = false) := ⟨fun w' h => h.fz 0⟩
 have HHt := Kept.mk hto
 have E0 := lit_beq2 o [61]
 have E1 := lit_beq2 o [43, 61]
 have E2 := lit_beq2 o [45, 61]
 have E3 := lit_beq2 o [42, 61]
 have E4 := lit_beq2 o [47, 61]
 have E5 := lit_beq2 o [37, 61]
 have hso : (bs o).size = o.length := bs_size o
 rw [← hso] at HD2
 have hz9 : (0 : Int) ≤ ((bs o).size : Int) := by omega
 obtain ⟨YB, hYB⟩ : ∃ YB, YB = bs Y := ⟨_, rfl⟩
 obtain ⟨QB, hQB⟩ : ∃ QB, QB = bs q := ⟨_, rfl⟩
 rw [← hYB] at HD2 HDe
 rw [← hQB] at HD2
 have HTx : Kept (∀ w', QM w' b T l c → QM (w'.setCell ⟨b, 0, none⟩ (.string QB)) b q l c ∧ Only (· = b) w' (w'.setCell ⟨b, 0, none⟩ (.string QB))) := ⟨fun w' h => by rw [hQB]; exact h.text q⟩
 generalize bs o = O at HOp E0 E1 E2 E3 E4 E5 HD2 hz9 ⊢
 clear hso hYB hQB
 clear h hs hT hR hm hTl hml hRl hS hX hoe hle hq hto
 simp only [asgS, List.mem_cons, List.not_mem_nil, or_false] at ho
 rcases ho with rfl | rfl | rfl | rfl | rfl | rfl
 · have F0 : (O.toList == [61]) = true := E0.trans (by decide)
   have F1 : (O.toList == [43, 61]) = false := E1.trans (by decide)
   have F2 : (O.toList == [45, 61]) = false := E2.trans (by decide)
   have F3 : (O.toList == [42, 61]) = false := E3.trans (by decide)
   have F4 : (O.toList == [47, 61]) = false := E4.trans (by decide)
   have F5 : (O.toList == [37, 61]) = false := E5.trans (by decide)
   clear E0 E1 E2 E3 E4 E5
   go_enter Tryz.func66, Tryz.ntmps66
   go_wp2_with fail
   go_at_call 45
   refine (HSp.out _ H.out).mono ?_
   rintro e w1 ⟨rfl, h1, h2⟩
   have H1 := h1
   have HO1 := h2
   have c0 := HC0.out _ h1.out
   clear h1 h2
   go_wp2_with fail
   go_at_call 48
   refine (HNm.out _).mono ?_
   rintro e w2 ⟨rfl, rfl⟩
   go_wp2_with fail
   go_at_call 86
   refine (HOp.out _ _ (HQN.out w1)).mono ?_
   rintro e w3 ⟨rfl, h3, h4⟩
   have HB := Kept.mk (only_new h4.out (Nat.le_refl _) ((Below.refl _ _).alloc (Nat.le_refl _) _))
   have d0 := HDe.out _ _ h3.out
   have H5 := Kept.mk (H1.out.below HB.out)
   have c5 := HC0.out _ H5.out
   have g0 := HF0.out _ H5.out
   have HT5 := Kept.mk (HTx.out _ H5.out)
   have hto := HHt.out
   have hd2 := HD2.out
   clear h3 h4 c0
   go_wp2_with fail
   go_ret2
   exact ⟨rfl, ⟨HT5.out.1⟩, ⟨(HO1.out.below HB.out).trans HT5.out.2 (fun i _ h => h)⟩⟩
 · have F0 : (O.toList == [61]) = false := E0.trans (by decide)
   have F1 : (O.toList == [43, 61]) = true := E1.trans (by decide)
   have F2 : (O.toList == [45, 61]) = false := E2.trans (by decide)
   have F3 : (O.toList == [42, 61]) = false := E3.trans (by decide)
   have F4 : (O.toList == [47, 61]) = false := E4.trans (by decide)
   have F5 : (O.toList == [37, 61]) = false := E5.trans (by decide)
   clear E0 E1 E2 E3 E4 E5
   go_enter Tryz.func66, Tryz.ntmps66
   go_wp2_with fail
   go_at_call 45
   refine (HSp.out _ H.out).mono ?_
   rintro e w1 ⟨rfl, h1, h2⟩
   have H1 := h1
   have HO1 := h2
   have c0 := HC0.out _ h1.out
   clear h1 h2
   go_wp2_with fail
   go_at_call 48
   refine (HNm.out _).mono ?_
   rintro e w2 ⟨rfl, rfl⟩
   go_wp2_with fail
   go_at_call 86
   refine (HOp.out _ _ (HQN.out w1)).mono ?_
   rintro e w3 ⟨rfl, h3, h4⟩
   have HB := Kept.mk (only_new h4.out (Nat.le_refl _) ((Below.refl _ _).alloc (Nat.le_refl _) _))
   have d0 := HDe.out _ _ h3.out
   have H5 := Kept.mk (H1.out.below HB.out)
   have c5 := HC0.out _ H5.out
   have g0 := HF0.out _ H5.out
   have HT5 := Kept.mk (HTx.out _ H5.out)
   have hto := HHt.out
   have hd2 := HD2.out
   clear h3 h4 c0
   go_wp2_with fail
   go_ret2
   exact ⟨rfl, ⟨HT5.out.1⟩, ⟨(HO1.out.below HB.out).trans HT5.out.2 (fun i _ h => h)⟩⟩
 · have F0 : (O.toList == [61]) = false := E0.trans (by decide)
   have F1 : (O.toList == [43, 61]) = false := E1.trans (by decide)
   have F2 : (O.toList == [45, 61]) = true := E2.trans (by decide)
   have F3 : (O.toList == [42, 61]) = false := E3.trans (by decide)
   have F4 : (O.toList == [47, 61]) = false := E4.trans (by decide)
   have F5 : (O.toList == [37, 61]) = false := E5.trans (by decide)
   clear E0 E1 E2 E3 E4 E5
   go_enter Tryz.func66, Tryz.ntmps66
   go_wp2_with fail
   go_at_call 45
   refine (HSp.out _ H.out).mono ?_
   rintro e w1 ⟨rfl, h1, h2⟩
   have H1 := h1
   have HO1 := h2
   have c0 := HC0.out _ h1.out
   clear h1 h2
   go_wp2_with fail
   go_at_call 48
   refine (HNm.out _).mono ?_
   rintro e w2 ⟨rfl, rfl⟩
   go_wp2_with fail
   go_at_call 86
   refine (HOp.out _ _ (HQN.out w1)).mono ?_
   rintro e w3 ⟨rfl, h3, h4⟩
   have HB := Kept.mk (only_new h4.out (Nat.le_refl _) ((Below.refl _ _).alloc (Nat.le_refl _) _))
   have d0 := HDe.out _ _ h3.out
   have H5 := Kept.mk (H1.out.below HB.out)
   have c5 := HC0.out _ H5.out
   have g0 := HF0.out _ H5.out
   have HT5 := Kept.mk (HTx.out _ H5.out)
   have hto := HHt.out
   have hd2 := HD2.out
   clear h3 h4 c0
   go_wp2_with fail
   go_ret2
   exact ⟨rfl, ⟨HT5.out.1⟩, ⟨(HO1.out.below HB.out).trans HT5.out.2 (fun i _ h => h)⟩⟩
 · have F0 : (O.toList == [61]) = false := E0.trans (by decide)
   have F1 : (O.toList == [43, 61]) = false := E1.trans (by decide)
   have F2 : (O.toList == [45, 61]) = false := E2.trans (by decide)
   have F3 : (O.toList == [42, 61]) = true := E3.trans (by decide)
   have F4 : (O.toList == [47, 61]) = false := E4.trans (by decide)
   have F5 : (O.toList == [37, 61]) = false := E5.trans (by decide)
   clear E0 E1 E2 E3 E4 E5
   go_enter Tryz.func66, Tryz.ntmps66
   go_wp2_with fail
   go_at_call 45
   refine (HSp.out _ H.out).mono ?_
   rintro e w1 ⟨rfl, h1, h2⟩
   have H1 := h1
   have HO1 := h2
   have c0 := HC0.out _ h1.out
   clear h1 h2
   go_wp2_with fail
   go_at_call 48
   refine (HNm.out _).mono ?_
   rintro e w2 ⟨rfl, rfl⟩
   go_wp2_with fail
   go_at_call 86
   refine (HOp.out _ _ (HQN.out w1)).mono ?_
   rintro e w3 ⟨rfl, h3, h4⟩
   have HB := Kept.mk (only_new h4.out (Nat.le_refl _) ((Below.refl _ _).alloc (Nat.le_refl _) _))
   have d0 := HDe.out _ _ h3.out
   have H5 := Kept.mk (H1.out.below HB.out)
   have c5 := HC0.out _ H5.out
   have g0 := HF0.out _ H5.out
   have HT5 := Kept.mk (HTx.out _ H5.out)
   have hto := HHt.out
   have hd2 := HD2.out
   clear h3 h4 c0
   go_wp2_with fail
   go_ret2
   exact ⟨rfl, ⟨HT5.out.1⟩, ⟨(HO1.out.below HB.out).trans HT5.out.2 (fun i _ h => h)⟩⟩
 · have F0 : (O.toList == [61]) = false := E0.trans (by decide)
   have F1 : (O.toList == [43, 61]) = false := E1.trans (by decide)
   have F2 : (O.toList == [45, 61]) = false := E2.trans (by decide)
   have F3 : (O.toList == [42, 61]) = false := E3.trans (by decide)
   have F4 : (O.toList == [47, 61]) = true := E4.trans (by decide)
   have F5 : (O.toList == [37, 61]) = false := E5.trans (by decide)
   clear E0 E1 E2 E3 E4 E5
   go_enter Tryz.func66, Tryz.ntmps66
   go_wp2_with fail
   go_at_call 45
   refine (HSp.out _ H.out).mono ?_
   rintro e w1 ⟨rfl, h1, h2⟩
   have H1 := h1
   have HO1 := h2
   have c0 := HC0.out _ h1.out
   clear h1 h2
   go_wp2_with fail
   go_at_call 48
   refine (HNm.out _).mono ?_
   rintro e w2 ⟨rfl, rfl⟩
   go_wp2_with fail
   go_at_call 86
   refine (HOp.out _ _ (HQN.out w1)).mono ?_
   rintro e w3 ⟨rfl, h3, h4⟩
   have HB := Kept.mk (only_new h4.out (Nat.le_refl _) ((Below.refl _ _).alloc (Nat.le_refl _) _))
   have d0 := HDe.out _ _ h3.out
   have H5 := Kept.mk (H1.out.below HB.out)
   have c5 := HC0.out _ H5.out
   have g0 := HF0.out _ H5.out
   have HT5 := Kept.mk (HTx.out _ H5.out)
   have hto := HHt.out
   have hd2 := HD2.out
   clear h3 h4 c0
   go_wp2_with fail
   go_ret2
   exact ⟨rfl, ⟨HT5.out.1⟩, ⟨(HO1.out.below HB.out).trans HT5.out.2 (fun i _ h => h)⟩⟩
 · have F0 : (O.toList == [61]) = false := E0.trans (by decide)
   have F1 : (O.toList == [43, 61]) = false := E1.trans (by decide)
   have F2 : (O.toList == [45, 61]) = false := E2.trans (by decide)
   have F3 : (O.toList == [42, 61]) = false := E3.trans (by decide)
   have F4 : (O.toList == [47, 61]) = false := E4.trans (by decide)
   have F5 : (O.toList == [37, 61]) = true := E5.trans (by decide)
   clear E0 E1 E2 E3 E4 E5
   go_enter Tryz.func66, Tryz.ntmps66
   go_wp2_with fail
   go_at_call 45
   refine (HSp.out _ H.out).mono ?_
   rintro e w1 ⟨rfl, h1, h2⟩
   have H1 := h1
   have HO1 := h2
   have c0 := HC0.out _ h1.out
   clear h1 h2
   go_wp2_with fail
   go_at_call 48
   refine (HNm.out _).mono ?_
   rintro e w2 ⟨rfl, rfl⟩
   go_wp2_with fail
   go_at_call 86
   refine (HOp.out _ _ (HQN.out w1)).mono ?_
   rintro e w3 ⟨rfl, h3, h4⟩
   have HB := Kept.mk (only_new h4.out (Nat.le_refl _) ((Below.refl _ _).alloc (Nat.le_refl _) _))
   have d0 := HDe.out _ _ h3.out
   have H5 := Kept.mk (H1.out.below HB.out)
   have c5 := HC0.out _ H5.out
   have g0 := HF0.out _ H5.out
   have HT5 := Kept.mk (HTx.out _ H5.out)
   have hto := HHt.out
   have hd2 := HD2.out
   clear h3 h4 c0
   go_wp2_with fail
   go_ret2
   exact ⟨rfl, ⟨HT5.out.1⟩, ⟨(HO1.out.below HB.out).trans HT5.out.2 (fun i _ h => h)⟩⟩
end Ar
end Go.Proofs.YtlggpefmojacoaaGreatDoor
end
section
namespace Go.Proofs.YtlggpefmojacoaaGreatDoor
namespace Ar
open Va (Vr)

def bindR (z : R) (k : Ex → List Tok → R) : R := match z with | .error c => .error c | .ok (e, r) => k e r
theorem bindR_err (c : Int) (k : Ex → List Tok → R) : bindR (.error c) k = .error c := rfl
theorem bindR_ok (e : Ex) (r : List Tok) (k : Ex → List Tok → R) : bindR (.ok (e, r)) k = k e r := rfl
theorem bindR_inv {z : R} {k : Ex → List Tok → R} {y : Ex × List Tok} (h : bindR z k = .ok y) : ∃ e r, z = .ok (e, r) ∧ k e r = .ok y := by
 cases z with
 | error c => cases h
 | ok w => exact ⟨w.1, w.2, rfl, h⟩
theorem trim_trim (s : List UInt8) : trim (trim s) = trim s := by
 unfold trim
 induction s with
 | nil => rfl
 | cons c r ih =>
   by_cases hc : isBlank c = true
   · rw [List.dropWhile_cons, if_pos hc]; exact ih
   · rw [List.dropWhile_cons, if_neg hc, List.dropWhile_cons, if_neg hc]
theorem runL_zero {c : UInt8} {r : List UInt8} (h : wordB c = false) : runL (c :: r) = 0 := by
 unfold runL; rw [List.takeWhile_cons, h]; rfl
theorem runL_pos {c : UInt8} {r : List UInt8} (h : wordB c = true) : 0 < runL (c :: r) := by
 unfold runL; rw [List.takeWhile_cons, if_pos h]; simp
def heads : List Tok := [[45], [43], [126], [33], [40]]
theorem heads_dops : ∀ t ∈ heads, t ∈ dops := by decide
theorem heads_word : ∀ t ∈ heads, ∀ c, t.head? = some c → wordB c = false := by decide
theorem pre_heads {t : Tok} (h : isPre t = true) : t ∈ heads := by
 unfold isPre at h
 rw [List.contains_iff_mem] at h
 simp only [List.mem_cons, List.not_mem_nil, or_false] at h
 rcases h with rfl | rfl | rfl | rfl <;> decide
theorem lit_noword {c : UInt8} {r : List UInt8} (h : wordB c = false) : litV (c :: r) = none := by
 have h1 : dig c = false := by unfold wordB at h; rw [Bool.or_eq_false_iff] at h; exact h.2
 have h2 : alpha c = false := by unfold wordB at h; rw [Bool.or_eq_false_iff] at h; exact h.1
 have h48 : c ≠ 48 := by rintro rfl; revert h1; decide
 have hd : ¬ digV c < 10 := by
   unfold digV
   split
   · rename_i h3
     unfold dig at h1
     rw [Bool.and_eq_false_iff] at h1
     rcases h1 with h1 | h1
     · exact absurd h3.1 (of_decide_eq_false h1)
     · exact absurd h3.2 (of_decide_eq_false h1)
   · split
     · rename_i h3
       have : (97 : Nat) ≤ c.toNat := h3.1
       omega
     · split
       · rename_i h3
         have : (65 : Nat) ≤ c.toNat := h3.1
         omega
       · omega
 have hn : num 10 (c :: r) = none := by
   unfold num
   rw [if_neg (by simp), numF, if_neg (fun e => hd e.1)]
 unfold litV
 split
 · rename_i h3; cases h3; exact absurd rfl h48
 · exact hn
def leafP (tk : Tok) (r : List Tok) : R := if tk = [] then .error 130 else if isNm tk = true then .ok (.var tk, r) else match litV tk with | some n => .ok (.lit n, r) | none => .error 130
theorem leaf_oper {s T tk q : List UInt8} (ex op : P) (hT : T = trim s) (htk : tk = T.take (runL T)) (hq : q = T.drop (runL T)) (h : opS T ∉ heads) : operF ex op (toks s) = leafP tk (toks q) := by
 subst hT
 by_cases h0 : trim s = []
 · rw [toks_nil (cutT_nil.2 h0), operF]
   have : tk = [] := by rw [htk, h0]; rfl
   rw [leafP, if_pos this]
 · obtain ⟨c, r, hcr⟩ := List.exists_cons_of_ne_nil h0
   have hto := toks_cons (fun e => h0 (cutT_nil.1 e))
   have hop := op_tok h0
   have hcut : (trim s).take (tokL (trim s)) = cutT s := rfl
   rw [hcut] at hop
   have hnh : cutT s ∉ heads := fun hm => by
     rw [if_pos (List.contains_iff_mem.2 (heads_dops _ hm))] at hop
     rw [hop] at h
     exact h hm
   have hpre : isPre (cutT s) = false := Bool.eq_false_iff.2 fun e => hnh (pre_heads e)
   have hbr : cutT s ≠ [40] := fun e => hnh (by rw [e]; decide)
   rw [hto, operF, if_neg (by rw [hpre]; decide), if_neg hbr]
   cases hw : wordB c with
   | false =>
     have hk : runL (trim s) = 0 := by rw [hcr]; exact runL_zero hw
     have e1 : tk = [] := by rw [htk, hk]; rfl
     obtain ⟨t', ht'⟩ : ∃ t', cutT s = c :: t' := by
       have hp := tokL_pos h0
       obtain ⟨m, hm⟩ : ∃ m, tokL (trim s) = m + 1 := ⟨tokL (trim s) - 1, by omega⟩
       exact ⟨r.take m, by rw [← hcut, hm, hcr, List.take_succ_cons]⟩
     have e2 : isNm (cutT s) = false := by
       rw [ht']
       show alpha c = false
       unfold wordB at hw; rw [Bool.or_eq_false_iff] at hw; exact hw.1
     rw [if_neg (by rw [e2]; decide), ht', lit_noword hw, leafP, if_pos e1]
   | true =>
     have hk : 0 < runL (trim s) := by rw [hcr]; exact runL_pos hw
     have hl : tokL (trim s) = runL (trim s) := by unfold tokL; rw [if_pos hk]
     have e1 : cutT s = tk := by rw [htk, ← hl]; rfl
     have e2 : cutR s = q := by rw [hq, ← hl]; rfl
     have e3 : tk ≠ [] := by
       intro e
       have := congrArg List.length e
       rw [htk, List.length_take, List.length_nil] at this
       have : 0 < (trim s).length := by rw [hcr]; simp
       have h5 : runL (trim s) ≤ (trim s).length := (List.takeWhile_sublist _).length_le
       omega
     rw [e1, e2, leafP, if_neg e3]
     by_cases hi : isNm tk = true
     · rw [if_pos hi, if_pos hi]
     · rw [if_neg hi, if_neg hi]
       cases litV tk <;> rfl

theorem nameL_run {c : UInt8} {r : List UInt8} (h : alpha c = true) : Wx.nameL (c :: r) = runL (c :: r) := by
 have hf : (fun c => Wx.letter c || Wx.digit c) = wordB := funext word_letter
 have hw : wordB c = true := by unfold wordB; rw [h]; rfl
 unfold runL
 show (if Wx.letter c = true then 1 + (r.takeWhile fun c => Wx.letter c || Wx.digit c).length else 0) = _
 rw [if_pos (by rw [← alpha_letter]; exact h), hf, List.takeWhile_cons, if_pos hw, List.length_cons]
 omega
theorem nameL_zero {c : UInt8} {r : List UInt8} (h : alpha c = false) : Wx.nameL (c :: r) = 0 := by
 show (if Wx.letter c = true then 1 + (r.takeWhile fun c => Wx.letter c || Wx.digit c).length else 0) = _
 rw [if_neg (by rw [← alpha_letter, h]; decide)]
theorem asgS_dops : ∀ o ∈ asgS, o ∈ dops ∧ assigns o = true := by decide
theorem assigns_mem {o : Tok} (h : assigns o = true) : o ∈ asgS := by
 unfold assigns at h
 rwa [List.contains_iff_mem] at h
structure Heads (s T Rr x o : List UInt8) : Prop where
 nm : 0 < Wx.nameL T
 x : x = T.take (Wx.nameL T)
 op : opS (trim Rr) = o
 asg : o ∈ asgS
theorem cut_name {s : List UInt8} (h : 0 < Wx.nameL (trim s)) : cutT s = (trim s).take (Wx.nameL (trim s)) ∧ cutR s = (trim s).drop (Wx.nameL (trim s)) ∧ isNm (cutT s) = true ∧ trim s ≠ [] := by
 have h0 : trim s ≠ [] := by intro e; rw [e] at h; exact absurd h (by decide)
 obtain ⟨c, r, hcr⟩ := List.exists_cons_of_ne_nil h0
 have ha : alpha c = true := by
   cases ha : alpha c with
   | true => rfl
   | false => rw [hcr, nameL_zero ha] at h; exact absurd h (by decide)
 have hn : Wx.nameL (trim s) = runL (trim s) := by rw [hcr]; exact nameL_run ha
 have hl : tokL (trim s) = runL (trim s) := by unfold tokL; rw [if_pos (by omega)]
 refine ⟨by rw [hn, ← hl]; rfl, by rw [hn, ← hl]; rfl, ?_, h0⟩
 obtain ⟨m, hm⟩ : ∃ m, tokL (trim s) = m + 1 := ⟨tokL (trim s) - 1, by omega⟩
 unfold cutT
 rw [hm, hcr, List.take_succ_cons]
 exact ha
theorem asg_yes {s T Rr o : List UInt8} (cd ex : P) (hT : T = trim s) (hR : Rr = T.drop (Wx.nameL T)) (hn : 0 < Wx.nameL T) (ho : opS (trim Rr) = o) (hm : o ∈ asgS) :
   exprF cd ex (toks s) = bindR (ex (toks ((trim Rr).drop o.length))) fun e r' => .ok (.asg (T.take (Wx.nameL T)) o e, r') := by
 subst hT
 obtain ⟨h1, h2, h3, h4⟩ := cut_name hn
 have ho0 : o ≠ [] := by rintro rfl; revert hm; decide
 have h5 := op_left ho ho0
 rw [← h2] at hR
 rw [toks_cons (fun e => h4 (cutT_nil.1 e)), ← hR, h5, exprF, if_pos ⟨h3, (asgS_dops o hm).2⟩, h1]
 cases ex (toks ((trim Rr).drop o.length)) <;> rfl
theorem asg_no {s T Rr : List UInt8} (cd ex : P) (hT : T = trim s) (hR : Rr = T.drop (Wx.nameL T)) (h : ¬ (0 < Wx.nameL T ∧ opS (trim Rr) ∈ asgS)) : exprF cd ex (toks s) = cd (toks s) := by
 subst hT
 by_cases h0 : trim s = []
 · rw [toks_nil (cutT_nil.2 h0)]; rfl
 · rw [toks_cons (fun e => h0 (cutT_nil.1 e))]
   by_cases h1 : toks (cutR s) = []
   · rw [h1]; rfl
   · obtain ⟨o, r, hor⟩ := List.exists_cons_of_ne_nil h1
     rw [hor, exprF]
     rw [if_neg]
     rintro ⟨e1, e2⟩
     obtain ⟨c, q, hcq⟩ := List.exists_cons_of_ne_nil h0
     obtain ⟨m, hm⟩ : ∃ m, tokL (trim s) = m + 1 := ⟨tokL (trim s) - 1, by have := tokL_pos h0; omega⟩
     have ha : alpha c = true := by
       unfold cutT at e1
       rw [hm, hcq, List.take_succ_cons] at e1
       exact e1
     have hn : 0 < Wx.nameL (trim s) := by
       rw [hcq, nameL_run ha]
       exact runL_pos (by unfold wordB; rw [ha]; rfl)
     have hR2 : Rr = cutR s := hR.trans (cut_name hn).2.1.symm
     refine h ⟨hn, ?_⟩
     rw [op_head, hR2, hor]
     show (if dops.contains o then o else []) ∈ asgS
     have := asgS_dops o (assigns_mem e2)
     rw [if_pos (List.contains_iff_mem.2 this.1)]
     exact assigns_mem e2

theorem lev_dops {t : Tok} (h : levelOf t ≠ 0) : t ∈ dops := by
 unfold levelOf at h
 repeat' split at h
 all_goals first
   | exact absurd rfl h
   | (rename_i h1; subst h1; decide)
   | (rename_i h1; rcases h1 with h1 | h1 <;> subst h1 <;> decide)
   | (rename_i h1; rcases h1 with h1 | h1 | h1 <;> subst h1 <;> decide)
   | (rename_i h1; rcases h1 with h1 | h1 | h1 | h1 <;> subst h1 <;> decide)
theorem blp_end {f : P} {least m : Nat} {x : Ex} {s : List UInt8} (h : levelOf (opS (trim s)) < least ∨ levelOf (opS (trim s)) = 0) : blp f least m x (toks s) = .ok (x, toks s) := by
 refine blp_stop _ _ _ _ ?_
 rw [op_head] at h
 cases hts : toks s with
 | nil => trivial
 | cons t r =>
   rw [hts, show opH (t :: r) = if dops.contains t then t else [] from rfl] at h
   show levelOf t < least ∨ levelOf t = 0
   by_cases h1 : levelOf t = 0
   · exact .inr h1
   · rw [if_pos (List.contains_iff_mem.2 (lev_dops h1))] at h
     exact h
theorem opS_ne {s : List UInt8} (h : levelOf (opS s) ≠ 0) : opS s ≠ [] := fun e => by rw [e] at h; exact h (by decide)
theorem blp_go {f : P} (hf : ∀ ts e r, f ts = .ok (e, r) → r <:+ ts) {least m : Nat} {x : Ex} {s q : List UInt8} {o : Tok} (ho : opS (trim s) = o) (h : ¬ (levelOf o < least ∨ levelOf o = 0)) (hq : q = (trim s).drop o.length) (hm : (toks s).length ≤ m) :
   blp f least m x (toks s) = bindR (lev f (10 - levelOf o) (toks q)) fun y r' => blp f least r'.length (.bin o x y) r' := by
 have h0 : o ≠ [] := by rw [← ho]; exact opS_ne (by rw [ho]; omega)
 have h1 := op_left ho h0
 rw [← hq] at h1
 cases m with
 | zero => rw [h1, List.length_cons] at hm; omega
 | succ m =>
   rw [h1, blp, if_neg h]
   rw [h1, List.length_cons] at hm
   cases hl : lev f (10 - levelOf o) (toks q) with
   | error c => rfl
   | ok z =>
     obtain ⟨y, r'⟩ := z
     exact blp_more hf _ _ _ _ _ (Nat.le_refl _) (by have := (lev_suf hf _ _ _ _ hl).length_le; omega)
theorem blp_err {f : P} {least : Nat} {l : List Vr} {c : Int} : ∀ {m : Nat} {x : Ex} {ts : List Tok} {X : Ex} {r : List Tok}, blp f least m x ts = .ok (X, r) → ev x l = .error c → ev X l = .error c
 | 0, x, ts, X, r, h, he => by cases h; exact he
 | m + 1, x, [], X, r, h, he => by cases h; exact he
 | m + 1, x, t :: ts, X, r, h, he => by
   rw [blp] at h
   split at h
   · cases h; exact he
   · split at h
     · cases h
     · exact blp_err h (by rw [ev, he])
theorem opS_dops (s : List UInt8) : opS s = [] ∨ opS s ∈ dops := by
 by_cases h : opS s = []
 · exact .inl h
 · exact .inr (op_mem rfl h).1
end Ar
end Go.Proofs.YtlggpefmojacoaaGreatDoor
end
section
namespace Go.Proofs.YtlggpefmojacoaaGreatDoor
open Go.RowKit Tx
namespace Ar
open Va (Vr VS getD Sorted)

def DRes (live : Bool) (p : R) (l : List Vr) (v : Int) (s' : List UInt8) (l' : List Vr) (c : Int) : Prop :=
 match p with
 | .error d => c = d ∧ d ≠ 0
 | .ok (x, r) => if live = true then (match ev x l with | .ok (m, l2) => v = m ∧ l' = l2 ∧ c = 0 ∧ toks s' = r | .error d => c = d ∧ d ≠ 0) else l' = l ∧ c = 0 ∧ toks s' = r
def DOut (w : World) (b : Nat) (L M : Nat) (live : Bool) (p : R) (l : List Vr) (e : Ending) (w' : World) : Prop :=
 ∃ (v : Int) (s' : List UInt8) (l' : List Vr) (c : Int), e = .returned (.int .i64 v) ∧ Kept (s'.length ≤ L) ∧ Kept (l'.length + s'.length ≤ M) ∧ Kept (QM w' b s' l' c) ∧ Kept (Only (· = b) w w') ∧ Kept (DRes live p l v s' l' c)
def LivOk (live : Bool) (p : R) : Prop := live = true → ∃ x r, p = .ok (x, r)
theorem DRes.live {p : R} {l : List Vr} {v : Int} {s' : List UInt8} {l' : List Vr} {x : Ex} {r : List Tok} {m : Int} {l2 : List Vr} (hp : p = .ok (x, r)) (he : ev x l = .ok (m, l2)) (h1 : v = m) (h2 : l' = l2) (h3 : toks s' = r) : DRes true p l v s' l' 0 := by
 subst hp; unfold DRes; dsimp only; rw [if_pos rfl, he]; exact ⟨h1, h2, rfl, h3⟩
theorem DRes.fails {p : R} {l : List Vr} {v : Int} {s' : List UInt8} {l' : List Vr} {x : Ex} {r : List Tok} {c : Int} (hp : p = .ok (x, r)) (he : ev x l = .error c) (hc : c ≠ 0) : DRes true p l v s' l' c := by
 subst hp; unfold DRes; dsimp only; rw [if_pos rfl, he]; exact ⟨rfl, hc⟩
theorem DRes.dead {p : R} {l : List Vr} {v : Int} {s' : List UInt8} {x : Ex} {r : List Tok} (hp : p = .ok (x, r)) (h3 : toks s' = r) : DRes false p l v s' l 0 := by
 subst hp; unfold DRes; dsimp only; rw [if_neg (by decide)]; exact ⟨rfl, rfl, h3⟩
theorem DRes.err {live : Bool} {p : R} {l : List Vr} {v : Int} {s' : List UInt8} {l' : List Vr} {c : Int} (hp : p = .error c) (hc : c ≠ 0) : DRes live p l v s' l' c := by
 subst hp; exact ⟨rfl, hc⟩
inductive DCase (live : Bool) (p : R) (l : List Vr) (v : Int) (s' : List UInt8) (l' : List Vr) (c : Int) : Prop
 | err (hp : p = .error c) (hc : c ≠ 0)
 | dead (x : Ex) (r : List Tok) (hl : live = false) (hp : p = .ok (x, r)) (hc : c = 0) (hv : l' = l) (ht : toks s' = r)
 | live (x : Ex) (r : List Tok) (hl : live = true) (hp : p = .ok (x, r)) (hc : c = 0) (he : ev x l = .ok (v, l')) (ht : toks s' = r)
 | fails (x : Ex) (r : List Tok) (hl : live = true) (hp : p = .ok (x, r)) (hc : c ≠ 0) (he : ev x l = .error c)
theorem DRes.cases {live : Bool} {p : R} {l : List Vr} {v : Int} {s' : List UInt8} {l' : List Vr} {c : Int} (h : DRes live p l v s' l' c) : DCase live p l v s' l' c := by
 unfold DRes at h
 split at h
 · obtain ⟨rfl, hc⟩ := h; exact .err rfl hc
 · rename_i x r
   cases live with
   | false => rw [if_neg (by decide)] at h; exact .dead x r rfl rfl h.2.1 h.1 h.2.2
   | true =>
     rw [if_pos rfl] at h
     split at h
     · rename_i m l2 he
       obtain ⟨rfl, rfl, hc, ht⟩ := h
       exact .live x r rfl rfl hc he ht
     · rename_i d he
       obtain ⟨rfl, hc⟩ := h
       exact .fails x r rfl rfl hc he
theorem firstE_of {c d : Int} (h : c ≠ 0) : firstE c d = c := if_neg h
theorem firstE_z (d : Int) : firstE 0 d = d := if_pos rfl

def parD (z : R) : R := match z with | .error c => .error c | .ok (e, [41] :: r') => .ok (e, r') | .ok _ => .error 130
theorem parD_err (c : Int) : parD (.error c) = .error c := rfl
theorem parD_ok (x : Ex) (r : List Tok) : parD (.ok (x, [41] :: r)) = .ok (x, r) := rfl
theorem parD_no {x : Ex} {r : List Tok} (h : ∀ q, r ≠ [41] :: q) : parD (.ok (x, r)) = .error 130 := by
 unfold parD
 split
 · rename_i h0; cases h0
 · rename_i h0; cases h0; exact absurd rfl (h _)
 · rfl
theorem parD_any {x y : Ex} {r r2 : List Tok} (h : parD (.ok (x, r)) = .ok (y, r2)) : y = x := by
 unfold parD at h
 split at h
 · cases h
 · rename_i h0; cases h0; cases h; rfl
 · cases h
theorem oper_par {ex op : P} {s s1 : List UInt8} (h1 : toks s = [40] :: toks s1) : operF ex op (toks s) = parD (ex (toks s1)) := by
 rw [h1, operF, if_neg (by decide), if_pos rfl]
 unfold parD
 cases ex (toks s1) with
 | error c => rfl
 | ok z => rfl
theorem par_ok {live : Bool} {ex op : P} {s s1 : List UInt8} (h1 : toks s = [40] :: toks s1) (h : LivOk live (operF ex op (toks s))) : LivOk live (ex (toks s1)) := fun hl => by
 obtain ⟨x, r, hp⟩ := h hl
 rw [oper_par h1] at hp
 cases he : ex (toks s1) with
 | error c => rw [he] at hp; cases hp
 | ok z => exact ⟨z.1, z.2, rfl⟩
theorem par_true {live : Bool} {ex op : P} {s s1 s2 q : List UInt8} {l l2 : List Vr} {v c : Int} (h1 : toks s = [40] :: toks s1) (hl : LivOk live (operF ex op (toks s))) (h : DRes live (ex (toks s1)) l v s2 l2 c) (ho : opS (trim s2) = [41]) (hq : q = (trim s2).drop 1) : DRes live (operF ex op (toks s)) l v q l2 c := by
 have h2 := op_left ho (by decide)
 rw [show ([41] : Tok).length = 1 from rfl, ← hq] at h2
 have hp := oper_par (ex := ex) (op := op) h1
 rcases h.cases with ⟨he, hc⟩ | ⟨x, r, hv, he, rfl, rfl, ht⟩ | ⟨x, r, hv, he, rfl, hx, ht⟩ | ⟨x, r, hv, he, hc, hx⟩
 · rw [he] at hp; exact .err hp hc
 · subst hv; rw [he, ← ht, h2, parD_ok] at hp; exact .dead hp rfl
 · subst hv; rw [he, ← ht, h2, parD_ok] at hp; exact .live hp hx rfl rfl rfl
 · subst hv
   obtain ⟨y, r2, hy⟩ := hl rfl
   have hy2 := hy
   rw [hp, he] at hy2
   obtain rfl := parD_any hy2
   exact .fails hy hx hc
theorem par_false {live : Bool} {ex op : P} {s s1 s2 q : List UInt8} {l l2 : List Vr} {v c : Int} (h1 : toks s = [40] :: toks s1) (hl : LivOk live (operF ex op (toks s))) (h : DRes live (ex (toks s1)) l v s2 l2 c) (ho : opS (trim s2) ≠ [41]) : DRes live (operF ex op (toks s)) l v q l2 (firstE c 130) := by
 have hp := oper_par (ex := ex) (op := op) h1
 have hno : ∀ r, toks s2 = r → ∀ q, r ≠ [41] :: q := by
   rintro r hr q rfl
   rw [op_head, hr] at ho
   exact ho rfl
 rcases h.cases with ⟨he, hc⟩ | ⟨x, r, hv, he, rfl, rfl, ht⟩ | ⟨x, r, hv, he, rfl, hx, ht⟩ | ⟨x, r, hv, he, hc, hx⟩
 · rw [he] at hp; rw [firstE_of hc]; exact .err hp hc
 · rw [he, parD_no (hno r ht)] at hp; rw [firstE_z]; exact .err hp (by decide)
 · obtain ⟨y, r2, hy⟩ := hl hv
   rw [hp, he, parD_no (hno r ht)] at hy
   cases hy
 · subst hv
   obtain ⟨y, r2, hy⟩ := hl rfl
   have hy2 := hy
   rw [hp, he] at hy2
   obtain rfl := parD_any hy2
   rw [firstE_of hc]
   exact .fails hy hx hc

theorem pre_ok {live : Bool} {ex op : P} {s s1 o : List UInt8} (h1 : toks s = o :: toks s1) (ho : isPre o = true) (h : LivOk live (operF ex op (toks s))) : LivOk live (op (toks s1)) := fun hl => by
 obtain ⟨x, r, hp⟩ := h hl
 rw [h1, operF, if_pos ho] at hp
 cases he : op (toks s1) with
 | error c => rw [he] at hp; cases hp
 | ok z => exact ⟨z.1, z.2, rfl⟩
theorem pre_res {live : Bool} {ex op : P} {s s1 s2 o : List UInt8} {l l2 : List Vr} {v c : Int} (h1 : toks s = o :: toks s1) (ho : isPre o = true) (h : DRes live (op (toks s1)) l v s2 l2 c) : DRes live (operF ex op (toks s)) l (chg o v) s2 l2 c := by
 rw [h1, operF, if_pos ho]
 rcases h.cases with ⟨he, hc⟩ | ⟨x, r, hv, he, rfl, rfl, ht⟩ | ⟨x, r, hv, he, rfl, hx, ht⟩ | ⟨x, r, hv, he, hc, hx⟩
 · rw [he]; exact .err rfl hc
 · subst hv; rw [he]; exact .dead rfl ht
 · subst hv; rw [he]; exact .live rfl (by rw [ev, hx]) rfl rfl ht
 · subst hv; rw [he]; exact .fails rfl (by rw [ev, hx]) hc
theorem leaf_res {live : Bool} {ex op : P} {s T tk q : List UInt8} {l : List Vr} (hT : T = trim s) (htk : tk = T.take (runL T)) (hq : q = T.drop (runL T)) (h : opS T ∉ heads) : DRes live (operF ex op (toks s)) l ((leafV live tk l).getD 0) q l (if (leafV live tk l).isSome then 0 else 130) := by
 rw [leaf_oper ex op hT htk hq h]
 unfold leafP leafV
 by_cases h0 : tk = []
 · rw [if_pos h0, if_pos h0]; exact .err rfl (by decide)
 · rw [if_neg h0, if_neg h0]
   by_cases h1 : isNm tk = true
   · rw [if_pos h1, if_pos h1]
     cases live with
     | false => rw [if_neg (by decide)]; exact .dead rfl rfl
     | true =>
       rw [if_pos rfl]
       cases hv : valV (toL (getD l (bs tk)).value) with
       | none => exact .fails rfl (by rw [ev, hv]; rfl) (by decide)
       | some n => exact .live rfl (by rw [ev, hv]; rfl) rfl rfl rfl
   · rw [if_neg h1, if_neg h1]
     cases hv : litV tk with
     | none => exact .err rfl (by decide)
     | some n =>
       cases live with
       | false => exact .dead rfl rfl
       | true => exact .live rfl (by rw [ev]; rfl) rfl rfl rfl
end Ar
end Go.Proofs.YtlggpefmojacoaaGreatDoor
end
section
namespace Go.Proofs.YtlggpefmojacoaaGreatDoor
open Go.RowKit Tx
namespace Ar
open Va (Vr VS getD set Sorted)

structure BS (live : Bool) (p : R) (f : P) (least : Nat) (l : List Vr) (v : Int) (s' : List UInt8) (l' : List Vr) (x : Ex) : Prop where
 eq : p = blp f least (toks s').length x (toks s')
 lv : live = true → ev x l = .ok (v, l')
 dd : live = false → l' = l
section
variable {live : Bool} {f : P} {least : Nat} {p : R} {s s1 : List UInt8} {l l1 : List Vr} {v : Int} {c : Int}
theorem bs_p (hf : ∀ ts e r, f ts = .ok (e, r) → r <:+ ts) (h1 : 1 ≤ least) (h2 : least ≤ 11) (hp : p = lev f (11 - least) (toks s)) : p = bindR (f (toks s)) fun e r => blp f least r.length e r := by
 rw [hp, lev_blp hf _ (by omega), show 11 - (11 - least) = least by omega]
 cases f (toks s) <;> rfl
theorem bs_liv (hf : ∀ ts e r, f ts = .ok (e, r) → r <:+ ts) (h1 : 1 ≤ least) (h2 : least ≤ 11) (hp : p = lev f (11 - least) (toks s)) (hl : LivOk live p) : LivOk live (f (toks s)) := fun h => by
 obtain ⟨x, r, hx⟩ := hl h
 rw [bs_p hf h1 h2 hp] at hx
 cases he : f (toks s) with
 | error c => rw [he] at hx; cases hx
 | ok z => exact ⟨z.1, z.2, rfl⟩
theorem bs_start (hf : ∀ ts e r, f ts = .ok (e, r) → r <:+ ts) (h1 : 1 ≤ least) (h2 : least ≤ 11) (hp : p = lev f (11 - least) (toks s)) (h : DRes live (f (toks s)) l v s1 l1 0) : ∃ x, BS live p f least l v s1 l1 x := by
 rw [bs_p hf h1 h2 hp]
 rcases h.cases with ⟨he, hc⟩ | ⟨x, r, hv, he, _, rfl, ht⟩ | ⟨x, r, hv, he, _, hx, ht⟩ | ⟨x, r, hv, he, hc, hx⟩
 · exact absurd rfl hc
 · subst hv; rw [he]; subst ht; exact ⟨x, rfl, fun h => (by cases h), fun _ => rfl⟩
 · subst hv; rw [he]; subst ht; exact ⟨x, rfl, fun _ => hx, fun h => (by cases h)⟩
 · exact absurd rfl hc
theorem bs_fail0 (hf : ∀ ts e r, f ts = .ok (e, r) → r <:+ ts) (h1 : 1 ≤ least) (h2 : least ≤ 11) (hp : p = lev f (11 - least) (toks s)) (hl : LivOk live p) (h : DRes live (f (toks s)) l v s1 l1 c) (hc : c ≠ 0) {u : Int} {s2 : List UInt8} {l2 : List Vr} : DRes live p l u s2 l2 c := by
 have hp2 := bs_p hf h1 h2 hp
 rcases h.cases with ⟨he, hc⟩ | ⟨x, r, hv, he, h0, rfl, ht⟩ | ⟨x, r, hv, he, h0, hx, ht⟩ | ⟨x, r, hv, he, hc, hx⟩
 · rw [hp2, he]; exact .err rfl hc
 · exact absurd h0 hc
 · exact absurd h0 hc
 · subst hv
   obtain ⟨y, r2, hy⟩ := hl rfl
   have hy2 := hy
   rw [hp2, he] at hy2
   exact .fails hy (blp_err hy2 hx) hc
theorem bs_end {s' : List UInt8} {l' : List Vr} {x : Ex} (h : BS live p f least l v s' l' x) (ho : levelOf (opS (trim s')) < least ∨ levelOf (opS (trim s')) = 0) : DRes live p l v (trim s') l' 0 := by
 have hp := h.eq.trans (blp_end ho)
 cases live with
 | false => rw [h.dd rfl]; exact .dead hp (toks_trim _)
 | true => exact .live hp (h.lv rfl) rfl rfl (toks_trim _)
theorem bs_sub (hf : ∀ ts e r, f ts = .ok (e, r) → r <:+ ts) {s' q : List UInt8} {l' : List Vr} {x : Ex} {o : Tok} (h : BS live p f least l v s' l' x) (ho : opS (trim s') = o) (hgo : ¬ (levelOf o < least ∨ levelOf o = 0)) (hq : q = (trim s').drop o.length) (hl : LivOk live p) : LivOk live (lev f (10 - levelOf o) (toks q)) := fun hlv => by
 obtain ⟨X, r, hx⟩ := hl hlv
 rw [h.eq, blp_go hf ho hgo hq (Nat.le_refl _)] at hx
 cases he : lev f (10 - levelOf o) (toks q) with
 | error c => rw [he] at hx; cases hx
 | ok z => exact ⟨z.1, z.2, rfl⟩
theorem bs_next (hf : ∀ ts e r, f ts = .ok (e, r) → r <:+ ts) {s' q s2 : List UInt8} {l' l2 : List Vr} {x : Ex} {o : Tok} {live' : Bool} {v2 v' : Int} (h : BS live p f least l v s' l' x) (ho : opS (trim s') = o) (hgo : ¬ (levelOf o < least ∨ levelOf o = 0)) (hq : q = (trim s').drop o.length) (hd : DRes live' (lev f (10 - levelOf o) (toks q)) l' v2 s2 l2 0) (hll : live = false → live' = false)
   (hv : live = true → ∀ y, (live' = true → ev y l' = .ok (v2, l2)) → (live' = false → l2 = l') → snd o v (ev y) l' = .ok (v', l2)) : ∃ x', BS live p f least l v' s2 l2 x' := by
 have hp := h.eq.trans (blp_go hf ho hgo hq (Nat.le_refl _))
 rcases hd.cases with ⟨he, hc⟩ | ⟨y, r, hl, he, _, hl2, ht⟩ | ⟨y, r, hl, he, _, hx, ht⟩ | ⟨y, r, hl, he, hc, hx⟩
 · exact absurd rfl hc
 · rw [he] at hp
   subst ht
   refine ⟨.bin o x y, hp, fun hlv => ?_, fun hlv => by rw [hl2, h.dd hlv]⟩
   rw [ev, h.lv hlv]
   exact hv hlv y (fun e => by rw [hl] at e; cases e) (fun _ => hl2)
 · rw [he] at hp
   subst ht
   refine ⟨.bin o x y, hp, fun hlv => ?_, fun hlv => by rw [hll hlv] at hl; cases hl⟩
   rw [ev, h.lv hlv]
   exact hv hlv y (fun _ => hx) (fun e => by rw [hl] at e; cases e)
 · exact absurd rfl hc
theorem bs_fail (hf : ∀ ts e r, f ts = .ok (e, r) → r <:+ ts) {s' q s2 : List UInt8} {l' l2 : List Vr} {x : Ex} {o : Tok} {live' : Bool} {v2 : Int} (h : BS live p f least l v s' l' x) (ho : opS (trim s') = o) (hgo : ¬ (levelOf o < least ∨ levelOf o = 0)) (hq : q = (trim s').drop o.length) (hL : LivOk live p) (hd : DRes live' (lev f (10 - levelOf o) (toks q)) l' v2 s2 l2 c) (hc : c ≠ 0) (hll : live = false → live' = false)
   (hv : live' = true → ∀ y, ev y l' = .error c → snd o v (ev y) l' = .error c) {u : Int} {s3 : List UInt8} {l3 : List Vr} : DRes live p l u s3 l3 c := by
 have hp := h.eq.trans (blp_go hf ho hgo hq (Nat.le_refl _))
 rcases hd.cases with ⟨he, hc⟩ | ⟨y, r, hl, he, h0, hl2, ht⟩ | ⟨y, r, hl, he, h0, hx, ht⟩ | ⟨y, r, hl, he, hc, hx⟩
 · rw [he] at hp; exact .err hp hc
 · exact absurd h0 hc
 · exact absurd h0 hc
 · have hlv : live = true := by
     cases live with
     | true => rfl
     | false => rw [hll rfl] at hl; cases hl
   obtain ⟨X, r2, hX⟩ := hL hlv
   rw [he] at hp
   subst hlv
   exact .fails hX (blp_err (hp.symm.trans hX) (by rw [ev, h.lv rfl]; exact hv hl y hx)) hc
theorem bs_two (hf : ∀ ts e r, f ts = .ok (e, r) → r <:+ ts) {s' q s2 : List UInt8} {l' l2 : List Vr} {x : Ex} {o : Tok} {v2 : Int} (h : BS true p f least l v s' l' x) (ho : opS (trim s') = o) (hgo : ¬ (levelOf o < least ∨ levelOf o = 0)) (hq : q = (trim s').drop o.length) (hL : LivOk true p) (hd : DRes true (lev f (10 - levelOf o) (toks q)) l' v2 s2 l2 0) (hc : c ≠ 0)
   (hv : ∀ y, ev y l' = .ok (v2, l2) → snd o v (ev y) l' = .error c) {u : Int} {s3 : List UInt8} {l3 : List Vr} : DRes true p l u s3 l3 c := by
 have hp := h.eq.trans (blp_go hf ho hgo hq (Nat.le_refl _))
 rcases hd.cases with ⟨he, hc⟩ | ⟨y, r, hl, he, h0, hl2, ht⟩ | ⟨y, r, hl, he, h0, hx, ht⟩ | ⟨y, r, hl, he, hc, hx⟩
 · exact absurd rfl hc
 · cases hl
 · obtain ⟨X, r2, hX⟩ := hL rfl
   rw [he] at hp
   exact .fails hX (blp_err (hp.symm.trans hX) (by rw [ev, h.lv rfl]; exact hv y hx)) hc
 · exact absurd rfl hc
end
theorem two_ne {o : Tok} {a b d : Int} (h : two o a b = .error d) : d ≠ 0 := by
 unfold two at h
 by_cases h1 : o = [43]
 · rw [if_pos h1] at h; cases h
 rw [if_neg h1] at h
 by_cases h2 : o = [45]
 · rw [if_pos h2] at h; cases h
 rw [if_neg h2] at h
 by_cases h3 : o = [42]
 · rw [if_pos h3] at h; cases h
 rw [if_neg h3] at h
 by_cases h4 : o = [47]
 · rw [if_pos h4] at h
   by_cases hb : b = 0
   · rw [if_pos hb] at h; cases h; decide
   · rw [if_neg hb] at h; cases h
 rw [if_neg h4] at h
 by_cases h5 : o = [37]
 · rw [if_pos h5] at h
   by_cases hb : b = 0
   · rw [if_pos hb] at h; cases h; decide
   · rw [if_neg hb] at h; cases h
 rw [if_neg h5] at h
 by_cases h6 : o = [60, 60]
 · rw [if_pos h6] at h; cases h
 rw [if_neg h6] at h
 by_cases h7 : o = [62, 62]
 · rw [if_pos h7] at h; cases h
 rw [if_neg h7] at h
 by_cases h8 : o = [38]
 · rw [if_pos h8] at h; cases h
 rw [if_neg h8] at h
 by_cases h9 : o = [124]
 · rw [if_pos h9] at h; cases h
 rw [if_neg h9] at h
 by_cases h10 : o = [94]
 · rw [if_pos h10] at h; cases h
 rw [if_neg h10] at h
 by_cases h11 : o = [60]
 · rw [if_pos h11] at h; cases h
 rw [if_neg h11] at h
 by_cases h12 : o = [60, 61]
 · rw [if_pos h12] at h; cases h
 rw [if_neg h12] at h
 by_cases h13 : o = [62]
 · rw [if_pos h13] at h; cases h
 rw [if_neg h13] at h
 by_cases h14 : o = [62, 61]
 · rw [if_pos h14] at h; cases h
 rw [if_neg h14] at h
 by_cases h15 : o = [61, 61]
 · rw [if_pos h15] at h; cases h
 rw [if_neg h15] at h
 cases h
theorem snd_or {a : Int} {f : List Vr → V} {l : List Vr} : snd [124, 124] a f l = if a = 0 then (match f l with | .error c => .error c | .ok (m, l2) => .ok (bit (m != 0), l2)) else .ok (1, l) := by rw [snd, if_pos rfl]; rfl
theorem snd_and {a : Int} {f : List Vr → V} {l : List Vr} : snd [38, 38] a f l = if a = 0 then .ok (0, l) else (match f l with | .error c => .error c | .ok (m, l2) => .ok (bit (m != 0), l2)) := by rw [snd, if_neg (by decide), if_pos rfl]; rfl
theorem snd_two {o : Tok} {a : Int} {f : List Vr → V} {l : List Vr} (h1 : o ≠ [124, 124]) (h2 : o ≠ [38, 38]) : snd o a f l = match f l with | .error c => .error c | .ok (m, l2) => (match two o a m with | .error c => .error c | .ok r => .ok (r, l2)) := by rw [snd, if_neg h1, if_neg h2]; rfl

section
variable {live : Bool} {op ex cd : P} {s s1 s2 s3 s4 s5 : List UInt8} {l l1 la lb : List Vr} {v va vb c : Int}
theorem cond_liv (hl : LivOk live (condF op ex cd (toks s))) : LivOk live (lev op 10 (toks s)) := fun h => by
 obtain ⟨x, r, hx⟩ := hl h
 unfold condF at hx
 cases he : lev op 10 (toks s) with
 | error c => rw [he] at hx; cases hx
 | ok z => exact ⟨z.1, z.2, rfl⟩
theorem cond_fail (hl : LivOk live (condF op ex cd (toks s))) (h : DRes live (lev op 10 (toks s)) l v s1 l1 c) (hc : c ≠ 0) {u : Int} {s9 : List UInt8} {l9 : List Vr} : DRes live (condF op ex cd (toks s)) l u s9 l9 c := by
 rcases h.cases with ⟨he, hc⟩ | ⟨x, r, hv, he, h0, rfl, ht⟩ | ⟨x, r, hv, he, h0, hx, ht⟩ | ⟨x, r, hv, he, hc, hx⟩
 · refine .err ?_ hc
   unfold condF; rw [he]
 · exact absurd h0 hc
 · exact absurd h0 hc
 · subst hv
   obtain ⟨X, r2, hX⟩ := hl rfl
   refine .fails hX ?_ hc
   unfold condF at hX
   rw [he] at hX
   split at hX
   · cases hX
   · rename_i h0; cases h0
     split at hX
     · cases hX
     · split at hX
       · cases hX
       · cases hX; rw [ev, hx]
     · cases hX
   · rename_i h0; cases h0; cases hX; exact hx
theorem cond_noq {x : Ex} {r : List Tok} (he : lev op 10 (toks s) = .ok (x, r)) (hr : ∀ q, r ≠ [63] :: q) : condF op ex cd (toks s) = .ok (x, r) := by
 unfold condF
 rw [he]
 split
 · rename_i h0; cases h0
 · rename_i h0; cases h0; exact absurd rfl (hr _)
 · rename_i h0; cases h0; rfl
theorem cond_no (h : DRes live (lev op 10 (toks s)) l v s1 l1 0) (ho : opS (trim s1) ≠ [63]) : DRes live (condF op ex cd (toks s)) l v (trim s1) l1 0 := by
 rw [op_head] at ho
 have hq : ∀ r, toks s1 = r → ∀ q, r ≠ [63] :: q := by
   rintro r h q rfl
   rw [h] at ho
   exact ho rfl
 rcases h.cases with ⟨he, hc⟩ | ⟨x, r, hv, he, h0, rfl, ht⟩ | ⟨x, r, hv, he, h0, hx, ht⟩ | ⟨x, r, hv, he, hc, hx⟩
 · exact absurd rfl hc
 · subst hv; exact .dead (cond_noq he (hq r ht)) (by rw [toks_trim, ht])
 · subst hv; exact .live (cond_noq he (hq r ht)) hx rfl rfl (by rw [toks_trim, ht])
 · exact absurd rfl hc
def colD (cd : P) (x : Ex) (z : R) : R := match z with
 | .error e => .error e
 | .ok (a, [58] :: r') => bindR (cd r') fun b r2 => .ok (.cho x a b, r2)
 | .ok _ => .error 130
theorem colD_ok (cd : P) (x a : Ex) (r : List Tok) : colD cd x (.ok (a, [58] :: r)) = bindR (cd r) fun b r2 => .ok (.cho x a b, r2) := rfl
theorem colD_no {cd : P} {x a : Ex} {r : List Tok} (h : ∀ q, r ≠ [58] :: q) : colD cd x (.ok (a, r)) = .error 130 := by
 unfold colD
 split
 · rename_i h0; cases h0
 · rename_i h0; cases h0; exact absurd rfl (h _)
 · rfl
theorem colD_any {cd : P} {x a X : Ex} {r r2 : List Tok} (h : colD cd x (.ok (a, r)) = .ok (X, r2)) : ∃ b, X = .cho x a b := by
 unfold colD at h
 split at h
 · cases h
 · rename_i h0; cases h0
   obtain ⟨b, r3, _, h2⟩ := bindR_inv h
   cases h2
   exact ⟨b, rfl⟩
 · cases h
theorem colD_err (cd : P) (x : Ex) (c : Int) : colD cd x (.error c) = .error c := rfl
structure CQ (live : Bool) (p : R) (ex cd : P) (l : List Vr) (v : Int) (s2 : List UInt8) (l1 : List Vr) (x : Ex) : Prop where
 eq : p = colD cd x (ex (toks s2))
 lv : live = true → ev x l = .ok (v, l1)
 dd : live = false → l1 = l
theorem cond_q (h : DRes live (lev op 10 (toks s)) l v s1 l1 0) (ho : opS (trim s1) = [63]) (hq : s2 = (trim s1).drop 1) : ∃ x, CQ live (condF op ex cd (toks s)) ex cd l v s2 l1 x := by
 have h2 := op_left ho (by decide)
 rw [show ([63] : Tok).length = 1 from rfl, ← hq] at h2
 have hp : ∀ x r, toks s1 = r → lev op 10 (toks s) = .ok (x, r) → condF op ex cd (toks s) = colD cd x (ex (toks s2)) := by
   intro x r hr he
   rw [h2] at hr
   subst hr
   unfold condF
   rw [he]
   show (match ex (toks s2) with | .error e => .error e | .ok (a, [58] :: r') => (match cd r' with | .error e => .error e | .ok (b, r2) => .ok (.cho x a b, r2)) | .ok _ => .error 130 : R) = _
   rfl
 rcases h.cases with ⟨he, hc⟩ | ⟨x, r, hv, he, h0, rfl, ht⟩ | ⟨x, r, hv, he, h0, hx, ht⟩ | ⟨x, r, hv, he, hc, hx⟩
 · exact absurd rfl hc
 · subst hv; exact ⟨x, hp x r ht he, fun h => (by cases h), fun _ => rfl⟩
 · subst hv; exact ⟨x, hp x r ht he, fun _ => hx, fun h => (by cases h)⟩
 · exact absurd rfl hc
variable {p : R} {x : Ex} {live1 live2 : Bool}
theorem cq_liv (h : CQ live p ex cd l v s2 l1 x) (hl : LivOk live p) (h1 : live1 = true → live = true) : LivOk live1 (ex (toks s2)) := fun hv => by
 obtain ⟨X, r, hX⟩ := hl (h1 hv)
 rw [h.eq] at hX
 cases he : ex (toks s2) with
 | error c => rw [he] at hX; cases hX
 | ok z => exact ⟨z.1, z.2, rfl⟩
theorem cq_fail (h : CQ live p ex cd l v s2 l1 x) (hl : LivOk live p) (h1 : live1 = (live && decide (v ≠ 0))) (hd : DRes live1 (ex (toks s2)) l1 va s3 la c) (hc : c ≠ 0) {u : Int} {s9 : List UInt8} {l9 : List Vr} : DRes live p l u s9 l9 c := by
 rcases hd.cases with ⟨he, hc⟩ | ⟨a, r, hv, he, h0, rfl, ht⟩ | ⟨a, r, hv, he, h0, hx, ht⟩ | ⟨a, r, hv, he, hc, hx⟩
 · exact .err (by rw [h.eq, he, colD_err]) hc
 · exact absurd h0 hc
 · exact absurd h0 hc
 · rw [h1, Bool.and_eq_true, decide_eq_true_eq] at hv
   obtain ⟨hlv, hv0⟩ := hv
   subst hlv
   obtain ⟨X, r2, hX⟩ := hl rfl
   refine .fails hX ?_ hc
   rw [h.eq, he] at hX
   obtain ⟨b, rfl⟩ := colD_any hX
   rw [ev, h.lv rfl]; dsimp only; rw [if_neg hv0, hx]
theorem cq_none (h : CQ live p ex cd l v s2 l1 x) (hd : DRes live1 (ex (toks s2)) l1 va s3 la 0) (ho : opS (trim s3) ≠ [58]) {u : Int} {s9 : List UInt8} {l9 : List Vr} : DRes live p l u s9 l9 130 := by
 rw [op_head] at ho
 have hq : ∀ r, toks s3 = r → ∀ a, ex (toks s2) = .ok (a, r) → p = .error 130 := by
   intro r hr a he
   rw [h.eq, he]
   refine colD_no ?_
   rintro q rfl
   rw [hr] at ho
   exact ho rfl
 rcases hd.cases with ⟨he, hc⟩ | ⟨a, r, hv, he, h0, rfl, ht⟩ | ⟨a, r, hv, he, h0, hx, ht⟩ | ⟨a, r, hv, he, hc, hx⟩
 · exact absurd rfl hc
 · exact .err (hq r ht a he) (by decide)
 · exact .err (hq r ht a he) (by decide)
 · exact absurd rfl hc
theorem cq_p (h : CQ live p ex cd l v s2 l1 x) (hd : DRes live1 (ex (toks s2)) l1 va s3 la 0) (ho : opS (trim s3) = [58]) (hq : s4 = (trim s3).drop 1) : ∃ a, (p = bindR (cd (toks s4)) fun b r2 => .ok (.cho x a b, r2)) ∧ (live1 = true → ev a l1 = .ok (va, la)) ∧ (live1 = false → la = l1) := by
 have h2 := op_left ho (by decide)
 rw [show ([58] : Tok).length = 1 from rfl, ← hq] at h2
 have hp : ∀ a r, toks s3 = r → ex (toks s2) = .ok (a, r) → p = bindR (cd (toks s4)) fun b r2 => .ok (.cho x a b, r2) := by
   intro a r hr he
   rw [h2] at hr
   subst hr
   rw [h.eq, he, colD_ok]
 rcases hd.cases with ⟨he, hc⟩ | ⟨a, r, hv, he, h0, rfl, ht⟩ | ⟨a, r, hv, he, h0, hx, ht⟩ | ⟨a, r, hv, he, hc, hx⟩
 · exact absurd rfl hc
 · subst hv; exact ⟨a, hp a r ht he, fun h => (by cases h), fun _ => rfl⟩
 · subst hv; exact ⟨a, hp a r ht he, fun _ => hx, fun h => (by cases h)⟩
 · exact absurd rfl hc
theorem cq_liv2 (h : CQ live p ex cd l v s2 l1 x) (hl : LivOk live p) (h2 : live2 = true → live = true) (hd : DRes live1 (ex (toks s2)) l1 va s3 la 0) (ho : opS (trim s3) = [58]) (hq : s4 = (trim s3).drop 1) : LivOk live2 (cd (toks s4)) := fun hv => by
 obtain ⟨a, hp, _⟩ := cq_p h hd ho hq
 obtain ⟨X, r, hX⟩ := hl (h2 hv)
 rw [hp] at hX
 cases he : cd (toks s4) with
 | error c => rw [he] at hX; cases hX
 | ok z => exact ⟨z.1, z.2, rfl⟩
theorem cq_end (h : CQ live p ex cd l v s2 l1 x) (h1 : live1 = (live && decide (v ≠ 0))) (h2 : live2 = (live && decide (v = 0))) (hd : DRes live1 (ex (toks s2)) l1 va s3 la 0) (ho : opS (trim s3) = [58]) (hq : s4 = (trim s3).drop 1) (hb : DRes live2 (cd (toks s4)) la vb s5 lb c) {u : Int} (hu : u = if v = 0 then vb else va) : DRes live p l u s5 lb c := by
 obtain ⟨a, hp, ha1, ha2⟩ := cq_p h hd ho hq
 rcases hb.cases with ⟨he, hc⟩ | ⟨b, r, hv, he, rfl, rfl, ht⟩ | ⟨b, r, hv, he, rfl, hx, ht⟩ | ⟨b, r, hv, he, hc, hx⟩
 · exact .err (by rw [hp, he]; rfl) hc
 · rw [he] at hp
   cases live with
   | false =>
     have e1 : live1 = false := by rw [h1]; rfl
     rw [ha2 e1, h.dd rfl]
     exact .dead hp ht
   | true =>
     have hv0 : v ≠ 0 := by
       intro e
       rw [h2, decide_eq_true e] at hv
       cases hv
     have e1 : live1 = true := by rw [h1, decide_eq_true hv0]; rfl
     rw [if_neg hv0] at hu
     refine .live hp (m := va) (l2 := lb) ?_ hu rfl ht
     rw [ev, h.lv rfl]; dsimp only; rw [if_neg hv0]; exact ha1 e1
 · rw [h2, Bool.and_eq_true, decide_eq_true_eq] at hv
   obtain ⟨hlv, hv0⟩ := hv
   subst hlv
   have e1 : live1 = false := by rw [h1, decide_eq_false (by simpa using hv0)]; rfl
   rw [he] at hp
   rw [if_pos hv0] at hu
   refine .live hp (m := vb) (l2 := lb) ?_ hu rfl ht
   rw [ev, h.lv rfl]; dsimp only; rw [if_pos hv0, ← ha2 e1]; exact hx
 · rw [h2, Bool.and_eq_true, decide_eq_true_eq] at hv
   obtain ⟨hlv, hv0⟩ := hv
   subst hlv
   have e1 : live1 = false := by rw [h1, decide_eq_false (by simpa using hv0)]; rfl
   rw [he] at hp
   refine .fails hp ?_ hc
   rw [ev, h.lv rfl]; dsimp only; rw [if_pos hv0, ← ha2 e1]; exact hx
end

section
variable {live : Bool} {ex : P} {p : R} {q s2 : List UInt8} {xn o : Tok} {l l2 l3 : List Vr} {n m c : Int}
def AsgP (p : R) (ex : P) (q : List UInt8) (xn o : Tok) : Prop := p = bindR (ex (toks q)) fun e r' => .ok (.asg xn o e, r')
theorem asg_liv (hp : AsgP p ex q xn o) (hl : LivOk live p) : LivOk live (ex (toks q)) := fun hv => by
 obtain ⟨X, r, hX⟩ := hl hv
 rw [hp] at hX
 cases he : ex (toks q) with
 | error c => rw [he] at hX; cases hX
 | ok z => exact ⟨z.1, z.2, rfl⟩
theorem asg_fail (hp : AsgP p ex q xn o) (h : DRes live (ex (toks q)) l n s2 l2 c) (hc : c ≠ 0) {u : Int} {s9 : List UInt8} {l9 : List Vr} : DRes live p l u s9 l9 c := by
 rcases h.cases with ⟨he, hc⟩ | ⟨x, r, hv, he, h0, rfl, ht⟩ | ⟨x, r, hv, he, h0, hx, ht⟩ | ⟨x, r, hv, he, hc, hx⟩
 · exact .err (by rw [hp, he]; rfl) hc
 · exact absurd h0 hc
 · exact absurd h0 hc
 · subst hv; exact .fails (by rw [hp, he]; rfl) (by rw [ev, hx]) hc
theorem asg_dead (hp : AsgP p ex q xn o) (h : DRes false (ex (toks q)) l n s2 l2 0) {u : Int} : DRes false p l u s2 l2 0 := by
 rcases h.cases with ⟨he, hc⟩ | ⟨x, r, hv, he, h0, rfl, ht⟩ | ⟨x, r, hv, he, h0, hx, ht⟩ | ⟨x, r, hv, he, hc, hx⟩
 · exact absurd rfl hc
 · exact .dead (by rw [hp, he]; rfl) ht
 · cases hv
 · exact absurd rfl hc
theorem asg_bad (hp : AsgP p ex q xn o) (h : DRes true (ex (toks q)) l n s2 l2 0) (ha : asgV xn o n l2 = .error c) (hc : c ≠ 0) {u : Int} {s9 : List UInt8} {l9 : List Vr} : DRes true p l u s9 l9 c := by
 rcases h.cases with ⟨he, hc⟩ | ⟨x, r, hv, he, h0, rfl, ht⟩ | ⟨x, r, hv, he, h0, hx, ht⟩ | ⟨x, r, hv, he, hc, hx⟩
 · exact absurd rfl hc
 · cases hv
 · refine .fails (by rw [hp, he]; rfl) ?_ hc
   rw [ev, hx]; dsimp only; rw [ha]
 · exact absurd rfl hc
theorem asg_set (hp : AsgP p ex q xn o) (h : DRes true (ex (toks q)) l n s2 l2 0) (ha : asgV xn o n l2 = .ok m) (hs : set l2 (bs xn) (digitsOf m) = .ok l3) : DRes true p l m s2 l3 0 := by
 rcases h.cases with ⟨he, hc⟩ | ⟨x, r, hv, he, h0, rfl, ht⟩ | ⟨x, r, hv, he, h0, hx, ht⟩ | ⟨x, r, hv, he, hc, hx⟩
 · exact absurd rfl hc
 · cases hv
 · refine .live (m := m) (l2 := l3) (by rw [hp, he]; rfl) ?_ rfl rfl ht
   rw [ev, hx]; dsimp only; rw [ha]; dsimp only; rw [putV, hs]
 · exact absurd rfl hc
theorem asg_ro (hp : AsgP p ex q xn o) (h : DRes true (ex (toks q)) l n s2 l2 0) (ha : asgV xn o n l2 = .ok m) (hs : set l2 (bs xn) (digitsOf m) = .error c) (hc : c ≠ 0) {u : Int} {s9 : List UInt8} {l9 : List Vr} : DRes true p l u s9 l9 c := by
 rcases h.cases with ⟨he, hc⟩ | ⟨x, r, hv, he, h0, rfl, ht⟩ | ⟨x, r, hv, he, h0, hx, ht⟩ | ⟨x, r, hv, he, hc, hx⟩
 · exact absurd rfl hc
 · cases hv
 · refine .fails (by rw [hp, he]; rfl) ?_ hc
   rw [ev, hx]; dsimp only; rw [ha]; dsimp only; rw [putV, hs]
 · exact absurd rfl hc
theorem set_ne {l : List Vr} {n x : ByteArray} {c : Int} (h : set l n x = .error c) : c ≠ 0 := by
 unfold Va.set at h
 split at h
 · cases h; decide
 · split at h
   · cases h; decide
   · cases h
end
end Ar
end Go.Proofs.YtlggpefmojacoaaGreatDoor
end
section
namespace Go.Proofs.YtlggpefmojacoaaGreatDoor
open Go.RowKit Tx
namespace Ar
open Va (Vr VS getD set Sorted)

def DrC (F : Nat) (p : P) (d : Int) : Prop := ∀ (w : World) (b : Nat) (s : List UInt8) (l : List Vr) (live : Bool), QM w b s l 0 → l.length + s.length ≤ 100000 → LivOk live (p (toks s)) →
 Calls Tryz.prog F #[.pointer (some ⟨b, 0, none⟩), .bool live, .int .i64 d] w (DOut w b s.length (l.length + s.length) live (p (toks s)) l)
theorem take_lit (o : Tok) (O : ByteArray) (hO : O = bs o) (ho : o ≠ []) (w : World) (b : Nat) (s : List UInt8) (l : List Vr) (c : Int) (h : QM w b s l c) (hs : s.length ≤ 100000) (t : Bool) (ht : t = decide (opS (trim s) = o)) :
   Calls Tryz.prog 88 #[.pointer (some ⟨b, 0, none⟩), .string O] w fun e w' => e = .returned (.bool t) ∧ Kept (QM w' b (if t then (trim s).drop o.length else trim s) l c) ∧ Kept (Only (· = b) w w') := by
 subst hO
 exact dtake_any w b s l c o h hs ho t ⟨ht⟩
theorem drop_lt {s : List UInt8} {o : Tok} (h : opS (trim s) = o) (h0 : o ≠ []) : ((trim s).drop o.length).length + o.length ≤ s.length := by
 have h1 := (op_mem h h0).2.length_le
 have h2 := trim_le s
 rw [List.length_drop]
 omega
section
variable {w : World} {b : Nat} {s : List UInt8} {l : List Vr} {live : Bool} {ex op : P} {d d1 : Int}
set_option maxHeartbeats 2000000 in
set_option maxRecDepth 100000 in
theorem prim_par (hE : DrC 46 ex d1) (hd : IntKind.i64.wrap (d + 1) = d1) (h : QM w b s l 0) (hm : l.length + s.length ≤ 100000) (hl : LivOk live (operF ex op (toks s))) (ho : opS (trim s) = [40]) :
   Calls Tryz.prog 125 #[.pointer (some ⟨b, 0, none⟩), .bool live, .int .i64 d] w (DOut w b s.length (l.length + s.length) live (operF ex op (toks s)) l) := by
 have h1 := op_left ho (by decide)
 have hlt := drop_lt ho (by decide)
 have HT : Kept (∀ w, QM w b s l 0 → _) := ⟨fun w h => take_lit [40] ⟨#[40]⟩ rfl (by decide) w b s l 0 h (by omega) true (decide_eq_true ho).symm⟩
 obtain ⟨s1, hs1⟩ : ∃ s1, s1 = (trim s).drop ([40] : Tok).length := ⟨_, rfl⟩
 simp only [if_true] at HT
 rw [← hs1] at h1 hlt HT
 simp only [List.length_cons, List.length_nil] at hlt
 have HE : Kept (∀ w, QM w b s1 l 0 → _) := ⟨fun w h => hE w b s1 l live h (by omega) (par_ok h1 hl)⟩
 have HP := Kept.mk h1
 have HL := Kept.mk hl
 have HM := Kept.mk (show s1.length ≤ s.length ∧ l.length + s1.length ≤ l.length + s.length ∧ l.length + s1.length ≤ 100000 from ⟨by omega, by omega, by omega⟩)
 have H := Kept.mk h
 clear hE h hm hl ho h1 hlt hs1
 generalize s.length = LL at HM ⊢
 generalize l.length + LL = MM at HM ⊢
 obtain ⟨PP, hPP⟩ : ∃ PP, PP = operF ex op (toks s) := ⟨_, rfl⟩
 rw [← hPP]
 have HPP := Kept.mk hPP
 clear hPP
 go_enter Tryz.func125, Tryz.ntmps125
 go_wp2_with fail
 go_at_call 88
 refine (HT.out _ H.out).mono ?_
 rintro e w1 ⟨rfl, h1, h2⟩
 have H1 := h1
 have HO1 := h2
 clear h1 h2
 go_wp2_with fail
 go_at_call 46
 refine (HE.out _ H1.out).mono ?_
 rintro e w2 ⟨v, s2, l2, c, rfl, hL, hM, hQ, hO, hD⟩
 obtain ⟨t, ht⟩ : ∃ t, t = decide (opS (trim s2) = [41]) := ⟨_, rfl⟩
 have HT2 := Kept.mk (take_lit [41] ⟨#[41]⟩ rfl (by decide) w2 b s2 l2 c hQ.out (by have := hM.out; have := HM.out; omega) t ht)
 have HTL := Kept.mk (trim_le s2)
 cases t with
 | true =>
   have ho2 : opS (trim s2) = [41] := of_decide_eq_true ht.symm
   have HD2 := Kept.mk (drop_lt ho2 (by decide))
   simp only [if_true] at HT2
   have HR : Kept (DRes live PP l v ((trim s2).drop ([41] : Tok).length) l2 c) := ⟨by rw [HPP.out]; exact par_true HP.out HL.out hD.out ho2 rfl⟩
   clear ht ho2
   generalize (trim s2).drop ([41] : Tok).length = s3 at HT2 HD2 HR
   go_wp2_with fail
   go_at_call 88
   refine HT2.out.mono ?_
   rintro e w3 ⟨rfl, h3, h4⟩
   have H3 := h3
   have HO3 := h4
   clear h3 h4
   go_wp2_with fail
   go_ret
   exact ⟨v, s3, l2, c, rfl, ⟨by have := HD2.out; have := hL.out; have := HM.out; omega⟩, ⟨by have := HD2.out; have := hM.out; have := HM.out; omega⟩, H3, ⟨(HO1.out.trans hO.out (fun i _ h => h)).trans HO3.out (fun i _ h => h)⟩, HR⟩
 | false =>
   have ho2 : opS (trim s2) ≠ [41] := of_decide_eq_false ht.symm
   simp only [Bool.false_eq_true, if_false] at HT2
   have HR : Kept (DRes live PP l v (trim s2) l2 (firstE c 130)) := ⟨by rw [HPP.out]; exact par_false HP.out HL.out hD.out ho2⟩
   have HF : Kept (∀ w, QM w b (trim s2) l2 c → _) := ⟨fun w h => fail_any w b (trim s2) l2 c 130 h⟩
   clear ht ho2
   generalize firstE c 130 = c3 at HR HF
   generalize trim s2 = s3 at HT2 HR HF HTL
   go_wp2_with fail
   go_at_call 88
   refine HT2.out.mono ?_
   rintro e w3 ⟨rfl, h3, h4⟩
   have H3 := h3
   have HO3 := h4
   clear h3 h4
   go_wp2_with fail
   go_at_call 47
   refine (HF.out _ H3.out).mono ?_
   rintro e w4 ⟨rfl, h3, h4⟩
   have H4 := h3
   have HO4 := h4
   clear h3 h4
   go_wp2_with fail
   go_ret
   exact ⟨v, s3, l2, c3, rfl, ⟨by have := HTL.out; have := hL.out; have := HM.out; omega⟩, ⟨by have := HTL.out; have := hM.out; have := HM.out; omega⟩, H4, ⟨((HO1.out.trans hO.out (fun i _ h => h)).trans HO3.out (fun i _ h => h)).trans HO4.out (fun i _ h => h)⟩, HR⟩
theorem prim_any (hE : DrC 46 ex d1) (hd : IntKind.i64.wrap (d + 1) = d1) (h : QM w b s l 0) (hm : l.length + s.length ≤ 100000) (hl : LivOk live (operF ex op (toks s))) (ho : opS (trim s) ∉ [[45], [43], [126], [33]]) :
   Calls Tryz.prog 125 #[.pointer (some ⟨b, 0, none⟩), .bool live, .int .i64 d] w (DOut w b s.length (l.length + s.length) live (operF ex op (toks s)) l) := by
 by_cases hp : opS (trim s) = [40]
 · exact prim_par hE hd h hm hl hp
 · refine (prim_leaf w b s (trim s) ((trim s).take (runL (trim s))) ((trim s).drop (runL (trim s))) l live d h (by omega) (by omega) hp rfl rfl rfl).mono ?_
   rintro e w' ⟨rfl, h1, h2⟩
   have hlen : ((trim s).drop (runL (trim s))).length ≤ s.length := by have := trim_le s; rw [List.length_drop]; omega
   refine ⟨_, _, _, _, rfl, ⟨hlen⟩, ⟨by omega⟩, h1, h2, ⟨leaf_res rfl rfl rfl ?_⟩⟩
   intro hh
   unfold heads at hh
   simp only [List.mem_cons, List.not_mem_nil, or_false] at hh ho
   rcases hh with hh | hh | hh | hh | hh
   · exact ho (.inl hh)
   · exact ho (.inr (.inl hh))
   · exact ho (.inr (.inr (.inl hh)))
   · exact ho (.inr (.inr (.inr hh)))
   · exact hp hh
end
end Ar
end Go.Proofs.YtlggpefmojacoaaGreatDoor
end
section
namespace Go.Proofs.YtlggpefmojacoaaGreatDoor
open Go.RowKit Tx
namespace Ar
open Va (Vr VS getD set Sorted)

section
variable {w : World} {b : Nat} {s : List UInt8} {l : List Vr} {live : Bool} {c : Int} {ex op : P} {d d1 : Int}
theorem un_bad (h : QM w b s l c) (hc : c ≠ 0) :
   Calls Tryz.prog 108 #[.pointer (some ⟨b, 0, none⟩), .bool live, .int .i64 d] w fun e w' => e = .returned (.int .i64 0) ∧ Kept (QM w' b s l c) ∧ Kept (Only (· = b) w w') := by
 have H := Kept.mk h
 have c2 := h.c2
 have HF : Kept (∀ w, QM w b s l c → _) := ⟨fun w h => fail_any w b s l c 2 h⟩
 rw [firstE_of hc] at HF
 have HC : Kept (∀ w, QM w b s l c → w.cell? ⟨b, 2, none⟩ = some (.int .i64 c)) := ⟨fun w h => h.c2⟩
 have hc1 : (c == 0) = false := beq_eq_false_iff_ne.2 hc
 have hc2 : (c != 0) = true := by simp [bne, hc1]
 clear h
 by_cases hd : 30 < d
 · go_enter Tryz.func108, Tryz.ntmps108
   go_wp2_with fail
   go_at_call 47
   refine (HF.out _ H.out).mono ?_
   rintro e w1 ⟨rfl, h1, h2⟩
   have H1 := h1
   have H2 := h2
   have k2 := HC.out _ h1.out
   clear h1 h2 c2
   go_wp2_with fail
   go_ret
   exact ⟨rfl, H1, H2⟩
 · go_enter Tryz.func108, Tryz.ntmps108
   go_wp2_with fail
   go_ret
   exact ⟨rfl, H, ⟨Only.refl _ _⟩⟩
theorem un_deep (hd : 30 < d) : DrC 108 (fun _ => .error 2) d := by
 intro w b s l live h hm hl
 have HF := Kept.mk (fail_any w b s l 0 2 h)
 rw [firstE_z] at HF
 have HC : Kept (∀ w, QM w b s l 2 → w.cell? ⟨b, 2, none⟩ = some (.int .i64 2)) := ⟨fun w h => h.c2⟩
 clear h hm hl
 go_enter Tryz.func108, Tryz.ntmps108
 go_wp2_with fail
 go_at_call 47
 refine HF.out.mono ?_
 rintro e w1 ⟨rfl, h1, h2⟩
 have H1 := h1
 have H2 := h2
 have k2 := HC.out _ h1.out
 clear h1 h2
 go_wp2_with fail
 go_ret
 exact ⟨0, s, l, 2, rfl, ⟨Nat.le_refl _⟩, ⟨Nat.le_refl _⟩, H1, H2, ⟨.err rfl (by decide)⟩⟩
set_option maxHeartbeats 2000000 in
set_option maxRecDepth 100000 in
theorem un_minus (hU : DrC 108 op d1) (hd : IntKind.i64.wrap (d + 1) = d1) (hdd : ¬ 30 < d) (h : QM w b s l 0) (hm : l.length + s.length ≤ 100000) (hl : LivOk live (operF ex op (toks s))) (ho : opS (trim s) = [45]) :
   Calls Tryz.prog 108 #[.pointer (some ⟨b, 0, none⟩), .bool live, .int .i64 d] w (DOut w b s.length (l.length + s.length) live (operF ex op (toks s)) l) := by
 have h1 := op_left ho (by decide)
 have hlt := drop_lt ho (by decide)
 have htl := trim_le s
 have htt := trim_trim s
 have HT0 : Kept (∀ w, QM w b s l 0 → _) := ⟨fun w h => take_lit [45] ⟨#[45]⟩ rfl (by decide) w b s l 0 h (by omega) true (by rw [ho]; decide)⟩
 simp only [if_true] at HT0
 obtain ⟨s1, hs1⟩ : ∃ s1, s1 = (trim s).drop ([45] : Tok).length := ⟨_, rfl⟩
 rw [← hs1] at h1 hlt HT0
 simp only [List.length_cons, List.length_nil] at hlt
 have HU : Kept (∀ w, QM w b s1 l 0 → _) := ⟨fun w h => hU w b s1 l live h (by omega) (pre_ok h1 (by decide) hl)⟩
 have HM := Kept.mk (show s1.length ≤ s.length ∧ l.length + s1.length ≤ l.length + s.length from ⟨by omega, by omega⟩)
 have HR : Kept (∀ v s2 l2 c, DRes live (op (toks s1)) l v s2 l2 c → DRes live (operF ex op (toks s)) l (wrap64 (-v)) s2 l2 c) := ⟨fun v s2 l2 c h => pre_res h1 (by decide) h⟩
 have c2 := h.c2
 have H := Kept.mk h
 clear hU h hm hl ho h1 hlt hs1 htl htt
 generalize s.length = LL at HM ⊢
 generalize l.length + LL = MM at HM ⊢
 generalize operF ex op (toks s) = PP at HR ⊢
 go_enter Tryz.func108, Tryz.ntmps108
 go_wp2_with fail
 go_at_call 88
 refine (HT0.out _ H.out).mono ?_
 rintro e w1 ⟨rfl, h1, h2⟩
 have G0 := h1
 have O0 := h2
 clear h1 h2
 go_wp2_with fail
 go_at_call 108
 refine (HU.out _ G0.out).mono ?_
 rintro e w9 ⟨v, s2, l2, c, rfl, hL, hM, hQ, hO, hD⟩
 have HR2 := Kept.mk (HR.out _ _ _ _ hD.out)
 go_wp2_with fail
 go_ret
 exact ⟨_, s2, l2, c, rfl, ⟨by have := hL.out; have := HM.out; omega⟩, ⟨by have := hM.out; have := HM.out; omega⟩, hQ, ⟨O0.out.trans hO.out (fun i _ h => h)⟩, HR2⟩
set_option maxHeartbeats 2000000 in
set_option maxRecDepth 100000 in
theorem un_plus (hU : DrC 108 op d1) (hd : IntKind.i64.wrap (d + 1) = d1) (hdd : ¬ 30 < d) (h : QM w b s l 0) (hm : l.length + s.length ≤ 100000) (hl : LivOk live (operF ex op (toks s))) (ho : opS (trim s) = [43]) :
   Calls Tryz.prog 108 #[.pointer (some ⟨b, 0, none⟩), .bool live, .int .i64 d] w (DOut w b s.length (l.length + s.length) live (operF ex op (toks s)) l) := by
 have h1 := op_left ho (by decide)
 have hlt := drop_lt ho (by decide)
 have htl := trim_le s
 have htt := trim_trim s
 have HT0 : Kept (∀ w, QM w b s l 0 → _) := ⟨fun w h => take_lit [45] ⟨#[45]⟩ rfl (by decide) w b s l 0 h (by omega) false (by rw [ho]; decide)⟩
 simp only [Bool.false_eq_true, if_false] at HT0
 have HT1 : Kept (∀ w, QM w b (trim s) l 0 → _) := ⟨fun w h => take_lit [43] ⟨#[43]⟩ rfl (by decide) w b (trim s) l 0 h (by omega) true (by rw [htt]; rw [ho]; decide)⟩
 simp only [if_true] at HT1
 rw [htt] at HT1
 obtain ⟨s1, hs1⟩ : ∃ s1, s1 = (trim s).drop ([43] : Tok).length := ⟨_, rfl⟩
 rw [← hs1] at h1 hlt HT1
 simp only [List.length_cons, List.length_nil] at hlt
 have HU : Kept (∀ w, QM w b s1 l 0 → _) := ⟨fun w h => hU w b s1 l live h (by omega) (pre_ok h1 (by decide) hl)⟩
 have HM := Kept.mk (show s1.length ≤ s.length ∧ l.length + s1.length ≤ l.length + s.length from ⟨by omega, by omega⟩)
 have HR : Kept (∀ v s2 l2 c, DRes live (op (toks s1)) l v s2 l2 c → DRes live (operF ex op (toks s)) l (v) s2 l2 c) := ⟨fun v s2 l2 c h => pre_res h1 (by decide) h⟩
 have c2 := h.c2
 have H := Kept.mk h
 clear hU h hm hl ho h1 hlt hs1 htl htt
 generalize s.length = LL at HM ⊢
 generalize l.length + LL = MM at HM ⊢
 generalize operF ex op (toks s) = PP at HR ⊢
 generalize trim s = T at *
 go_enter Tryz.func108, Tryz.ntmps108
 go_wp2_with fail
 go_at_call 88
 refine (HT0.out _ H.out).mono ?_
 rintro e w1 ⟨rfl, h1, h2⟩
 have G0 := h1
 have O0 := h2
 clear h1 h2
 go_wp2_with fail
 go_at_call 88
 refine (HT1.out _ G0.out).mono ?_
 rintro e w2 ⟨rfl, h1, h2⟩
 have G1 := h1
 have O1 := h2
 clear h1 h2
 go_wp2_with fail
 go_at_call 108
 refine (HU.out _ G1.out).mono ?_
 rintro e w9 ⟨v, s2, l2, c, rfl, hL, hM, hQ, hO, hD⟩
 have HR2 := Kept.mk (HR.out _ _ _ _ hD.out)
 go_wp2_with fail
 go_ret
 exact ⟨_, s2, l2, c, rfl, ⟨by have := hL.out; have := HM.out; omega⟩, ⟨by have := hM.out; have := HM.out; omega⟩, hQ, ⟨(O0.out.trans O1.out (fun i _ h => h)).trans hO.out (fun i _ h => h)⟩, HR2⟩
set_option maxHeartbeats 2000000 in
set_option maxRecDepth 100000 in
theorem un_not (hU : DrC 108 op d1) (hd : IntKind.i64.wrap (d + 1) = d1) (hdd : ¬ 30 < d) (h : QM w b s l 0) (hm : l.length + s.length ≤ 100000) (hl : LivOk live (operF ex op (toks s))) (ho : opS (trim s) = [126]) :
   Calls Tryz.prog 108 #[.pointer (some ⟨b, 0, none⟩), .bool live, .int .i64 d] w (DOut w b s.length (l.length + s.length) live (operF ex op (toks s)) l) := by
 have h1 := op_left ho (by decide)
 have hlt := drop_lt ho (by decide)
 have htl := trim_le s
 have htt := trim_trim s
 have HT0 : Kept (∀ w, QM w b s l 0 → _) := ⟨fun w h => take_lit [45] ⟨#[45]⟩ rfl (by decide) w b s l 0 h (by omega) false (by rw [ho]; decide)⟩
 simp only [Bool.false_eq_true, if_false] at HT0
 have HT1 : Kept (∀ w, QM w b (trim s) l 0 → _) := ⟨fun w h => take_lit [43] ⟨#[43]⟩ rfl (by decide) w b (trim s) l 0 h (by omega) false (by rw [htt]; rw [ho]; decide)⟩
 simp only [Bool.false_eq_true, if_false] at HT1
 rw [htt] at HT1
 have HT2 : Kept (∀ w, QM w b (trim s) l 0 → _) := ⟨fun w h => take_lit [126] ⟨#[126]⟩ rfl (by decide) w b (trim s) l 0 h (by omega) true (by rw [htt]; rw [ho]; decide)⟩
 simp only [if_true] at HT2
 rw [htt] at HT2
 obtain ⟨s1, hs1⟩ : ∃ s1, s1 = (trim s).drop ([126] : Tok).length := ⟨_, rfl⟩
 rw [← hs1] at h1 hlt HT2
 simp only [List.length_cons, List.length_nil] at hlt
 have HU : Kept (∀ w, QM w b s1 l 0 → _) := ⟨fun w h => hU w b s1 l live h (by omega) (pre_ok h1 (by decide) hl)⟩
 have HM := Kept.mk (show s1.length ≤ s.length ∧ l.length + s1.length ≤ l.length + s.length from ⟨by omega, by omega⟩)
 have HR : Kept (∀ v s2 l2 c, DRes live (op (toks s1)) l v s2 l2 c → DRes live (operF ex op (toks s)) l (bits .xor .i64 (-1) v) s2 l2 c) := ⟨fun v s2 l2 c h => pre_res h1 (by decide) h⟩
 have c2 := h.c2
 have H := Kept.mk h
 clear hU h hm hl ho h1 hlt hs1 htl htt
 generalize s.length = LL at HM ⊢
 generalize l.length + LL = MM at HM ⊢
 generalize operF ex op (toks s) = PP at HR ⊢
 generalize trim s = T at *
 go_enter Tryz.func108, Tryz.ntmps108
 go_wp2_with fail
 go_at_call 88
 refine (HT0.out _ H.out).mono ?_
 rintro e w1 ⟨rfl, h1, h2⟩
 have G0 := h1
 have O0 := h2
 clear h1 h2
 go_wp2_with fail
 go_at_call 88
 refine (HT1.out _ G0.out).mono ?_
 rintro e w2 ⟨rfl, h1, h2⟩
 have G1 := h1
 have O1 := h2
 clear h1 h2
 go_wp2_with fail
 go_at_call 88
 refine (HT2.out _ G1.out).mono ?_
 rintro e w3 ⟨rfl, h1, h2⟩
 have G2 := h1
 have O2 := h2
 clear h1 h2
 go_wp2_with fail
 go_at_call 108
 refine (HU.out _ G2.out).mono ?_
 rintro e w9 ⟨v, s2, l2, c, rfl, hL, hM, hQ, hO, hD⟩
 have HR2 := Kept.mk (HR.out _ _ _ _ hD.out)
 go_wp2_with fail
 go_ret
 exact ⟨_, s2, l2, c, rfl, ⟨by have := hL.out; have := HM.out; omega⟩, ⟨by have := hM.out; have := HM.out; omega⟩, hQ, ⟨((O0.out.trans O1.out (fun i _ h => h)).trans O2.out (fun i _ h => h)).trans hO.out (fun i _ h => h)⟩, HR2⟩
set_option maxHeartbeats 2000000 in
set_option maxRecDepth 100000 in
theorem un_no (hU : DrC 108 op d1) (hd : IntKind.i64.wrap (d + 1) = d1) (hdd : ¬ 30 < d) (h : QM w b s l 0) (hm : l.length + s.length ≤ 100000) (hl : LivOk live (operF ex op (toks s))) (ho : opS (trim s) = [33]) :
   Calls Tryz.prog 108 #[.pointer (some ⟨b, 0, none⟩), .bool live, .int .i64 d] w (DOut w b s.length (l.length + s.length) live (operF ex op (toks s)) l) := by
 have h1 := op_left ho (by decide)
 have hlt := drop_lt ho (by decide)
 have htl := trim_le s
 have htt := trim_trim s
 have HT0 : Kept (∀ w, QM w b s l 0 → _) := ⟨fun w h => take_lit [45] ⟨#[45]⟩ rfl (by decide) w b s l 0 h (by omega) false (by rw [ho]; decide)⟩
 simp only [Bool.false_eq_true, if_false] at HT0
 have HT1 : Kept (∀ w, QM w b (trim s) l 0 → _) := ⟨fun w h => take_lit [43] ⟨#[43]⟩ rfl (by decide) w b (trim s) l 0 h (by omega) false (by rw [htt]; rw [ho]; decide)⟩
 simp only [Bool.false_eq_true, if_false] at HT1
 rw [htt] at HT1
 have HT2 : Kept (∀ w, QM w b (trim s) l 0 → _) := ⟨fun w h => take_lit [126] ⟨#[126]⟩ rfl (by decide) w b (trim s) l 0 h (by omega) false (by rw [htt]; rw [ho]; decide)⟩
 simp only [Bool.false_eq_true, if_false] at HT2
 rw [htt] at HT2
 have HT3 : Kept (∀ w, QM w b (trim s) l 0 → _) := ⟨fun w h => take_lit [33] ⟨#[33]⟩ rfl (by decide) w b (trim s) l 0 h (by omega) true (by rw [htt]; rw [ho]; decide)⟩
 simp only [if_true] at HT3
 rw [htt] at HT3
 obtain ⟨s1, hs1⟩ : ∃ s1, s1 = (trim s).drop ([33] : Tok).length := ⟨_, rfl⟩
 rw [← hs1] at h1 hlt HT3
 simp only [List.length_cons, List.length_nil] at hlt
 have HU : Kept (∀ w, QM w b s1 l 0 → _) := ⟨fun w h => hU w b s1 l live h (by omega) (pre_ok h1 (by decide) hl)⟩
 have HM := Kept.mk (show s1.length ≤ s.length ∧ l.length + s1.length ≤ l.length + s.length from ⟨by omega, by omega⟩)
 have HR : Kept (∀ v s2 l2 c, DRes live (op (toks s1)) l v s2 l2 c → DRes live (operF ex op (toks s)) l (bit (v == 0)) s2 l2 c) := ⟨fun v s2 l2 c h => pre_res h1 (by decide) h⟩
 have c2 := h.c2
 have H := Kept.mk h
 clear hU h hm hl ho h1 hlt hs1 htl htt
 generalize s.length = LL at HM ⊢
 generalize l.length + LL = MM at HM ⊢
 generalize operF ex op (toks s) = PP at HR ⊢
 generalize trim s = T at *
 go_enter Tryz.func108, Tryz.ntmps108
 go_wp2_with fail
 go_at_call 88
 refine (HT0.out _ H.out).mono ?_
 rintro e w1 ⟨rfl, h1, h2⟩
 have G0 := h1
 have O0 := h2
 clear h1 h2
 go_wp2_with fail
 go_at_call 88
 refine (HT1.out _ G0.out).mono ?_
 rintro e w2 ⟨rfl, h1, h2⟩
 have G1 := h1
 have O1 := h2
 clear h1 h2
 go_wp2_with fail
 go_at_call 88
 refine (HT2.out _ G1.out).mono ?_
 rintro e w3 ⟨rfl, h1, h2⟩
 have G2 := h1
 have O2 := h2
 clear h1 h2
 go_wp2_with fail
 go_at_call 88
 refine (HT3.out _ G2.out).mono ?_
 rintro e w4 ⟨rfl, h1, h2⟩
 have G3 := h1
 have O3 := h2
 clear h1 h2
 go_wp2_with fail
 go_at_call 108
 refine (HU.out _ G3.out).mono ?_
 rintro e w9 ⟨v, s2, l2, c, rfl, hL, hM, hQ, hO, hD⟩
 have HR2 := Kept.mk (HR.out _ _ _ _ hD.out)
 go_wp2_with fail
 go_at_call 32
 refine (refTruth_any _ _).mono ?_
 rintro e w10 ⟨rfl, rfl⟩
 go_wp2_with fail
 go_ret
 exact ⟨_, s2, l2, c, rfl, ⟨by have := hL.out; have := HM.out; omega⟩, ⟨by have := hM.out; have := HM.out; omega⟩, hQ, ⟨(((O0.out.trans O1.out (fun i _ h => h)).trans O2.out (fun i _ h => h)).trans O3.out (fun i _ h => h)).trans hO.out (fun i _ h => h)⟩, HR2⟩
set_option maxHeartbeats 2000000 in
set_option maxRecDepth 100000 in
theorem un_none (hE : DrC 46 ex d1) (hd : IntKind.i64.wrap (d + 1) = d1) (hdd : ¬ 30 < d) (h : QM w b s l 0) (hm : l.length + s.length ≤ 100000) (hl : LivOk live (operF ex op (toks s))) (ho : opS (trim s) ∉ [[45], [43], [126], [33]]) :
   Calls Tryz.prog 108 #[.pointer (some ⟨b, 0, none⟩), .bool live, .int .i64 d] w (DOut w b s.length (l.length + s.length) live (operF ex op (toks s)) l) := by
 have htl := trim_le s
 have htt := trim_trim s
 have hto := toks_trim s
 have ho2 := ho
 simp only [List.mem_cons, List.not_mem_nil, or_false, not_or] at ho2
 obtain ⟨n0, n1, n2, n3⟩ := ho2
 have HT0 : Kept (∀ w, QM w b s l 0 → _) := ⟨fun w h => take_lit [45] ⟨#[45]⟩ rfl (by decide) w b s l 0 h (by omega) false (by exact (decide_eq_false n0).symm)⟩
 simp only [Bool.false_eq_true, if_false] at HT0
 have HT1 : Kept (∀ w, QM w b (trim s) l 0 → _) := ⟨fun w h => take_lit [43] ⟨#[43]⟩ rfl (by decide) w b (trim s) l 0 h (by omega) false (by rw [htt]; exact (decide_eq_false n1).symm)⟩
 simp only [Bool.false_eq_true, if_false] at HT1
 rw [htt] at HT1
 have HT2 : Kept (∀ w, QM w b (trim s) l 0 → _) := ⟨fun w h => take_lit [126] ⟨#[126]⟩ rfl (by decide) w b (trim s) l 0 h (by omega) false (by rw [htt]; exact (decide_eq_false n2).symm)⟩
 simp only [Bool.false_eq_true, if_false] at HT2
 rw [htt] at HT2
 have HT3 : Kept (∀ w, QM w b (trim s) l 0 → _) := ⟨fun w h => take_lit [33] ⟨#[33]⟩ rfl (by decide) w b (trim s) l 0 h (by omega) false (by rw [htt]; exact (decide_eq_false n3).symm)⟩
 simp only [Bool.false_eq_true, if_false] at HT3
 rw [htt] at HT3
 have HU : Kept (∀ w, QM w b (trim s) l 0 → _) := ⟨fun w h => prim_any (op := op) hE hd h (by omega) (by rw [hto]; exact hl) (by rw [htt]; exact ho)⟩
 rw [hto] at HU
 have HM := Kept.mk htl
 have c2 := h.c2
 have H := Kept.mk h
 clear hE h hm hl ho htl htt hto n0 n1 n2 n3
 generalize operF ex op (toks s) = PP at HU ⊢
 generalize trim s = T at *
 go_enter Tryz.func108, Tryz.ntmps108
 go_wp2_with fail
 go_at_call 88
 refine (HT0.out _ H.out).mono ?_
 rintro e w1 ⟨rfl, h1, h2⟩
 have G0 := h1
 have O0 := h2
 clear h1 h2
 go_wp2_with fail
 go_at_call 88
 refine (HT1.out _ G0.out).mono ?_
 rintro e w2 ⟨rfl, h1, h2⟩
 have G1 := h1
 have O1 := h2
 clear h1 h2
 go_wp2_with fail
 go_at_call 88
 refine (HT2.out _ G1.out).mono ?_
 rintro e w3 ⟨rfl, h1, h2⟩
 have G2 := h1
 have O2 := h2
 clear h1 h2
 go_wp2_with fail
 go_at_call 88
 refine (HT3.out _ G2.out).mono ?_
 rintro e w4 ⟨rfl, h1, h2⟩
 have G3 := h1
 have O3 := h2
 clear h1 h2
 go_wp2_with fail
 go_at_call 125
 refine (HU.out _ G3.out).mono ?_
 rintro e w9 ⟨v, s2, l2, c, rfl, hL, hM, hQ, hO, hD⟩
 go_wp2_with fail
 go_ret
 exact ⟨_, s2, l2, c, rfl, ⟨by have := hL.out; have := HM.out; omega⟩, ⟨by have := hM.out; have := HM.out; omega⟩, hQ, ⟨(((O0.out.trans O1.out (fun i _ h => h)).trans O2.out (fun i _ h => h)).trans O3.out (fun i _ h => h)).trans hO.out (fun i _ h => h)⟩, hD⟩
theorem un_any (hE : DrC 46 ex d1) (hU : DrC 108 op d1) (hd : IntKind.i64.wrap (d + 1) = d1) (hdd : ¬ 30 < d) : DrC 108 (operF ex op) d := by
 intro w b s l live h hm hl
 by_cases h0 : opS (trim s) = [45]
 · exact un_minus hU hd hdd h hm hl h0
 by_cases h1 : opS (trim s) = [43]
 · exact un_plus hU hd hdd h hm hl h1
 by_cases h2 : opS (trim s) = [126]
 · exact un_not hU hd hdd h hm hl h2
 by_cases h3 : opS (trim s) = [33]
 · exact un_no hU hd hdd h hm hl h3
 refine un_none hE hd hdd h hm hl ?_
 simp only [List.mem_cons, List.not_mem_nil, or_false, not_or]
 exact ⟨h0, h1, h2, h3⟩
end
end Ar
end Go.Proofs.YtlggpefmojacoaaGreatDoor
end
