/-
  The document's braces: what is within them.
-/
import Derived.Test.YtphgnjjblpmijaaDoorWr8M
import Derived.Test.YtphgnjjblpmijaaDoorRsM
import Derived.Deep.DeepCutAuto
import Derived.Deep.CutBlock
import Derived.Laws.ResultCell
namespace Go.Proofs.YtphgnjjblpmijaaDoor
open Go.RowKit Tx
namespace Wx
open Lx

theorem res_two {P : Program} {fn : Func} {p u : Tmp} {ty : TypeId} (h : fn.results = #[.cell p ty, .tmp u]) (tmps : Array Value) (w : World) (g : Nat) (t : TypeId) (cs : Array Value) (fr : Nat × Nat) (d : TypeDesc)
    (hp : tmps.getD p undef = .pointer (some ⟨g, 0, none⟩)) (hg : w.heap[g]? = some (.cells cs t fr))
    (hu : P.underlying ty = some d) (hd : (match d with | .struct _ | .array _ _ => true | _ => false) = true) (hi : (P.info? ty).map (·.size) = some cs.size) :
    (results fn tmps).run P w = .ok (.tuple #[.agg cs, tmps.getD u undef]) w := by
  rw [results_cell_tmp h, hp]
  simp [asAddr, run_loadVar_row w g t ty cs fr d hg hu hd hi, Result.andThen]
/-- In blocks that are new. -/
def Nw (n : Nat) (g : Nat) : Prop := n ≤ g
def PEnd (w : World) (r : Except Int (List Pt)) (e : Ending) (w' : World) : Prop :=
  match r with
  | .ok l => ∃ A k, e = .returned (.tuple #[.slice A l.length k, .int .i64 0]) ∧ Kept (LV (Nw w.heap.size) w' (.slice A l.length k) l) ∧ Below w.heap.size w w'
  | .error c => e = .returned (.tuple #[.slice none 0 0, .int .i64 c]) ∧ (c == 0) = false ∧ Below w.heap.size w w'
def BEnd (w : World) (r : Except Int Pt) (e : Ending) (w' : World) : Prop :=
  match r with
  | .ok p => ∃ (q : Bool) (n o : List UInt8) (wd : List Pt) (A : Option Addr) (k : Nat), p = .mk 1 q [] n o wd ∧ e = .returned (.tuple #[.agg #[.int .i64 1, .bool q, .string ⟨#[]⟩, .string (bs n), .string (bs o), .slice A wd.length k], .int .i64 0]) ∧ Kept (LV (Nw w.heap.size) w' (.slice A wd.length k) wd) ∧ Below w.heap.size w w'
  | .error c => ∃ (q : Bool) (n o : ByteArray), e = .returned (.tuple #[.agg #[.int .i64 1, .bool q, .string ⟨#[]⟩, .string n, .string o, .slice none 0 0], .int .i64 c]) ∧ (c == 0) = false ∧ Below w.heap.size w w'
def PartsC (d : Nat) : Prop := ∀ (n : Nat) (x : ByteArray) (w : World) (mn : Int), n + d = 31 → mn = n → x.size ≤ 5000 → Calls Tryd.prog 18 #[.string x, .int .i64 mn] w (PEnd w (parts d (toL x)))
/-- What is done behind a name. -/
def bracesOn (w : List UInt8 → Except Int (List Pt)) (q : Bool) (n x : List UInt8) : Except Int Pt :=
  match opL x with
  | none => .error 90
  | some o =>
    if (o = [61] ∨ o = [58, 61]) ∧ nameL n = 0 then .error 90
    else match w (x.drop o.length) with
      | .error e => .error e
      | .ok l => if cmds l then .error 90 else .ok (.mk 1 q [] n o (if q then quotes l else l))
def wopVals : Array Value := #[.string ⟨#[58, 45]⟩, .string ⟨#[58, 61]⟩, .string ⟨#[58, 63]⟩, .string ⟨#[58, 43]⟩, .string ⟨#[37, 37]⟩, .string ⟨#[35, 35]⟩, .string ⟨#[45]⟩, .string ⟨#[61]⟩, .string ⟨#[63]⟩, .string ⟨#[43]⟩, .string ⟨#[37]⟩, .string ⟨#[35]⟩]
theorem wops_at (k : Nat) (hk : k < 12) : ∃ o, wops[k]? = some o ∧ wopVals[k]? = some (.string (bs o)) ∧ (1 ≤ o.length ∧ o.length ≤ 2) := by
  match k, hk with
  | 0, _ => exact ⟨_, rfl, rfl, by decide⟩
  | 1, _ => exact ⟨_, rfl, rfl, by decide⟩
  | 2, _ => exact ⟨_, rfl, rfl, by decide⟩
  | 3, _ => exact ⟨_, rfl, rfl, by decide⟩
  | 4, _ => exact ⟨_, rfl, rfl, by decide⟩
  | 5, _ => exact ⟨_, rfl, rfl, by decide⟩
  | 6, _ => exact ⟨_, rfl, rfl, by decide⟩
  | 7, _ => exact ⟨_, rfl, rfl, by decide⟩
  | 8, _ => exact ⟨_, rfl, rfl, by decide⟩
  | 9, _ => exact ⟨_, rfl, rfl, by decide⟩
  | 10, _ => exact ⟨_, rfl, rfl, by decide⟩
  | 11, _ => exact ⟨_, rfl, rfl, by decide⟩
  | k + 12, h => omega
structure BrM (w w' : World) (q : Bool) (n o : ByteArray) (v : Value) : Prop where
  r0 : w'.heap[w.heap.size]? = some (.cells #[.int .i64 0, .bool false, .string ⟨#[]⟩, .string ⟨#[]⟩, .string ⟨#[]⟩, .slice none 0 0] 39 (0, 0))
  r1 : w'.heap[w.heap.size + 1]? = some (.cells #[.int .i64 1, .bool q, .string ⟨#[]⟩, .string n, .string o, v] 39 (0, 0))
  bl : Below w.heap.size w w'
theorem BrM.begin (w : World) (q : Bool) : BrM w ((w.alloc (.cells #[.int .i64 0, .bool false, .string ⟨#[]⟩, .string ⟨#[]⟩, .string ⟨#[]⟩, .slice none 0 0] 39)).alloc (.cells #[.int .i64 1, .bool q, .string ⟨#[]⟩, .string ⟨#[]⟩, .string ⟨#[]⟩, .slice none 0 0] 39)) q ⟨#[]⟩ ⟨#[]⟩ (.slice none 0 0) :=
  ⟨(Below.heap_alloc _ _ _ (by simp)).trans (heap_alloc_new w _), by have := heap_alloc_new (w.alloc (.cells #[.int .i64 0, .bool false, .string ⟨#[]⟩, .string ⟨#[]⟩, .string ⟨#[]⟩, .slice none 0 0] 39)) (.cells #[.int .i64 1, .bool q, .string ⟨#[]⟩, .string ⟨#[]⟩, .string ⟨#[]⟩, .slice none 0 0] 39); rwa [World.size_alloc] at this, ((Below.refl _ _).alloc (Nat.le_refl _) _).alloc (by simp) _⟩
section
variable {w w' w1 w2 : World} {q : Bool} {n o : ByteArray} {v : Value}
theorem BrM.below (h : BrM w w1 q n o v) (hb : Below w1.heap.size w1 w2) : BrM w w2 q n o v :=
  ⟨(hb.block _ (Array.getElem?_eq_some_iff.1 h.r0).1).trans h.r0, (hb.block _ (Array.getElem?_eq_some_iff.1 h.r1).1).trans h.r1, h.bl.trans (hb.mono h.bl.size)⟩
theorem BrM.setN (h : BrM w w1 q n o v) (x : ByteArray) : BrM w (w1.setCell ⟨w.heap.size + 1, 3, none⟩ (.string x)) q x o v :=
  ⟨(Below.heap_setCell w1 _ _ _ (by simp)).trans h.r0, by have := heap_setCell_same w1 (w.heap.size + 1) 3 _ _ (.string x) h.r1; simpa using this, h.bl.setCell (by simp) _⟩
theorem BrM.setO (h : BrM w w1 q n o v) (x : ByteArray) : BrM w (w1.setCell ⟨w.heap.size + 1, 4, none⟩ (.string x)) q n x v :=
  ⟨(Below.heap_setCell w1 _ _ _ (by simp)).trans h.r0, by have := heap_setCell_same w1 (w.heap.size + 1) 4 _ _ (.string x) h.r1; simpa using this, h.bl.setCell (by simp) _⟩
theorem BrM.setV (h : BrM w w1 q n o v) (x : Value) : BrM w (w1.setCell ⟨w.heap.size + 1, 5, none⟩ x) q n o x :=
  ⟨(Below.heap_setCell w1 _ _ _ (by simp)).trans h.r0, by have := heap_setCell_same w1 (w.heap.size + 1) 5 _ _ x h.r1; simpa using this, h.bl.setCell (by simp) _⟩
theorem BrM.row (h : BrM w w1 q n o v) (cs : Array Value) : (w1.setRow w.heap.size cs).heap[w.heap.size]? = some (.cells cs 39 (0, 0)) ∧ Below w.heap.size w (w1.setRow w.heap.size cs) :=
  ⟨setRow_heap _ _ _ cs _ _ h.r0, h.bl.os, h.bl.tape, h.bl.output, by rw [setRow_size]; exact h.bl.size, fun i hi => (setRow_other _ _ i _ (by omega)).trans (h.bl.block i hi)⟩
theorem BrM.c3 (h : BrM w w' q n o v) : w'.cell? ⟨w.heap.size + 1, 3, none⟩ = some (.string n) := cell_of_row _ _ 3 _ _ _ h.r1
theorem BrM.c4 (h : BrM w w' q n o v) : w'.cell? ⟨w.heap.size + 1, 4, none⟩ = some (.string o) := cell_of_row _ _ 4 _ _ _ h.r1
theorem BrM.c5 (h : BrM w w' q n o v) : w'.cell? ⟨w.heap.size + 1, 5, none⟩ = some v := cell_of_row _ _ 5 _ _ _ h.r1
theorem BrM.f3 (h : BrM w w' q n o v) : w'.frozen? ⟨w.heap.size + 1, 3, none⟩ = false := frozen_of_row _ _ 3 _ _ h.r1
theorem BrM.f4 (h : BrM w w' q n o v) : w'.frozen? ⟨w.heap.size + 1, 4, none⟩ = false := frozen_of_row _ _ 4 _ _ h.r1
theorem BrM.f5 (h : BrM w w' q n o v) : w'.frozen? ⟨w.heap.size + 1, 5, none⟩ = false := frozen_of_row _ _ 5 _ _ h.r1
end
theorem LV.far {w w1 : World} {m : Nat} {v : Value} {l : List Pt} (h : LV (Nw m) w1 v l) (hm : w.heap.size + 2 ≤ m) (u : Value) (cs : Array Value) : LV (Nw w.heap.size) ((w1.setCell ⟨w.heap.size + 1, 5, Option.none⟩ u).setRow w.heap.size cs) v l :=
  h.same (fun g hP hg => ⟨show w.heap.size ≤ g from by have : m ≤ g := hP; omega, (setRow_other _ _ g _ (by have : m ≤ g := hP; omega)).trans (Below.heap_setCell w1 _ _ g (by have : m ≤ g := hP; show g ≠ w.heap.size + 1; omega))⟩) (by rw [setRow_size]; simp [World.setCell])
theorem LV.near {w w1 : World} {m : Nat} {v : Value} {l : List Pt} (h : LV (Nw m) w1 v l) (hm : w.heap.size + 2 ≤ m) (u : Value) : LV (Nw m) (w1.setCell ⟨w.heap.size + 1, 5, Option.none⟩ u) v l :=
  h.same (fun g hP hg => ⟨hP, Below.heap_setCell w1 _ _ g (by have : m ≤ g := hP; show g ≠ w.heap.size + 1; omega)⟩) (by simp [World.setCell])
set_option maxHeartbeats 8000000 in
set_option maxRecDepth 100000 in
theorem braces_any (d : Nat) (HP : Kept (PartsC d)) (n : Nat) (s : ByteArray) (q : Bool) (w : World) (mn : Int) (hn : n + d = 30) (hmn : mn = n) (hs : s.size ≤ 5000) :
    Calls Tryd.prog 36 #[.string s, .bool q, .int .i64 mn] w (BEnd w (braces (parts d) q (toL s))) := by
  subst hmn
  have HN := Kept.mk hn
  have HS := Kept.mk hs
  have n1 : (n : Int) ≤ 30 := by omega
  clear hn
  go_enter Tryd.func36, Tryd.ntmps36
  go_upto_region 2 with fail
  have HM0 : Kept (BrM w ((w.alloc (.cells #[.int .i64 0, .bool false, .string ⟨#[]⟩, .string ⟨#[]⟩, .string ⟨#[]⟩, .slice none 0 0] 39)).alloc (.cells #[.int .i64 1, .bool q, .string ⟨#[]⟩, .string ⟨#[]⟩, .string ⟨#[]⟩, .slice none 0 0] 39)) q ⟨#[]⟩ ⟨#[]⟩ (.slice none 0 0)) := ⟨BrM.begin w q⟩
  generalize (w.alloc (.cells #[.int .i64 0, .bool false, .string ⟨#[]⟩, .string ⟨#[]⟩, .string ⟨#[]⟩, .slice none 0 0] 39)).alloc (.cells #[.int .i64 1, .bool q, .string ⟨#[]⟩, .string ⟨#[]⟩, .string ⟨#[]⟩, .slice none 0 0] 39) = w1 at HM0 ⊢
  have hsl1 : 1 ≤ s.size → ∀ W : World, (Instr.slice 9 (.string s) (some (.int .i64 1)) none none).run Tryd.prog W = .ok (.string (s.extract 1 s.size)) W := fun h W => by
    rw [run_slice_string_from_if W 9 s .i64 _ Tryd.underlying9, if_pos ⟨by omega, by omega⟩]; rfl
  have h1d : toL (s.extract 1 s.size) = (toL s).drop 1 := by rw [toL_extract, List.take_of_length_le (by rw [List.length_drop, toL_length]; omega)]
  obtain ⟨b, hb⟩ : ∃ b, b = decide (1 < (toL s).length ∧ (toL s).head? = some 35 ∧ paramL ((toL s).drop 1) = (toL s).length - 1) := ⟨_, rfl⟩
  have HBb := Kept.mk hb
  clear hb
  go_cut [32] (fun t wc => t = .bool b ∧ Kept (wc = w1))
  case first =>
    by_cases h1 : 1 < s.size
    · have z1 : (1 : Int) < s.size := by omega
      have h0 : 0 < s.size := by omega
      have hhd : (toL s).head? = some (s[0]'h0) := by
        have := drop_at h0
        rw [List.drop_zero] at this
        rw [this]; rfl
      by_cases h35 : s[0]'h0 = 35
      · have y35 : (((s[0]'h0).toNat : Nat) : Int) = 35 := nat_byte (k := 35) h35 (by omega)
        obtain ⟨m, hm⟩ : ∃ m, m = paramL (toL (s.extract 1 s.size)) := ⟨_, rfl⟩
        have HMm := Kept.mk hm
        have hx : (s.extract 1 s.size).size ≤ 1000000 := by rw [ByteArray.size_extract]; omega
        have HX := Kept.mk hx
        have HR : Kept ((((m : Int) == (s.size : Int) - 1) : Bool) = b) := ⟨by
          rw [HBb.out, hm, h1d, hhd, h35, toL_length, Bool.eq_iff_iff, decide_eq_true_eq, beq_iff_eq]
          constructor
          · intro h; exact ⟨h1, rfl, by omega⟩
          · rintro ⟨_, _, h⟩; omega⟩
        have hsl1 := hsl1 (by omega)
        clear hm hhd h35 hx h1d
        generalize s.extract 1 s.size = x at *
        go_wp2_with (go_at_call 45; refine (param_any _ _ HX.out m HMm.out).mono ?_; rintro e w2 ⟨rfl, rfl⟩)
        go_meet
        exact ⟨by rw [← HR.out], ⟨rfl⟩⟩
      · have y35 : ((((s[0]'h0).toNat : Nat) : Int) == 35) = false := nat_nbyte (k := 35) h35 (by omega)
        have HR : Kept (b = false) := ⟨by rw [HBb.out, hhd]; simp [h35]⟩
        clear hhd h35 hsl1 h1d
        go_wp2_with fail
        go_meet
        exact ⟨by rw [HR.out], ⟨rfl⟩⟩
    · have z1 : ¬ (1 : Int) < s.size := by omega
      have HR : Kept (b = false) := ⟨by rw [HBb.out, toL_length]; simp [h1]⟩
      clear h1 hsl1 h1d
      go_wp2_with fail
      go_meet
      exact ⟨by rw [HR.out], ⟨rfl⟩⟩
  case rest =>
    obtain ⟨rfl, hw⟩ := hcut
    have hw := hw.out
    subst hw
    cases b with
    | true =>
      have hcond := of_decide_eq_true HBb.out.symm
      have HBr : Kept (braces (parts d) q (toL s) = .ok (.mk 1 q [] ((toL s).drop 1) lenOp [])) := ⟨by unfold braces; rw [if_pos hcond]⟩
      have h1 : 1 < s.size := by have := hcond.1; rw [toL_length] at this; exact this
      have HNm : Kept (bs ((toL s).drop 1) = s.extract 1 s.size) := ⟨by rw [← h1d, bs_toL]⟩
      have z1 : (1 : Int) ≤ s.size := by omega
      have hsl1 := hsl1 (by omega)
      clear hcond h1d
      generalize s.extract 1 s.size = x at *
      have x3 := HM0.out.c3
      have f3 := HM0.out.f3
      have HM1 := Kept.mk (HM0.out.setN x)
      have x4 := HM1.out.c4
      have f4 := HM1.out.f4
      have HM2 := Kept.mk (HM1.out.setO ⟨#[108, 101, 110]⟩)
      go_wp2_with (first
        | (refine wpList_load_row rfl 39 _ rfl (w.heap.size + 1) rfl 39 #[.int .i64 1, .bool q, .string ⟨#[]⟩, .string x, .string ⟨#[108, 101, 110]⟩, .slice none 0 0] (0, 0) _ HM2.out.r1 Tryd.underlying39 rfl (by kernel_rfl) ?_)
        | (refine wpList_store_row rfl 39 _ _ rfl _ _ rfl rfl 39 _ HM2.out.r0 (by kernel_rfl) rfl (by simp [Value.oneCell']) ?_
           have HO := Kept.mk (HM2.out.row #[.int .i64 1, .bool q, .string ⟨#[]⟩, .string x, .string ⟨#[108, 101, 110]⟩, .slice none 0 0])))
      refine bodyPost_ret (res_two rfl _ _ w.heap.size _ _ (0, 0) _ rfl HO.out.1 Tryd.underlying39 rfl (by kernel_rfl)) rfl ?_
      rw [HBr.out]
      exact ⟨q, (toL s).drop 1, lenOp, [], none, 0, rfl, by rw [show bs ((toL s).drop 1) = x from HNm.out]; rfl, ⟨.nil _ _ (fun _ => rfl)⟩, HO.out.2⟩

    | false =>
      clear hsl1
      have hcond := of_decide_eq_false HBb.out.symm
      obtain ⟨m, hm⟩ : ∃ m, m = paramL (toL s) := ⟨_, rfl⟩
      have HMm := Kept.mk hm
      have hs2 : s.size ≤ 1000000 := by omega
      by_cases hm0 : m = 0
      · subst hm0
        have HBr : Kept (braces (parts d) q (toL s) = .error 90) := ⟨by unfold braces; rw [if_neg hcond, if_pos HMm.out.symm]⟩
        have HCe : Kept (((90 : Int) == 0) = false) := ⟨by decide⟩
        clear hm hcond h1d
        go_wp2_with (first
          | (refine wpList_load_row rfl 39 _ rfl (w.heap.size + 1) rfl 39 #[.int .i64 1, .bool q, .string ⟨#[]⟩, .string ⟨#[]⟩, .string ⟨#[]⟩, .slice none 0 0] (0, 0) _ HM0.out.r1 Tryd.underlying39 rfl (by kernel_rfl) ?_)
          | (refine wpList_store_row rfl 39 _ _ rfl _ _ rfl rfl 39 _ HM0.out.r0 (by kernel_rfl) rfl (by simp [Value.oneCell']) ?_
             have HO := Kept.mk (HM0.out.row #[.int .i64 1, .bool q, .string ⟨#[]⟩, .string ⟨#[]⟩, .string ⟨#[]⟩, .slice none 0 0]))
          | (go_at_call 45; refine (param_any _ _ hs2 0 HMm.out).mono ?_; rintro e w2 ⟨rfl, rfl⟩))
        refine bodyPost_ret (res_two rfl _ _ w.heap.size _ _ (0, 0) _ rfl HO.out.1 Tryd.underlying39 rfl (by kernel_rfl)) rfl ?_
        rw [HBr.out]
        exact ⟨q, _, _, rfl, HCe.out, HO.out.2⟩

      · have m0 : ((m : Int) == 0) = false := by simpa using hm0
        have hml : m ≤ s.size := by have := paramL_le (toL s); rw [toL_length, ← hm] at this; exact this
        have z2 : (m : Int) ≤ s.size := by omega
        have hxd : toL (s.extract m s.size) = (toL s).drop m := by rw [toL_extract, List.take_of_length_le (by rw [List.length_drop, toL_length]; omega)]
        have hnm : toL (s.extract 0 m) = (toL s).take m := by rw [toL_extract, List.drop_zero, Nat.sub_zero]
        have HNm : Kept (bs ((toL s).take m) = s.extract 0 m) := ⟨by rw [← hnm, bs_toL]⟩
        have hxs : (s.extract m s.size).size = s.size - m := by rw [ByteArray.size_extract]; omega
        have HXD := Kept.mk hxd
        have HXS := Kept.mk hxs
        have HCo := Kept.mk hcond
        have HM0' : Kept (m ≠ 0) := ⟨hm0⟩
        have hns : (s.extract 0 m).size ≤ 5000 := by rw [ByteArray.size_extract]; omega
        have HNS := Kept.mk hns
        have hsl : ∀ W : World, (Instr.slice 9 (.string s) none (some (.int .i64 (m : Int))) none).run Tryd.prog W = .ok (.string (s.extract 0 m)) W := fun W => by
          rw [run_slice_string_to_if W 9 s .i64 _ Tryd.underlying9, if_pos ⟨by omega, by omega⟩, Int.toNat_natCast]
        have hsl2 : ∀ W : World, (Instr.slice 9 (.string s) (some (.int .i64 (m : Int))) none none).run Tryd.prog W = .ok (.string (s.extract m s.size)) W := fun W => by
          rw [run_slice_string_from_if W 9 s .i64 _ Tryd.underlying9, if_pos ⟨by omega, by omega⟩, Int.toNat_natCast]
        clear hm hcond h1d hxd hnm hxs hns hm0
        generalize s.extract m s.size = X at *
        generalize s.extract 0 m = x at *
        have x3 := HM0.out.c3
        have f3 := HM0.out.f3
        have HM1 := Kept.mk (HM0.out.setN x)
        by_cases hX : X = ⟨#[]⟩
        · subst hX
          have HBr : Kept (braces (parts d) q (toL s) = .ok (.mk 1 q [] ((toL s).take m) [] [])) := ⟨by
            unfold braces
            rw [if_neg HCo.out, if_neg (by rw [← HMm.out]; exact HM0'.out), ← HMm.out, if_pos (by rw [← HXD.out]; rfl)]⟩
          go_wp2_with (first
            | (go_at_call 45; refine (param_any _ _ hs2 m HMm.out).mono ?_; rintro e w2 ⟨rfl, rfl⟩)
            | (refine wpList_load_row rfl 39 _ rfl (w.heap.size + 1) rfl 39 #[.int .i64 1, .bool q, .string ⟨#[]⟩, .string x, .string ⟨#[]⟩, .slice none 0 0] (0, 0) _ HM1.out.r1 Tryd.underlying39 rfl (by kernel_rfl) ?_)
            | (refine wpList_store_row rfl 39 _ _ rfl _ _ rfl rfl 39 _ HM1.out.r0 (by kernel_rfl) rfl (by simp [Value.oneCell']) ?_
               have HO := Kept.mk (HM1.out.row #[.int .i64 1, .bool q, .string ⟨#[]⟩, .string x, .string ⟨#[]⟩, .slice none 0 0])))
          refine bodyPost_ret (res_two rfl _ _ w.heap.size _ _ (0, 0) _ rfl HO.out.1 Tryd.underlying39 rfl (by kernel_rfl)) rfl ?_
          rw [HBr.out]
          exact ⟨q, (toL s).take m, [], [], none, 0, rfl, by rw [show bs ((toL s).take m) = x from HNm.out]; rfl, ⟨.nil _ _ (fun _ => rfl)⟩, HO.out.2⟩

        · have hXe : (X.toList == ([] : List UInt8)) = false := not_empty (by
            rcases Nat.eq_zero_or_pos X.size with h | h
            · exact absurd (empty_of h) hX
            · exact h)
          have HXe : Kept ((toL s).drop m ≠ []) := ⟨fun e => hX (toL_inj (by rw [HXD.out, e]; rfl))⟩
          have HBr0 : Kept (braces (parts d) q (toL s) = bracesOn (parts d) q ((toL s).take m) (toL X)) := ⟨by
            unfold braces bracesOn
            rw [if_neg HCo.out, if_neg (by rw [← HMm.out]; exact HM0'.out), ← HMm.out, if_neg HXe.out, HXD.out]
            simp only [List.drop_drop]
            rfl⟩
          have HXs : Kept (X.size ≤ 5000) := ⟨by rw [HXS.out]; omega⟩
          clear hX HXe HXD HXS HCo HM0'
          go_upto_block 0 with (first
            | (go_at_call 45; refine (param_any _ _ hs2 m HMm.out).mono ?_; rintro e w2 ⟨rfl, rfl⟩))
          clear HMm HBb HM0 hsl hsl2 x3 f3
          have HM2 := Kept.mk (HM1.out.below ((Below.refl _ _).alloc (Nat.le_refl _) (.cells wopVals 9)))
          have hge : (wc.setCell ⟨w.heap.size + 1, 3, none⟩ (.string x)).heap.size = wc.heap.size := by simp
          have HOp : Kept (((wc.setCell ⟨w.heap.size + 1, 3, none⟩ (.string x)).alloc (.cells wopVals 9)).heap[wc.heap.size]? = some (.cells wopVals 9 (0, 0))) := ⟨by rw [← hge]; exact heap_alloc_new _ _⟩
          have HOg : Kept (wc.heap.size ≠ w.heap.size + 1) := ⟨by have := (Array.getElem?_eq_some_iff.1 HM1.out.r1).1; omega⟩
          unfold wopVals at HM2 HOp
          obtain ⟨go, hgo⟩ : ∃ go, go = wc.heap.size := ⟨_, rfl⟩
          rw [← hgo] at HOp HOg ⊢
          generalize World.alloc (wc.setCell ⟨w.heap.size + 1, 3, none⟩ (.string x)) _ = w2 at *
          clear hgo HM1 hge
          go_cut [11] (fun _ wx => ∃ op, Kept (BrM w wx q x op (.slice none 0 0)) ∧ Kept ((op = ⟨#[]⟩ ∧ opL (toL X) = none) ∨ ∃ o, op = bs o ∧ opL (toL X) = some o))
          case first =>
            go_wp2_with fail
            go_loopw [11] (fun i wr => ∃ (k : Nat) (op : ByteArray), k ≤ 12 ∧ i = .int .i64 (k : Int) ∧ Kept (BrM w wr q x op (.slice none 0 0)) ∧ Kept (wr.heap[go]? = some (.cells wopVals 9 (0, 0))) ∧ Kept ((op = ⟨#[]⟩ ∧ opL (toL X) = (wops.drop k).find? (fun o => o.isPrefixOf (toL X))) ∨ (∃ o, op = bs o ∧ o ≠ [] ∧ opL (toL X) = some o))) (fun i _ => 12 - (intOf i).toNat)
            case atStart => exact ⟨0, ⟨#[]⟩, by omega, rfl, HM2, ⟨HOp.out⟩, ⟨.inl ⟨rfl, rfl⟩⟩⟩
            case round =>
              obtain ⟨k, op, hk, rfl, HB, HO2, HC⟩ := hrel
              have y4 := HB.out.c4
              rcases HC.out with ⟨rfl, hf⟩ | ⟨o, rfl, hoe, hf⟩
              · by_cases hlt : k < 12
                · obtain ⟨o1, ho1, hv1, hl1⟩ := wops_at k hlt
                  have hd : wops.drop k = o1 :: wops.drop (k + 1) := by
                    obtain ⟨h1, h2⟩ := List.getElem?_eq_some_iff.1 ho1
                    rw [List.drop_eq_getElem_cons h1, h2]
                  rw [hd, List.find?_cons] at hf
                  have z : (k : Int) < 12 := by omega
                  have c : wr.cell? ⟨go, k, none⟩ = some (.string (bs o1)) := (cell_of_row _ _ k _ _ _ HO2.out).trans hv1
                  have HBs : Kept ((bs o1).size ≤ 1000000) := ⟨by rw [bs_size]; omega⟩
                  have HXs2 : Kept (X.size ≤ 1000000) := ⟨by have := HXs.out; omega⟩
                  cases hpx : o1.isPrefixOf (toL X) with
                  | true =>
                    have HPx : Kept (true = (toL (bs o1)).isPrefixOf (toL X)) := ⟨by rw [toL_bs]; exact hpx.symm⟩
                    rw [hpx] at hf
                    have HF : Kept (o1 ≠ [] ∧ opL (toL X) = some o1) := ⟨⟨fun e => by rw [e] at hl1; exact absurd hl1.1 (by decide), hf⟩⟩
                    have f4 := HB.out.f4
                    have HB3 := Kept.mk (HB.out.setO (bs o1))
                    have HO3 : Kept ((wr.setCell ⟨w.heap.size + 1, 4, none⟩ (.string (bs o1))).heap[go]? = some (.cells wopVals 9 (0, 0))) := ⟨(Below.heap_setCell wr _ _ _ HOg.out).trans HO2.out⟩
                    clear hpx hd ho1 hv1 hl1 hf HC HM2 HOp
                    go_wp2_with (go_at_call 35; refine (begins_any X (bs o1) _ true HXs2.out HBs.out HPx.out).mono ?_; rintro e w3 ⟨rfl, rfl⟩)
                    go_roundw
                    case rel => exact ⟨k + 1, _, by omega, by go_num, HB3, HO3, ⟨.inr ⟨o1, rfl, HF.out⟩⟩⟩
                    case measure => simp [intOf]; omega
                  | false =>
                    have HPx : Kept (false = (toL (bs o1)).isPrefixOf (toL X)) := ⟨by rw [toL_bs]; exact hpx.symm⟩
                    rw [hpx] at hf
                    have HF : Kept (opL (toL X) = (wops.drop (k + 1)).find? (fun o => o.isPrefixOf (toL X))) := ⟨hf⟩
                    clear hpx hd ho1 hv1 hl1 hf HC HM2 HOp
                    go_wp2_with (go_at_call 35; refine (begins_any X (bs o1) _ false HXs2.out HBs.out HPx.out).mono ?_; rintro e w3 ⟨rfl, rfl⟩)
                    go_roundw
                    case rel => exact ⟨k + 1, _, by omega, by go_num, HB, HO2, ⟨.inl ⟨rfl, HF.out⟩⟩⟩
                    case measure => simp [intOf]; omega
                · have z : ¬ (k : Int) < 12 := by omega
                  have HF : Kept (opL (toL X) = none) := ⟨by
                    rw [hf, List.drop_eq_nil_of_le (by show 12 ≤ k; omega)]; rfl⟩
                  clear hlt hf HC HM2 HOp
                  go_wp2_with fail
                  go_meet
                  exact ⟨_, HB, ⟨.inl ⟨rfl, HF.out⟩⟩⟩
              · have ye : ((bs o).toList == ([] : List UInt8)) = false := not_empty (by rw [bs_size]; exact List.length_pos_iff.2 hoe)
                have HF : Kept (opL (toL X) = some o) := ⟨hf⟩
                clear hf HC HM2 HOp hoe
                by_cases hlt : k < 12
                · have z : (k : Int) < 12 := by omega
                  clear hlt
                  go_wp2_with fail
                  go_meet
                  exact ⟨_, HB, ⟨.inr ⟨o, rfl, HF.out⟩⟩⟩
                · have z : ¬ (k : Int) < 12 := by omega
                  clear hlt
                  go_wp2_with fail
                  go_meet
                  exact ⟨_, HB, ⟨.inr ⟨o, rfl, HF.out⟩⟩⟩
          case rest =>
            clear HM2 HOp HOg w2
            obtain ⟨op, HB, HC⟩ := hcut
            have y4 := HB.out.c4
            have y3 := HB.out.c3
            rcases HC.out with ⟨rfl, ho⟩ | ⟨o, rfl, ho⟩
            · have HBr : Kept (braces (parts d) q (toL s) = .error 90) := ⟨by rw [HBr0.out]; unfold bracesOn; rw [ho]⟩
              have HCe : Kept (((90 : Int) == 0) = false) := ⟨by decide⟩
              clear HC ho
              go_upto_region 19 with fail
              go_wp2_with (first
                | (refine wpList_load_row rfl 39 _ rfl (w.heap.size + 1) rfl 39 #[.int .i64 1, .bool q, .string ⟨#[]⟩, .string x, .string ⟨#[]⟩, .slice none 0 0] (0, 0) _ HB.out.r1 Tryd.underlying39 rfl (by kernel_rfl) ?_)
                | (refine wpList_store_row rfl 39 _ _ rfl _ _ rfl rfl 39 _ HB.out.r0 (by kernel_rfl) rfl (by simp [Value.oneCell']) ?_
                   have HO := Kept.mk (HB.out.row #[.int .i64 1, .bool q, .string ⟨#[]⟩, .string x, .string ⟨#[]⟩, .slice none 0 0])))
              refine bodyPost_ret (res_two rfl _ _ w.heap.size _ _ (0, 0) _ rfl HO.out.1 Tryd.underlying39 rfl (by kernel_rfl)) rfl ?_
              rw [HBr.out]
              exact ⟨q, _, _, rfl, HCe.out, HO.out.2⟩

            · have hol := opL_le ho
              have ye : ((bs o).toList == ([] : List UInt8)) = false := not_empty (by rw [bs_size]; omega)
              obtain ⟨nl, hnl⟩ : ∃ nl, nl = nameL (toL x) := ⟨_, rfl⟩
              have HNl := Kept.mk hnl
              have hxn : toL x = (toL s).take m := by rw [← HNm.out, toL_bs]
              obtain ⟨bb, hbb⟩ : ∃ bb, bb = decide ((o = [61] ∨ o = [58, 61]) ∧ nl = 0) := ⟨_, rfl⟩
              have HBb := Kept.mk hbb
              have HBr1 : Kept (braces (parts d) q (toL s) = if bb then .error 90 else match parts d ((toL X).drop o.length) with | .error e => .error e | .ok l => if cmds l then .error 90 else .ok (.mk 1 q [] ((toL s).take m) o (if q then quotes l else l))) := ⟨by
                rw [HBr0.out]
                unfold bracesOn
                rw [ho, ← hxn, hbb, hnl]
                simp only [decide_eq_true_eq]⟩
              have e1 : ((bs o).toList == ([61] : List UInt8)) = decide (o = [61]) := by
                have h := beq_str (bs o) (bs [61])
                rw [show (bs [61]).toList = [61] from by decide +kernel] at h
                rw [h]
                exact decide_eq_decide.2 ⟨bs_inj, fun h => by rw [h]⟩
              have e2 : ((bs o).toList == ([58, 61] : List UInt8)) = decide (o = [58, 61]) := by
                have h := beq_str (bs o) (bs [58, 61])
                rw [show (bs [58, 61]).toList = [58, 61] from by decide +kernel] at h
                rw [h]
                exact decide_eq_decide.2 ⟨bs_inj, fun h => by rw [h]⟩
              have hi : (((nl : Nat) : Int) == 0) = decide (nl = 0) := by rw [Bool.eq_iff_iff, beq_iff_eq, decide_eq_true_eq]; omega
              have Hi := Kept.mk hi
              clear hi
              have HXo : Kept (o.length ≤ X.size ∧ 1 ≤ o.length) := ⟨by rw [← toL_length]; exact ⟨hol.2.2.1, hol.1⟩⟩
              have HNS2 : Kept (x.size ≤ 1000000) := ⟨by have := HNS.out; omega⟩
              clear HC ho hol hbb hnl hxn HBr0
              go_upto_region 18 with fail
              go_cut [94] (fun t wy => t = .bool bb ∧ Kept (wy = wc))
              case first =>
                by_cases h1 : o = [61]
                · rw [decide_eq_true h1] at e1
                  rw [decide_eq_false (by rw [h1]; decide)] at e2
                  have HR : Kept ((((nl : Nat) : Int) == 0) = bb) := ⟨by rw [HBb.out, Hi.out]; simp [h1]⟩
                  clear h1
                  go_wp2_with (go_at_call 37; refine (name_any _ _ HNS2.out nl HNl.out).mono ?_; rintro e w3 ⟨rfl, rfl⟩)
                  go_meet
                  exact ⟨by rw [← HR.out], ⟨rfl⟩⟩
                · by_cases h2 : o = [58, 61]
                  · rw [decide_eq_false h1] at e1
                    rw [decide_eq_true h2] at e2
                    have HR : Kept ((((nl : Nat) : Int) == 0) = bb) := ⟨by rw [HBb.out, Hi.out]; simp [h2]⟩
                    clear h1 h2
                    go_wp2_with (go_at_call 37; refine (name_any _ _ HNS2.out nl HNl.out).mono ?_; rintro e w3 ⟨rfl, rfl⟩)
                    go_meet
                    exact ⟨by rw [← HR.out], ⟨rfl⟩⟩
                  · rw [decide_eq_false h1] at e1
                    rw [decide_eq_false h2] at e2
                    have HR : Kept (bb = false) := ⟨by rw [HBb.out]; simp [h1, h2]⟩
                    clear h1 h2
                    go_wp2_with fail
                    go_meet
                    exact ⟨by rw [HR.out], ⟨rfl⟩⟩
              case rest =>
                obtain ⟨rfl, hwy⟩ := hcut
                have hwy := hwy.out
                subst hwy
                clear e1 e2 HBb HNl HNS2 Hi
                cases bb with
                | true =>
                  have HBr : Kept (braces (parts d) q (toL s) = .error 90) := ⟨by rw [HBr1.out]; rfl⟩
                  have HCe : Kept (((90 : Int) == 0) = false) := ⟨by decide⟩
                  go_wp2_with (first
                    | (refine wpList_load_row rfl 39 _ rfl (w.heap.size + 1) rfl 39 #[.int .i64 1, .bool q, .string ⟨#[]⟩, .string x, .string (bs o), .slice none 0 0] (0, 0) _ HB.out.r1 Tryd.underlying39 rfl (by kernel_rfl) ?_)
                    | (refine wpList_store_row rfl 39 _ _ rfl _ _ rfl rfl 39 _ HB.out.r0 (by kernel_rfl) rfl (by simp [Value.oneCell']) ?_
                       have HO := Kept.mk (HB.out.row #[.int .i64 1, .bool q, .string ⟨#[]⟩, .string x, .string (bs o), .slice none 0 0])))
                  refine bodyPost_ret (res_two rfl _ _ w.heap.size _ _ (0, 0) _ rfl HO.out.1 Tryd.underlying39 rfl (by kernel_rfl)) rfl ?_
                  rw [HBr.out]
                  exact ⟨q, _, _, rfl, HCe.out, HO.out.2⟩

                | false =>
                  obtain ⟨Y, hY⟩ : ∃ Y, Y = X.extract o.length X.size := ⟨_, rfl⟩
                  have hYl : toL Y = (toL X).drop o.length := by rw [hY, toL_extract, List.take_of_length_le (by rw [List.length_drop, toL_length]; omega)]
                  have HYs : Kept (Y.size ≤ 5000) := ⟨by rw [hY, ByteArray.size_extract]; have := HXs.out; omega⟩
                  have hbo := bs_size o
                  have hsl : ∀ W : World, (Instr.slice 9 (.string X) (some (.int .i64 ((bs o).size : Int))) none none).run Tryd.prog W = .ok (.string Y) W := fun W => by
                    rw [run_slice_string_from_if W 9 X .i64 _ Tryd.underlying9, if_pos ⟨by omega, by have := HXo.out; omega⟩, Int.toNat_natCast, hbo, hY]
                  have HG : Kept (w.heap.size + 2 ≤ wc.heap.size) := ⟨by have := (Array.getElem?_eq_some_iff.1 HB.out.r1).1; omega⟩
                  have HPc := Kept.mk (HP.out (n + 1) Y wc ((n : Int) + 1) (by have := HN.out; omega) (by omega) HYs.out)
                  have hwtY := parts_wt d (toL Y)
                  rw [← hYl] at HBr1
                  clear hY hYl hbo
                  unfold PEnd at HPc
                  cases hp : parts d (toL Y) with
                  | error ce =>
                    have HBr : Kept (braces (parts d) q (toL s) = .error ce) := ⟨by rw [HBr1.out, hp]; rfl⟩
                    rw [hp] at HPc
                    clear hp hwtY
                    have T1 : Kept True := ⟨trivial⟩
                    go_wp2_with (first
                      | (refine wpList_load_row rfl 39 _ rfl (w.heap.size + 1) rfl 39 #[.int .i64 1, .bool q, .string ⟨#[]⟩, .string x, .string (bs o), .slice none 0 0] (0, 0) _ HB5.out.r1 Tryd.underlying39 rfl (by kernel_rfl) ?_)
                      | (refine wpList_store_row rfl 39 _ _ rfl _ _ rfl rfl 39 _ HB5.out.r0 (by kernel_rfl) rfl (by simp [Value.oneCell']) ?_
                         have HO := Kept.mk (HB5.out.row #[.int .i64 1, .bool q, .string ⟨#[]⟩, .string x, .string (bs o), .slice none 0 0]))
                      | (go_at_call 18
                         have := T1
                         refine HPc.out.mono ?_
                         rintro e w5 ⟨rfl, hce, hb5⟩
                         clear T1 this
                         have HB5 := Kept.mk (HB.out.below hb5)
                         have y5 := HB5.out.c4
                         have HCe := Kept.mk hce))
                    refine bodyPost_ret (res_two rfl _ _ w.heap.size _ _ (0, 0) _ rfl HO.out.1 Tryd.underlying39 rfl (by kernel_rfl)) rfl ?_
                    rw [HBr.out]
                    exact ⟨q, _, _, rfl, HCe.out, HO.out.2⟩

                  | ok l =>
                    have hwl := hwtY l hp
                    rw [toL_length] at hwl
                    have HWl : Kept (wt l ≤ 10000) := ⟨by have := HYs.out; omega⟩
                    have HBr2 : Kept (braces (parts d) q (toL s) = if cmds l then .error 90 else .ok (.mk 1 q [] ((toL s).take m) o (if q then quotes l else l))) := ⟨by rw [HBr1.out, hp]; rfl⟩
                    rw [hp] at HPc
                    clear hp hwtY hwl HBr1
                    cases hcm : cmds l with
                    | true =>
                      have HBr : Kept (braces (parts d) q (toL s) = .error 90) := ⟨by rw [HBr2.out, hcm]; rfl⟩
                      have HCe : Kept (((90 : Int) == 0) = false) := ⟨by decide⟩
                      have HCm : Kept (true = cmds l) := ⟨hcm.symm⟩
                      clear hcm
                      have T1 : Kept True := ⟨trivial⟩
                      go_wp2_with (first
                        | (refine wpList_load_row rfl 39 _ rfl (w.heap.size + 1) rfl 39 #[.int .i64 1, .bool q, .string ⟨#[]⟩, .string x, .string (bs o), .slice none 0 0] (0, 0) _ HB5.out.r1 Tryd.underlying39 rfl (by kernel_rfl) ?_)
                        | (refine wpList_store_row rfl 39 _ _ rfl _ _ rfl rfl 39 _ HB5.out.r0 (by kernel_rfl) rfl (by simp [Value.oneCell']) ?_
                           have HO := Kept.mk (HB5.out.row #[.int .i64 1, .bool q, .string ⟨#[]⟩, .string x, .string (bs o), .slice none 0 0]))
                        | (go_at_call 18
                           have := T1
                           refine HPc.out.mono ?_
                           rintro e w5 ⟨A, kk, rfl, hl, hb5⟩
                           clear T1 this
                           have HB5 := Kept.mk (HB.out.below hb5)
                           have y5 := HB5.out.c4
                           have HL5 := hl
                           have x5 := HB5.out.c5
                           have f5 := HB5.out.f5
                           generalize hll : l.length = ll at *
                           have HLL := Kept.mk hll
                           clear hll hl hb5)
                        | (go_at_call 46
                           refine (commands_any (cnt l) l A ll kk w5 true rfl HL5.out (by have := cnt_wt l; have := HWl.out; omega) HCm.out).mono ?_
                           rintro e w6 ⟨rfl, rfl⟩))
                      refine bodyPost_ret (res_two rfl _ _ w.heap.size _ _ (0, 0) _ rfl HO.out.1 Tryd.underlying39 rfl (by kernel_rfl)) rfl ?_
                      rw [HBr.out]
                      exact ⟨q, _, _, rfl, HCe.out, HO.out.2⟩

                    | false =>
                      have HCm : Kept (false = cmds l) := ⟨hcm.symm⟩
                      cases q with
                      | false =>
                        have HBr : Kept (braces (parts d) false (toL s) = .ok (.mk 1 false [] ((toL s).take m) o l)) := ⟨by rw [HBr2.out, hcm]; rfl⟩
                        clear hcm
                        have T1 : Kept True := ⟨trivial⟩
                        go_wp2_with (first
                          | (go_at_call 18
                             have := T1
                             refine HPc.out.mono ?_
                             rintro e w5 ⟨A, kk, rfl, hl, hb5⟩
                             clear T1 this
                             have HB5 := Kept.mk (HB.out.below hb5)
                             have y5 := HB5.out.c4
                             have HL5 := hl
                             have x5 := HB5.out.c5
                             have f5 := HB5.out.f5
                             generalize hll : l.length = ll at *
                             have HLL := Kept.mk hll
                             clear hll hl hb5
                             have HB6 := Kept.mk (HB5.out.setV (.slice A ll kk)))
                          | (go_at_call 46
                             refine (commands_any (cnt l) l A ll kk w5 false rfl HL5.out (by have := cnt_wt l; have := HWl.out; omega) HCm.out).mono ?_
                             rintro e w6 ⟨rfl, rfl⟩)
                          | (refine wpList_load_row rfl 39 _ rfl (w.heap.size + 1) rfl 39 #[.int .i64 1, .bool false, .string ⟨#[]⟩, .string x, .string (bs o), .slice A ll kk] (0, 0) _ HB6.out.r1 Tryd.underlying39 rfl (by kernel_rfl) ?_)
                          | (refine wpList_store_row rfl 39 _ _ rfl _ _ rfl rfl 39 _ HB6.out.r0 (by kernel_rfl) rfl (by simp [Value.oneCell']) ?_
                             have HO := Kept.mk (HB6.out.row #[.int .i64 1, .bool false, .string ⟨#[]⟩, .string x, .string (bs o), .slice A ll kk])))
                        refine bodyPost_ret (res_two rfl _ _ w.heap.size _ _ (0, 0) _ rfl HO.out.1 Tryd.underlying39 rfl (by kernel_rfl)) rfl ?_
                        rw [HBr.out]
                        exact ⟨false, _, o, l, A, kk, rfl, by rw [show bs ((toL s).take m) = x from HNm.out, HLL.out]; rfl, ⟨by rw [HLL.out]; exact LV.far HL5.out HG.out _ _⟩, HO.out.2⟩

                      | true =>
                        have HBr : Kept (braces (parts d) true (toL s) = .ok (.mk 1 true [] ((toL s).take m) o (quotes l))) := ⟨by rw [HBr2.out, hcm]; rfl⟩
                        clear hcm
                        have T1 : Kept True := ⟨trivial⟩
                        go_wp2_with (first
                          | (go_at_call 18
                             have := T1
                             refine HPc.out.mono ?_
                             rintro e w5 ⟨A, kk, rfl, hl, hb5⟩
                             clear T1 this
                             have HB5 := Kept.mk (HB.out.below hb5)
                             have y5 := HB5.out.c4
                             have HL5 := hl
                             have HS5 := Kept.mk hb5.size
                             have x5 := HB5.out.c5
                             have f5 := HB5.out.f5
                             generalize hll : l.length = ll at *
                             have HLL := Kept.mk hll
                             clear hll hl hb5
                             have HB6 := Kept.mk (HB5.out.setV (.slice A ll kk))
                             have HL6 := Kept.mk (LV.near (w := w) HL5.out HG.out (.slice A ll kk))
                             have HS6 : Kept (wc.heap.size ≤ (w5.setCell ⟨w.heap.size + 1, 5, none⟩ (.slice A ll kk)).heap.size) := ⟨by have := HS5.out; simpa using this⟩)
                          | (go_at_call 46
                             refine (commands_any (cnt l) l A ll kk w5 false rfl HL5.out (by have := cnt_wt l; have := HWl.out; omega) HCm.out).mono ?_
                             rintro e w6 ⟨rfl, rfl⟩)
                          | (go_at_call 47
                             refine (quotes_any (cnt l) (Nw wc.heap.size) l A ll kk _ rfl HL6.out (by have := HWl.out; omega)).mono ?_
                             rintro e w7 ⟨v7, rfl, h7, hb7⟩
                             obtain ⟨A7, k7, hv7⟩ := h7.out.slice
                             generalize hql : (quotes l).length = ql at hv7
                             subst hv7
                             have HQL := Kept.mk hql
                             have HL7 : Kept (LV (Nw wc.heap.size) w7 (.slice A7 ql k7) (quotes l)) := ⟨h7.out.mono fun g hg _ => hg.elim id fun h => Nat.le_trans HS6.out h⟩
                             have HB7 := Kept.mk (HB6.out.below hb7)
                             have x7 := HB7.out.c5
                             have f7 := HB7.out.f5
                             have HB8 := Kept.mk (HB7.out.setV (.slice A7 ql k7))
                             clear h7 hb7 hql)
                          | (refine wpList_load_row rfl 39 _ rfl (w.heap.size + 1) rfl 39 #[.int .i64 1, .bool true, .string ⟨#[]⟩, .string x, .string (bs o), .slice A7 ql k7] (0, 0) _ HB8.out.r1 Tryd.underlying39 rfl (by kernel_rfl) ?_)
                          | (refine wpList_store_row rfl 39 _ _ rfl _ _ rfl rfl 39 _ HB8.out.r0 (by kernel_rfl) rfl (by simp [Value.oneCell']) ?_
                             have HO := Kept.mk (HB8.out.row #[.int .i64 1, .bool true, .string ⟨#[]⟩, .string x, .string (bs o), .slice A7 ql k7])))
                        refine bodyPost_ret (res_two rfl _ _ w.heap.size _ _ (0, 0) _ rfl HO.out.1 Tryd.underlying39 rfl (by kernel_rfl)) rfl ?_
                        rw [HBr.out]
                        exact ⟨true, _, o, quotes l, A7, k7, rfl, by rw [show bs ((toL s).take m) = x from HNm.out, HQL.out]; rfl, ⟨by rw [HQL.out]; exact LV.far HL7.out HG.out _ _⟩, HO.out.2⟩

end Wx
end Go.Proofs.YtphgnjjblpmijaaDoor
