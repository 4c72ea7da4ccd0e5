/-
  The laws on fields: pieces of numbers.
-/
import Derived.Test.YtjnhhkiabdbenaaDoorFl1
import Derived.Laws.AppendOwn
namespace Go.Proofs.YtjnhhkiabdbenaaDoor
open Go.RowKit Tx
namespace Fd
open Pc (By8 Few few_of pieces_any)

/-- Numbers that make pieces, as they come in. -/
def Bits (w : World) (A : Option Addr) (n : Nat) : Prop := ∀ j, j < n → ∃ (g off z m k : Nat) (B : Option Addr), A = some ⟨g, off, none⟩ ∧ g < w.heap.size ∧ w.cell? ⟨g, off + j * 2, none⟩ = some (.int .u8 (z : Int)) ∧ z < 256 ∧ w.cell? ⟨g, off + j * 2 + 1, none⟩ = some (.slice B m k) ∧ By8 w B m ∧ m ≤ 9223372036854775807
theorem Bits.below {w w' : World} {A : Option Addr} {n : Nat} (h : Bits w A n) (hb : Below w.heap.size w w') : Bits w' A n := by
  intro j hj
  obtain ⟨g, off, z, m, k, B, e, hg, h0, h1, h2, h3, h4⟩ := h j hj
  exact ⟨g, off, z, m, k, B, e, Nat.lt_of_lt_of_le hg hb.size, (hb.cell (p := ⟨g, off + j * 2, none⟩) hg).trans h0, h1, (hb.cell (p := ⟨g, off + j * 2 + 1, none⟩) hg).trans h2, h3.below hb, h4⟩
theorem segInfo : (Tryd.prog.info? 32).map (fun i => (i.zero, i.size, i.bytes)) = some (some (.agg #[.int .i64 0, .string ⟨#[]⟩]), 2, 24) := by kernel_rfl
/-- Segments of the call's own. -/
def GO (w : World) (B : Nat) (v : Value) (l : List Sg) : Prop := w.ownsRow B 32 2 v l.length (svs l)
theorem GO.nil (w : World) (B : Nat) : GO w B (.slice none 0 0) [] := World.ownsRow_nil _ _ _ _
theorem GO.lt {w : World} {B : Nat} {v : Value} {l : List Sg} (h : GO w B v l) {g : Nat} (hg : v.ownBlock = some g) : B ≤ g ∧ g < w.heap.size := by
  obtain ⟨h1, cs, h2⟩ := Pm.own_row h hg
  exact ⟨h1, (Array.getElem?_eq_some_iff.1 h2).1⟩
theorem GO.below {w w' : World} {B : Nat} {v : Value} {l : List Sg} (h : GO w B v l) (hb : Below w.heap.size w w') : GO w' B v l := Pm.own_by h fun g _ hg => hb.block g (Array.getElem?_eq_some_iff.1 hg).1
theorem GO.slice {w : World} {B : Nat} {v : Value} {l : List Sg} (h : GO w B v l) : ∃ A k, v = .slice A l.length k := Pm.own_shape h
theorem GO.read {w : World} {B : Nat} {v : Value} {l : List Sg} (h : GO w B v l) : ∃ A k, v = .slice A l.length k ∧ Rg w A l := by
  rcases h.2 with ⟨rfl, h0⟩ | ⟨g, cap, cur, rfl, hB, hg, hnc, hcm, hcs, htake⟩
  · have := List.eq_nil_of_length_eq_zero h0
    subst this
    exact ⟨_, _, rfl, Rg.nil _ _⟩
  · have hat : ∀ j u, (svs l)[j]? = some u → w.cell? ⟨g, j, none⟩ = some u := fun j u hu => by
      rw [cell_of_row w g j cur _ (0, 0) hg]
      rw [← htake, List.getElem?_take] at hu
      split at hu
      · simpa using hu
      · cases hu
    exact ⟨_, _, rfl, fun j hj => ⟨g, rfl, (Array.getElem?_eq_some_iff.1 hg).1, hat _ _ (svs_at hj).1, hat _ _ (svs_at hj).2⟩⟩
theorem sv_new (w : World) (g : Sg) (T : TypeId) : ∀ j u, ([.int .i64 (g.kind : Int), .string (bs g.text)] : List Value)[j]? = some u → (w.alloc (.cells #[.int .i64 (g.kind : Int), .string (bs g.text)] T)).cell? ((⟨w.heap.size, 0, none⟩ : Addr).add j) = some u := by
  intro j u hu
  rw [By.add_at, cell_of_row _ _ j _ _ (0, 0) (heap_alloc_new w _)]
  simpa using hu
theorem sv_one (g : Sg) : ∀ u ∈ ([.int .i64 (g.kind : Int), .string (bs g.text)] : List Value), u.oneCell' = true := by
  intro u hp
  simp only [List.mem_cons, List.not_mem_nil, or_false] at hp
  rcases hp with rfl | rfl <;> rfl
/-- append(v, g), one segment: it lies in a row that was made for it. -/
theorem wpList_append_seg {ops : Array Oper} {rest : List Oper} {o : Oper} {a : Act} {Q : Exit → Act → World → Prop} {W : World} {B : Nat} {v : Value} {l : List Sg} (g : Sg) (k : Int) (x : ByteArray) (hk : k = (g.kind : Int)) (hx0 : x = bs g.text) (N : Nat) (hN : N = W.heap.size)
    (hgd : o.guard = none) (s y : Operand) (ho : o.op = .call { callee := .builtin .append, args := #[s, y], argTypes := #[23, 23] }) (hs : a.eval s = v) (hx : a.eval y = .slice (some ⟨N, 0, none⟩) 1 1)
    (hown : GO W B v l) (hl : l.length ≤ 100000) (hB : B ≤ W.heap.size)
    (h : ∀ A2 k2 w' l2, l2 = l.length + 1 → GO w' B (.slice A2 l2 k2) (l ++ [g]) → W.grownBy w' v.ownBlock → wpList Tryd.prog ops Q rest (a.put o.dst (.slice A2 l2 k2)) w') :
    wpList Tryd.prog ops Q (o :: rest) a (W.alloc (.cells #[.int .i64 k, .string x] 32)) := by
  subst hN hk hx0
  obtain ⟨i0, hi, hz0, hz1, hz2⟩ := info_parts segInfo
  refine wpList_append_own _ hgd s y 23 ho B 32 i0 _ 2 24 Tryd.underlying23 hi hz0 hz1 hz2 rfl (by decide) v l.length (svs l) hs (hown.below ((Below.refl _ _).alloc (Nat.le_refl _) _)) ⟨W.heap.size, 0, none⟩ 1 1 [.int .i64 (g.kind : Int), .string (bs g.text)] hx rfl (sv_new W g _) (sv_one g) (by unfold maxLen; omega) (by omega) (by simp; omega) ?_
  intro v2 w2 ho2 hg2 _
  have hG : GO w2 B v2 (l ++ [g]) := by
    unfold GO
    rw [svs_snoc, List.length_append]
    exact ho2
  obtain ⟨A2, k2, rfl⟩ := hG.slice
  rw [List.length_append] at hG ⊢
  exact h A2 k2 w2 _ rfl hG ((World.grownBy_alloc W _ _).trans hg2)
theorem GO.upTo {w w2 : World} {B : Nat} {v : Value} {l : List Sg} (h : GO w B v l) (hB : B ≤ w.heap.size) (hg : w.grownBy w2 v.ownBlock) : Below B w w2 := ⟨hg.os, hg.tape, hg.output, hg.size, fun i hi => hg.block i (by omega) (fun e => by have := (h.lt e.symm).1; omega)⟩
/-- What Made gives. -/
structure Mad (l : List Sg) : Prop where
  few : l.length ≤ 8
  each : ∀ g ∈ l, g.kind ≤ 3 ∧ g.text.length ≤ 28
theorem Mad.wt {l : List Sg} (h : Mad l) : Fd.wt l ≤ 456 := by
  obtain ⟨h1, h2⟩ := h
  have : ∀ l : List Sg, (∀ g ∈ l, g.text.length ≤ 28) → Fd.wt l ≤ 57 * l.length := by
    intro l
    induction l with
    | nil => intro _; exact Nat.zero_le _
    | cons g t ih =>
      intro h
      have e2 : Fd.wt (g :: t) = (2 * g.text.length + 1) + Fd.wt t := by simp [Fd.wt]
      have h3 := ih (fun y hy => h y (List.mem_cons_of_mem _ hy))
      have h4 := h g List.mem_cons_self
      rw [e2, List.length_cons]
      omega
  have h3 := this l (fun g hg => (h2 g hg).2)
  omega
/-- What Made ends in. -/
def MadeEnd (w : World) (e : Ending) (w' : World) : Prop := ∃ (l : List Sg) (C : Option Addr) (q : Nat), e = .returned (.slice C l.length q) ∧ Kept (Rg w' C l) ∧ Kept (Mad l) ∧ Below w.heap.size w w'
def mades : List ByteArray := [⟨#[97]⟩, ⟨#[32]⟩, ⟨#[58]⟩, ⟨#[9]⟩, ⟨#[98]⟩, ⟨#[92]⟩, ⟨#[58, 32]⟩, ⟨#[42]⟩, ⟨#[]⟩, ⟨#[10]⟩]
set_option maxHeartbeats 4000000 in
set_option maxRecDepth 100000 in
theorem made_any (A : Option Addr) (n k : Nat) (w : World) (hl : Bits w A n) (hn : n ≤ 140737488355328) :
    Calls Tryd.prog 7 #[.slice A n k] w (MadeEnd w) := by
  have HL := Kept.mk hl
  clear hl
  go_enter Tryd.func7, Tryd.ntmps7
  go_wp2_with fail
  go_loopw [3, 4] (fun v i wr => ∃ (j : Nat) (l : List Sg), j ≤ n ∧ j ≤ 8 ∧ i = .int .i64 (j : Int) ∧ Kept (GO wr w.heap.size v l) ∧ Kept (l.length = j ∧ ∀ g ∈ l, g.kind ≤ 3 ∧ g.text.length ≤ 28) ∧ Kept (Below w.heap.size w wr)) (fun _ i _ => n - (intOf i).toNat)
  case atStart => exact ⟨0, [], by omega, by omega, rfl, ⟨GO.nil _ _⟩, ⟨rfl, fun g hg => by cases hg⟩, ⟨Below.refl _ _⟩⟩
  case round =>
    obtain ⟨j, l, hj, hj8, rfl, HG, HM, HB⟩ := hrel
    obtain ⟨VA, VK, rfl⟩ := HG.out.slice
    have j0 : (0 : Int) ≤ (j : Int) := by omega
    have HQ : Kept (∀ v, v = .slice VA l.length VK → GO wr w.heap.size v l) := ⟨fun v hv => by rw [hv]; exact HG.out⟩
    by_cases hlt : j < n
    · have j1 : (j : Int) < (n : Int) := by omega
      by_cases h8 : j < 8
      · have j2 : (j : Int) < 8 := by omega
        obtain ⟨g, off, z, m, kb, Bb, hA, hg, c0, hz, c1, hby, hm⟩ := (HL.out.below HB.out) j hlt
        subst hA
        have e1 : (z : Int).tmod 4 = ((z % 4 : Nat) : Int) := by rw [Int.tmod_eq_emod_of_nonneg (by omega)]; omega
        have e2 : IntKind.i64.wrap (z : Int) = (z : Int) := IntWalk.i64_in _ (by omega)
        obtain ⟨kk, hkk⟩ : ∃ kk, kk = z % 4 := ⟨_, rfl⟩
        have hk4 : kk < 4 := by omega
        rw [← hkk] at e1
        have HBy := Kept.mk hby
        have HMm := Kept.mk hm
        have hgn : g < wr.heap.size := hg
        clear hby hm hkk
        by_cases h3 : kk = 3
        · subst h3
          have hbA : Below wr.heap.size wr (wr.alloc (.cells #[.int .i64 3, .string ⟨#[]⟩] 32)) := (Below.refl _ _).alloc (Nat.le_refl _) _
          have HG1 := Kept.mk (HG.out.below hbA)
          have HB1 := Kept.mk (HB.out.trans (hbA.mono HB.out.size))
          have HLn : Kept (l.length ≤ 100000) := ⟨by have := HM.out.1; omega⟩
          have HBs : Kept (w.heap.size ≤ (wr.alloc (.cells #[.int .i64 3, .string ⟨#[]⟩] 32)).heap.size) := ⟨HB1.out.size⟩
          clear hbA
          go_wp2_with (at_builtin; refine wpList_append_seg (W := wr.alloc (.cells #[.int .i64 3, .string ⟨#[]⟩] 32)) ⟨3, []⟩ 3 ⟨#[]⟩ rfl rfl (wr.heap.size + 1) (by rw [World.size_alloc]) rfl _ _ rfl rfl rfl HG1.out HLn.out HBs.out ?_; intro A2 k2 w2 l2 hl2 hg2 hgr; have HG2 := Kept.mk hg2; have HB2 := Kept.mk (HB1.out.trans (HG1.out.upTo HBs.out hgr)); have HL2 := Kept.mk hl2; clear hg2 hgr hl2)
          go_roundw
          case rel => exact ⟨j + 1, l ++ [⟨3, []⟩], by omega, by omega, by go_num, HG2, ⟨by rw [List.length_append, HM.out.1]; rfl, fun y hy => (List.mem_append.1 hy).elim (HM.out.2 y) (fun h => by rw [List.mem_singleton] at h; subst h; exact ⟨Nat.le_refl _, Nat.zero_le _⟩)⟩, HB2⟩
          case measure => simp [intOf]; omega
        · have z3 : ¬ (kk : Int) = 3 := by omega
          obtain ⟨S1, hS1⟩ : ∃ S1, S1 = Obj.cells #[.int .i64 (kk : Int), .string ⟨#[]⟩] 32 := ⟨_, rfl⟩
          obtain ⟨S2, hS2⟩ : ∃ S2, S2 = Obj.cells (mades.map Value.string).toArray 9 := ⟨_, rfl⟩
          have hb2 : Below wr.heap.size wr ((wr.alloc S1).alloc S2) := ((Below.refl _ _).alloc (Nat.le_refl _) _).alloc (by simp) _
          have HPc := Kept.mk (pieces_any 2 (by omega) Bb m kb (wr.heap.size + 1) 10 10 ((wr.alloc S1).alloc S2) (HBy.out.below hb2) HMm.out (by
            have := few_of (M := 2) (w := (wr.alloc S1).alloc S2) (g := wr.heap.size + 1) (cs := (mades.map Value.string).toArray) (t := 9) (by have := heap_alloc_new (wr.alloc S1) S2; rw [World.size_alloc] at this; rw [this, hS2]) (by kernel_rfl)
            exact this) (by omega) (by omega))
          have HLn : Kept (l.length ≤ 100000) := ⟨by have := HM.out.1; omega⟩
          have HW := Kept.mk (fun S : Obj => (((Below.refl wr.heap.size wr).alloc (Nat.le_refl _) S).alloc (by simp) S2))
          subst hS1
          clear hb2
          rw [hS2] at HPc
          go_wp2_with fail
          go_at_call 14
          refine HPc.out.mono ?_
          rintro e w2 ⟨x, rfl, hx, rfl⟩
          have HX : Kept (x.size ≤ 28) := ⟨by omega⟩
          obtain ⟨tx, htx⟩ : ∃ tx, x = bs tx := ⟨toL x, (bs_toL x).symm⟩
          have HTx : Kept (x = bs tx ∧ tx.length ≤ 28) := ⟨htx, by have := HX.out; rwa [htx, bs_size] at this⟩
          have hbb := HW.out (.cells #[.int .i64 (kk : Int), .string x] 32)
          rw [hS2] at hbb
          have HG1 := Kept.mk (HG.out.below hbb)
          have HB3 := Kept.mk (HB.out.trans (hbb.mono HB.out.size))
          have HBs := Kept.mk HB3.out.size
          have hk3 : Kept (kk ≤ 3) := ⟨by omega⟩
          clear hx htx hbb HPc HW hS2
          go_wp2_with (at_builtin; refine wpList_append_seg (W := ((wr.alloc (.cells #[.int .i64 (kk : Int), .string x] 32)).alloc (.cells (mades.map Value.string).toArray 9))) ⟨kk, tx⟩ (kk : Int) x rfl HTx.out.1 (wr.heap.size + 1 + 1) (by simp) rfl _ _ rfl rfl rfl HG1.out HLn.out HBs.out ?_; intro A2 k2 w2 l2 hl2 hg2 hgr; have HG2 := Kept.mk hg2; have HB4 := Kept.mk (HB3.out.trans (HG1.out.upTo HBs.out hgr)); have HL2 := Kept.mk hl2; clear hg2 hgr hl2)
          go_roundw
          case rel => exact ⟨j + 1, l ++ [⟨kk, tx⟩], by omega, by omega, by go_num, HG2, ⟨by rw [List.length_append, HM.out.1]; rfl, fun y hy => (List.mem_append.1 hy).elim (HM.out.2 y) (fun h => by rw [List.mem_singleton] at h; subst h; exact ⟨hk3.out, HTx.out.2⟩)⟩, HB4⟩
          case measure => simp [intOf]; omega
      · have j2 : ¬ (j : Int) < 8 := by omega
        have HR : Kept (Mad l) := ⟨⟨by have := HM.out.1; omega, HM.out.2⟩⟩
        obtain ⟨C, q, he, hR⟩ := HG.out.read
        injection he with e1 e2 e3
        subst e1 e3
        have HRd := Kept.mk hR
        clear hR h8
        go_wp2_with fail
        go_ret
        exact ⟨l, _, _, rfl, HRd, HR, HB.out⟩
    · have j1 : ¬ (j : Int) < (n : Int) := by omega
      have j1b : decide ((j : Int) < (n : Int)) = false := decide_eq_false j1
      have HR : Kept (Mad l) := ⟨⟨by have := HM.out.1; omega, HM.out.2⟩⟩
      obtain ⟨C, q, he, hR⟩ := HG.out.read
      injection he with e1 e2 e3
      subst e1 e3
      have HRd := Kept.mk hR
      clear hR hlt
      go_wp2_with fail
      go_ret
      exact ⟨l, _, _, rfl, HRd, HR, HB.out⟩
end Fd
end Go.Proofs.YtjnhhkiabdbenaaDoor
