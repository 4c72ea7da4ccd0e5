/-
  Parts of the proof, merged.
-/
import Derived.BigRegion
import Derived.RegionTactic
import Derived.Test.YtahjonfmhejoeaaGreatDoorVa13
import Derived.Test.YtahjonfmhejoeaaGreatDoorVa18
import Derived.Test.YtahjonfmhejoeaaGreatDoorVa42
namespace Go.Proofs.YtahjonfmhejoeaaGreatDoor
section
open Go.RowKit Tx
namespace Sy
open Lx (Tok tv tvs tvs_at Qt pan Rt TokE tokens_any)
open Wx (Pt LV Nw parts)
def eops : Array Oper := #[{ dst := some 13, op := .build 31 #[], type := 31, pos := "syntax.go:13", after := #[], guard := none },
 { dst := some 14, op := .load 32 (.tmp 3), type := 32, pos := "syntax.go:13", after := #[], guard := none },
 { dst := none, op := .store 31 (.tmp 2) (.tmp 13), type := 0, pos := "syntax.go:13", after := #[{ on := 0, ground := .data }, { on := 0, ground := .phase }, { on := 1, ground := .textOnly .lateStoresUnsure }], guard := none },
 { dst := none, op := .store 32 (.tmp 3) (.tmp 14), type := 0, pos := "syntax.go:13", after := #[{ on := 1, ground := .data }, { on := 2, ground := .chain }, { on := 0, ground := .phase }, { on := 1, ground := .phase }, { on := 2, ground := .phase }], guard := none }]
theorem loadInt {w : World} {q : Nat} {n : Int} (hq : w.cell? ⟨q, 0, none⟩ = some (.int .i64 n)) : (Instr.loadAt 32 (.pointer (some ⟨q, 0, none⟩))).run Tryz.prog w = .ok (.int .i64 n) w := by
 simp [go_sem, hq]
set_option maxRecDepth 100000 in
theorem early_region {Q : Exit → Act → World → Prop} {id : Nat} {a : Act} {w : World} {p q : Nat} {n : Int} {old : Array Value} (hQ : ∀ (d : Option Nat) (x : Value) (c : List PanicEntry) (a : Act) (w : World), Q (.panic c) (a.put d x) w → Q (.panic c) a w)
   (hpq : p ≠ q) (hs : a.tmps.size = 23) (h0 : a.eval (.tmp 2) = .pointer (some ⟨p, 0, none⟩)) (h1 : a.eval (.tmp 3) = .pointer (some ⟨q, 0, none⟩))
   (hp : w.heap[p]? = some (.cells old 31 (0, 0))) (h8 : old.size = 8) (hq : w.heap[q]? = some (.cells #[.int .i64 n] 32 (0, 0)))
   (hgo : Q .normal ((a.put (some 13) (.agg #[.int .i64 0, .bool false, .string ⟨#[]⟩, .slice none 0 0, .slice none 0 0, .slice none 0 0, .slice none 0 0, .slice none 0 0])).put (some 14) (.int .i64 n)) ((w.drew.setRow p #[.int .i64 0, .bool false, .string ⟨#[]⟩, .slice none 0 0, .slice none 0 0, .slice none 0 0, .slice none 0 0, .slice none 0 0]).setCell ⟨q, 0, none⟩ (.int .i64 n))) :
   (Code.region id eops true).wp Tryz.prog Q a w := by
 refine wp_region_any (by kernel_rfl) ?_
 change wpAny _ .any eops Q _ _ a w.drew
 have hp' : w.drew.heap[p]? = some (.cells old 31 (0, 0)) := hp
 have hq0 : w.drew.heap[q]? = some (.cells #[.int .i64 n] 32 (0, 0)) := hq
 have hq' : (w.drew.setRow p #[.int .i64 0, .bool false, .string ⟨#[]⟩, .slice none 0 0, .slice none 0 0, .slice none 0 0, .slice none 0 0, .slice none 0 0]).heap[q]? = some (.cells #[.int .i64 n] 32 (0, 0)) := (setRow_other _ _ q _ (Ne.symm hpq)).trans hq
 have hst := storeNode hp' h8 (cs := #[.int .i64 0, .bool false, .string ⟨#[]⟩, .slice none 0 0, .slice none 0 0, .slice none 0 0, .slice none 0 0, .slice none 0 0]) rfl (all_node _ _ _ _ _ _ _ _ _ _ _ _ _ _ _ _ _ _)
 have hsi := storeInt (n := n) (cell_of_row _ _ 0 _ _ _ hq') (frozen_of_row _ _ 0 _ _ hq')
 have hl0 := loadInt (cell_of_row _ _ 0 _ _ _ hq0)
 have hl1 := loadInt (cell_of_row _ _ 0 _ _ _ hq')
 refine wpAny_take (i := 0) (oi := _) (v := .agg #[.int .i64 0, .bool false, .string ⟨#[]⟩, .slice none 0 0, .slice none 0 0, .slice none 0 0, .slice none 0 0, .slice none 0 0]) rfl (by kernel_rfl) (by kernel_rfl) (by kernel_rfl) (fun c a w h => hQ _ _ c a w h) (.inl ⟨by kernel_rfl, fun w' => by kernel_rfl⟩) ?_
 refine wpAny_ready (rs := [1, 2]) (by kernel_rfl) (by simp) ?_
 refine AllReady.cons (o := _) rfl (fun K hK => ?_) (AllReady.cons (o := _) rfl (fun K hK => ?_) AllReady.nil)
 · rw [if_pos (by kernel_rfl)]
   refine val_step (v := .int .i64 n) (w' := w.drew) (d := some 14) rfl (App.ex_ld (u := .pointer (some ⟨q, 0, none⟩)) rfl ((App.ev_other (by decide)).trans h1) hl0) (hK _ _ ?_)
   refine wpAny_ready (rs := [2]) (by kernel_rfl) (by simp) ?_
   refine AllReady.cons (o := _) rfl (fun K1 hK1 => ?_) AllReady.nil
   rw [if_pos (by kernel_rfl)]
   refine skip_step (w' := w.drew.setRow p #[.int .i64 0, .bool false, .string ⟨#[]⟩, .slice none 0 0, .slice none 0 0, .slice none 0 0, .slice none 0 0, .slice none 0 0]) rfl ?_ (hK1 _ _ ?_)
   · exact App.ex_st (u := .pointer (some ⟨p, 0, none⟩)) (v := .agg #[.int .i64 0, .bool false, .string ⟨#[]⟩, .slice none 0 0, .slice none 0 0, .slice none 0 0, .slice none 0 0, .slice none 0 0]) rfl ((App.ev_other (by decide)).trans ((App.ev_other (by decide)).trans h0)) ((App.ev_other (by decide)).trans (App.ev_same (by omega))) hst
   refine wpAny_ready (rs := [3]) (by kernel_rfl) (by simp) ?_
   refine AllReady.cons (o := _) rfl (fun K2 hK2 => ?_) AllReady.nil
   rw [if_pos (by kernel_rfl)]
   refine skip_step (w' := (w.drew.setRow p #[.int .i64 0, .bool false, .string ⟨#[]⟩, .slice none 0 0, .slice none 0 0, .slice none 0 0, .slice none 0 0, .slice none 0 0]).setCell ⟨q, 0, none⟩ (.int .i64 n)) rfl ?_ (hK2 _ _ ?_)
   · exact App.ex_st (u := .pointer (some ⟨q, 0, none⟩)) (v := .int .i64 n) rfl ((App.ev_other (by decide)).trans ((App.ev_other (by decide)).trans h1)) (App.ev_same (by simp only [App.put_size]; omega)) hsi
   exact wpAny_done (by kernel_rfl) hgo _
 · rw [if_pos (by kernel_rfl)]
   refine skip_step (w' := w.drew.setRow p #[.int .i64 0, .bool false, .string ⟨#[]⟩, .slice none 0 0, .slice none 0 0, .slice none 0 0, .slice none 0 0, .slice none 0 0]) rfl ?_ (hK _ _ ?_)
   · exact App.ex_st (u := .pointer (some ⟨p, 0, none⟩)) (v := .agg #[.int .i64 0, .bool false, .string ⟨#[]⟩, .slice none 0 0, .slice none 0 0, .slice none 0 0, .slice none 0 0, .slice none 0 0]) rfl ((App.ev_other (by decide)).trans h0) (App.ev_same (by omega)) hst
   refine wpAny_ready (rs := [1]) (by kernel_rfl) (by simp) ?_
   refine AllReady.cons (o := _) rfl (fun K1 hK1 => ?_) AllReady.nil
   rw [if_pos (by kernel_rfl)]
   refine val_step (v := .int .i64 n) (w' := w.drew.setRow p #[.int .i64 0, .bool false, .string ⟨#[]⟩, .slice none 0 0, .slice none 0 0, .slice none 0 0, .slice none 0 0, .slice none 0 0]) (d := some 14) rfl (App.ex_ld (u := .pointer (some ⟨q, 0, none⟩)) rfl ((App.ev_other (by decide)).trans h1) hl1) (hK1 _ _ ?_)
   refine wpAny_ready (rs := [3]) (by kernel_rfl) (by simp) ?_
   refine AllReady.cons (o := _) rfl (fun K2 hK2 => ?_) AllReady.nil
   rw [if_pos (by kernel_rfl)]
   refine skip_step (w' := (w.drew.setRow p #[.int .i64 0, .bool false, .string ⟨#[]⟩, .slice none 0 0, .slice none 0 0, .slice none 0 0, .slice none 0 0, .slice none 0 0]).setCell ⟨q, 0, none⟩ (.int .i64 n)) rfl ?_ (hK2 _ _ ?_)
   · exact App.ex_st (u := .pointer (some ⟨q, 0, none⟩)) (v := .int .i64 n) rfl ((App.ev_other (by decide)).trans ((App.ev_other (by decide)).trans h1)) (App.ev_same (by simp only [App.put_size]; omega)) hsi
   exact wpAny_done (by kernel_rfl) hgo _
theorem res_two {tmps : Array Value} {w : World} {p q : Nat} {cs : Array Value} {v : Value} {fr : Nat × Nat} (hp : tmps.getD 2 undef = .pointer (some ⟨p, 0, none⟩)) (hq : tmps.getD 3 undef = .pointer (some ⟨q, 0, none⟩)) (h0 : w.heap[p]? = some (.cells cs 31 fr)) (h8 : cs.size = 8) (h1 : w.cell? ⟨q, 0, none⟩ = some v) :
   (results Tryz.f13 tmps).run Tryz.prog w = .ok (.tuple #[.agg cs, v]) w := by
 have hp' : tmps[2]?.getD undef = .pointer (some ⟨p, 0, none⟩) := by simpa using hp
 have hq' : tmps[3]?.getD undef = .pointer (some ⟨q, 0, none⟩) := by simpa using hq
 have hl := run_loadVar_row w p 31 31 cs fr _ h0 Tryz.underlying31 rfl (by rw [h8]; kernel_rfl)
 have h2 : (loadVar 32 ⟨q, 0, none⟩).run Tryz.prog w = .ok v w := by simp [go_sem, h1]
 simp [results, Tryz.results13, hp', hq', asAddr, hl, h2, Result.andThen]
end Sy
end
section
open Go.RowKit Tx
namespace Sy
open Lx (Tok tv tvs tvs_at Qt pan Rt TokE tokens_any toks)
open Wx (Pt LV Nw parts)
structure PB (w wk : World) (cs : Array Value) (v : Value) : Prop where
 bl : Below w.heap.size w wk
 r0 : wk.heap[w.heap.size]? = some (.cells cs 31 (0, 0))
 r1 : wk.heap[w.heap.size + 1]? = some (.cells #[v] 32 (0, 0))
 c8 : cs.size = 8
section
variable {w wk wk' : World} {cs : Array Value} {v : Value}
theorem PB.lt (h : PB w wk cs v) : w.heap.size + 2 ≤ wk.heap.size := (Array.getElem?_eq_some_iff.1 h.r1).1
theorem PB.below (h : PB w wk cs v) (hb : Below wk.heap.size wk wk') : PB w wk' cs v := ⟨h.bl.trans (hb.mono h.bl.size), (hb.block _ (by have := h.lt; omega)).trans h.r0, (hb.block _ (by have := h.lt; omega)).trans h.r1, h.c8⟩
theorem PB.only {g : Nat} (h : PB w wk cs v) (ho : Only (· = g) wk wk') (hg : w.heap.size + 2 ≤ g) : PB w wk' cs v := ⟨h.bl.trans (ho.toBelow (fun k hk e => by omega) h.bl.size), (ho.block _ (by have := h.lt; omega) (by omega)).trans h.r0, (ho.block _ (by have := h.lt; omega) (by omega)).trans h.r1, h.c8⟩
theorem PB.setN (h : PB w wk cs v) (cs' : Array Value) (h8 : cs'.size = 8) : PB w (wk.setRow w.heap.size cs') cs' v := ⟨⟨h.bl.os, h.bl.tape, h.bl.output, by rw [setRow_size]; exact h.bl.size, fun i hi => (setRow_other _ _ i _ (by omega)).trans (h.bl.block i hi)⟩, setRow_heap _ _ _ _ _ _ h.r0, (setRow_other _ _ _ _ (by omega)).trans h.r1, h8⟩
theorem PB.setF (h : PB w wk cs v) (v' : Value) : PB w (wk.setCell ⟨w.heap.size + 1, 0, none⟩ v') cs v' := ⟨h.bl.setCell (by simp) _, (Below.heap_setCell _ _ _ _ (by simp)).trans h.r0, heap_setCell_same wk (w.heap.size + 1) 0 _ _ v' h.r1, h.c8⟩
theorem PB.drew (h : PB w wk cs v) : PB w wk.drew cs v := ⟨h.bl.trans (Below.refl _ _).drew, h.r0, h.r1, h.c8⟩
theorem PB.start (w : World) : PB w ((w.alloc (.cells #[.int .i64 0, .bool false, .string ⟨#[]⟩, .slice none 0 0, .slice none 0 0, .slice none 0 0, .slice none 0 0, .slice none 0 0] 31)).alloc (.cells #[.int .i64 0] 32)) #[.int .i64 0, .bool false, .string ⟨#[]⟩, .slice none 0 0, .slice none 0 0, .slice none 0 0, .slice none 0 0, .slice none 0 0] (.int .i64 0) := by
 refine ⟨((Below.refl _ _).alloc (Nat.le_refl _) _).alloc (by simp) _, ?_, ?_, rfl⟩
 · rw [Below.heap_alloc _ _ _ (by simp)]
   exact heap_alloc_new w _
 · have := heap_alloc_new (w.alloc (.cells #[.int .i64 0, .bool false, .string ⟨#[]⟩, .slice none 0 0, .slice none 0 0, .slice none 0 0, .slice none 0 0, .slice none 0 0] 31)) (.cells #[.int .i64 0] 32)
   simpa using this
end
theorem ended_row (w : World) (g : Nat) (A : Option Addr) (n k : Nat) (y z : Value) (hr : w.heap[g]? = some (.cells #[.slice A n k, y, z] 52 (0, 0))) (t : Bool) (ht : t = decide (n = 0)) :
   Calls Tryz.prog 27 #[.pointer (some ⟨g, 0, none⟩)] w fun e w' => e = .returned (.bool t) ∧ w = w' := by
 have c0 := cell_of_row w g 0 _ _ _ hr
 have HT : Kept (((n : Int) == 0) = t) := ⟨by
   subst ht
   by_cases h : n = 0
   · subst h; rfl
   · rw [decide_eq_false h]
     exact beq_eq_false_iff_ne.2 (by omega)⟩
 clear ht hr
 go_enter Tryz.func27, Tryz.ntmps27
 go_wp2_with fail
 go_ret
 exact ⟨by rw [← HT.out]; rfl, rfl⟩
def ParseE (w : World) (r : Except Int Nd) (e : Ending) (w' : World) : Prop :=
 match r with
 | .ok n => ∃ u, e = .returned (.tuple #[u, .int .i64 0]) ∧ Kept (NV (Nw w.heap.size) w' u n) ∧ Kept (Below w.heap.size w w')
 | .error c => e = .returned (.tuple #[.agg #[.int .i64 0, .bool false, .string ⟨#[]⟩, .slice none 0 0, .slice none 0 0, .slice none 0 0, .slice none 0 0, .slice none 0 0], .int .i64 c]) ∧ Kept (Below w.heap.size w w')
theorem ts_of {w : World} {G : Nat} {A : Option Addr} {k : Nat} {ts : List Tok} (h : Rt w A ts) (hk : (A = none → k = 0) ∧ ts.length ≤ k) (hg : w.heap.size ≤ G) : TS w G (.slice A ts.length k) ts := by
 cases ts with
 | nil => exact .nil A k hk.1
 | cons t r =>
   obtain ⟨g, rfl, hgl, _⟩ := h 0 (by simp)
   refine .at g 0 _ k _ rfl hk.2 (Nat.lt_of_lt_of_le hgl hg) hgl fun j u hu => ?_
   have hj : j / 2 < (t :: r).length := by
     have := (List.getElem?_eq_some_iff.1 hu).1
     rw [Lx.tvs_length] at this
     omega
   obtain ⟨g2, e2, _, c0, c1⟩ := h (j / 2) hj
   obtain rfl : g = g2 := by injection e2 with e2; injection e2
   obtain ⟨t0, t1⟩ := tvs_at hj
   rw [Nat.zero_add]
   rcases Nat.mod_two_eq_zero_or_one j with hm | hm
   · have : j = j / 2 * 2 := by omega
     rw [this] at hu ⊢
     rw [t0] at hu
     cases hu
     exact c0
   · have : j = j / 2 * 2 + 1 := by omega
     rw [this] at hu ⊢
     rw [t1] at hu
     cases hu
     exact c1
set_option maxHeartbeats 4000000 in
set_option maxRecDepth 100000 in
theorem parse_bad (s : ByteArray) (w : World) (hL : Lx.Kit w) (hs : s.size ≤ 1250) (ho : none = toks (toL s)) :
   Calls Tryz.prog 13 #[.string s] w (ParseE w (.error 80)) := by
 have HL := Kept.mk hL
 have HO := Kept.mk ho
 have HP := Kept.mk (PB.start w)
 clear hL ho
 go_enter_defers Tryz.func13, Tryz.ntmps13
 go_wp2_with fail
 generalize (w.alloc (.cells #[.int .i64 0, .bool false, .string ⟨#[]⟩, .slice none 0 0, .slice none 0 0, .slice none 0 0, .slice none 0 0, .slice none 0 0] 31)).alloc (.cells #[.int .i64 0] 32) = w2 at *
 go_at_call 22
 refine (tokens_any s w2 (HL.out.below HP.out.bl) (by omega) none HO).mono ?_
 rintro e w3 ⟨rfl, hb⟩
 have HP3 := Kept.mk (HP.out.below hb)
 have c1 := cell_of_row _ _ 0 _ _ _ HP3.out.r1
 have f1 := frozen_of_row _ _ 0 _ _ HP3.out.r1
 clear hb
 go_upto_region 3 with fail
 clear c1 f1
 have HP4 := Kept.mk (HP3.out.setF (.int .i64 80))
 generalize w3.setCell ⟨w.heap.size + 1, 0, none⟩ (.int .i64 80) = w4 at *
 refine wp_region_noPanic (early_region (p := w.heap.size) (q := w.heap.size + 1) (n := 80) (fun _ _ _ _ _ h => h) (by omega) rfl rfl rfl HP4.out.r0 HP4.out.c8 HP4.out.r1 (NoPanic.normal ?_))
 have HP5 := Kept.mk ((HP4.out.drew.setN #[.int .i64 0, .bool false, .string ⟨#[]⟩, .slice none 0 0, .slice none 0 0, .slice none 0 0, .slice none 0 0, .slice none 0 0] rfl).setF (.int .i64 80))
 generalize (w4.drew.setRow w.heap.size #[.int .i64 0, .bool false, .string ⟨#[]⟩, .slice none 0 0, .slice none 0 0, .slice none 0 0, .slice none 0 0, .slice none 0 0]).setCell ⟨w.heap.size + 1, 0, none⟩ (.int .i64 80) = w5 at *
 go_wp2_with fail
 refine ⟨_, res_two (p := w.heap.size) (q := w.heap.size + 1) rfl rfl HP5.out.r0 rfl (cell_of_row _ _ 0 _ _ _ HP5.out.r1), ?_⟩
 exact ⟨rfl, ⟨HP5.out.bl⟩⟩
theorem rt_far {w wk : World} {cs : Array Value} {x v : Value} {A : Option Addr} {ts : List Tok} (h : Rt wk A ts) (hp : PB w wk cs x) : Rt (wk.setCell ⟨w.heap.size + 1, 0, none⟩ v) A ts := by
 cases ts with
 | nil => exact Rt.nil _ _
 | cons t r =>
   refine h.far fun g off e he => ?_
   obtain ⟨g2, e2, _, _, c1⟩ := h 0 (by simp)
   rw [e] at e2
   have : g = g2 := by injection e2 with e2; injection e2
   have he : w.heap.size + 1 = g := he
   rw [← this, ← he, cell_of_row _ _ _ _ _ _ hp.r1] at c1
   cases c1
theorem Mp.alloc {w : World} {m : Nat} (h : Mp w m) (hm : m < w.heap.size) (o : Obj) : Mp (w.alloc o) m := by
 obtain ⟨es, clock, hb, hl⟩ := h
 exact ⟨es, clock, (Below.heap_alloc w _ m hm).trans hb, hl⟩
set_option maxHeartbeats 4000000 in
set_option maxRecDepth 100000 in
theorem parse_good (s : ByteArray) (w : World) (hL : Lx.Kit w) (hW : Wx.Kit w) (hs : s.size ≤ 1250) (ts : List Tok) (ho : some ts = toks (toL s)) (r : Except Int Nd) (hr : r = parseP ts) :
   Calls Tryz.prog 13 #[.string s] w (ParseE w r) := by
 have hmf : ∀ (fn : Fn) (first cap : Array Value) (w : World), (Instr.makeFunc fn first cap).run Tryz.prog w = .ok (.func fn first cap) w := fun _ _ _ _ => rfl
 have HL := Kept.mk hL
 have HW := Kept.mk hW
 have HO := Kept.mk ho
 have HP := Kept.mk (PB.start w)
 have hgo := Lx.goes_of _ _ _ (Nat.le_refl _) ho.symm
 have HGd := Kept.mk (goes_good hgo)
 have HSh : Kept (ts.length ≤ 1250 ∧ ∀ t ∈ ts, t.text.length ≤ 2500) := ⟨by
   obtain ⟨h1, h2⟩ := goes_short hgo
   rw [toL_length] at h1 h2
   exact ⟨by omega, fun t ht => by have := h2 t ht; omega⟩⟩
 have HR : Kept (r = match list (andOr (pipe (bothP 30).1)) true ts with | .error e => .error e | .ok (n, us) => if us.isEmpty then .ok n else .error 100) := ⟨hr⟩
 clear hL hW ho hgo hr
 go_enter_defers Tryz.func13, Tryz.ntmps13
 go_wp2_with fail
 generalize (w.alloc (.cells #[.int .i64 0, .bool false, .string ⟨#[]⟩, .slice none 0 0, .slice none 0 0, .slice none 0 0, .slice none 0 0, .slice none 0 0] 31)).alloc (.cells #[.int .i64 0] 32) = w2 at *
 go_at_call 22
 refine (tokens_any s w2 (HL.out.below HP.out.bl) (by omega) (some ts) HO).mono ?_
 rintro e w3 ⟨⟨A, k, rfl, HRt, HNo⟩, hb⟩
 have HP3 := Kept.mk (HP.out.below hb)
 have c1 := cell_of_row _ _ 0 _ _ _ HP3.out.r1
 have f1 := frozen_of_row _ _ 0 _ _ HP3.out.r1
 have HRt4 := Kept.mk (rt_far (v := .int .i64 0) HRt.out HP3.out)
 have HP4 := Kept.mk (HP3.out.setF (.int .i64 0))
 obtain ⟨LL, hLL⟩ : ∃ LL, LL = ts.length := ⟨_, rfl⟩
 rw [← hLL]
 have HLl := Kept.mk hLL
 clear hb hLL HRt HP
 go_upto_region 5 with fail
 clear c1 f1
 generalize w3.setCell ⟨w.heap.size + 1, 0, none⟩ (.int .i64 0) = w4 at *
 clear HP3
 go_upto_region 6 with (first
   | (go_at_call 24
      refine (constructs_any w4).mono ?_
      rintro e w5 ⟨m, rfl, hm1, hm2, hM, hB⟩
      have HP5 := Kept.mk (HP4.out.below hB.out)
      have HRt5 := Kept.mk (HRt4.out.below hB.out)
      have HM5 := hM
      have HMl := Kept.mk hm2
      clear hM hB hm1 hm2))
 have HPM : Kept (PM (w5.alloc (.cells #[.slice A LL k, .int .i64 1, .map (some m)] 52)) w5.heap.size 1 ts) := ⟨by
   refine ⟨⟨A, k, m, ?_, ?_, HM5.out.alloc HMl.out _, HMl.out⟩, HW.out.below (HP5.out.bl.alloc HP5.out.bl.size _), HW.out.ahead HP5.out.bl.size, HGd.out, by have := HSh.out.1; omega, HSh.out.2, by decide⟩
   · rw [← HLl.out]
     exact heap_alloc_new w5 _
   · exact (ts_of HRt5.out HNo.out (Nat.le_refl _)).same (fun i _ hi => Below.heap_alloc w5 _ i hi) (by simp)⟩
 have HP6 := Kept.mk (HP5.out.below ((Below.refl _ _).alloc (Nat.le_refl _) (.cells #[.slice A LL k, .int .i64 1, .map (some m)] 52)))
 have HGb : Kept (w.heap.size + 2 ≤ w5.heap.size) := ⟨HP5.out.lt⟩
 have HG6 : Kept (w5.heap.size ≤ (w5.alloc (.cells #[.slice A LL k, .int .i64 1, .map (some m)] 52)).heap.size) := ⟨by simp⟩
 clear HRt5 HM5 HMl HP5 HRt4 HP4 HNo
 generalize w5.alloc (.cells #[.slice A LL k, .int .i64 1, .map (some m)] 52) = w6 at *
 generalize w5.heap.size = g at *
 go_wp2_with fail
 go_at_call 25
 refine (whole_any w6 g ts HPM.out).mono ?_
 intro e w7 hE
 cases hcu : list (andOr (pipe (bothP 30).1)) true ts with
 | error c =>
   rw [hcu] at hE
   obtain ⟨rfl, ho⟩ := hE
   obtain rfl : r = .error c := by rw [HR.out, hcu]
   have HP7 := Kept.mk (HP6.out.only ho.out HGb.out)
   clear ho hcu HR
   refine leaves_cons (f := 23) (args := #[.pointer (some ⟨w.heap.size, 0, none⟩), .pointer (some ⟨w.heap.size + 1, 0, none⟩)]) (by simp) (by simp [go_sem]) ?_
   refine (catch_bad w.heap.size (w.heap.size + 1) c w7 _ _ (by omega) HP7.out.r0 HP7.out.c8 HP7.out.r1).mono ?_
   rintro e u' w'' ⟨rfl, rfl, rfl⟩
   have HP8 := Kept.mk ((HP7.out.drew.setN #[.int .i64 0, .bool false, .string ⟨#[]⟩, .slice none 0 0, .slice none 0 0, .slice none 0 0, .slice none 0 0, .slice none 0 0] rfl).setF (.int .i64 c))
   refine ⟨_, res_two (p := w.heap.size) (q := w.heap.size + 1) rfl rfl HP8.out.r0 rfl (cell_of_row _ _ 0 _ _ _ HP8.out.r1), ?_⟩
   exact ⟨rfl, ⟨HP8.out.bl⟩⟩
 | ok z =>
   obtain ⟨x, us⟩ := z
   rw [hcu] at hE
   obtain ⟨u, rfl, hu, hp, ho⟩ := hE
   obtain ⟨k9, q9, n9, A1, n1, k1, A2, n2, k2, A3, n3, k3, A4, n4, k4, A5, n5, k5, ws5, gs5, rs5, os5, ks5, rfl, hxe, _, hkd⟩ := nv_parts hu.out
   have HR2 : Kept (r = if us.isEmpty then .ok x else .error 100) := ⟨by rw [HR.out, hcu]⟩
   have HP7 := Kept.mk (HP6.out.only ho.out HGb.out)
   obtain ⟨A9, k9a, m9, hrow, _⟩ := hp.out.row
   have hgl := HGb.out
   have HRow : Kept ((w7.setRow w.heap.size #[.int .i64 k9, .bool q9, .string (bs n9), .slice A1 n1 k1, .slice A2 n2 k2, .slice A3 n3 k3, .slice A4 n4 k4, .slice A5 n5 k5]).heap[g]? = some (.cells #[.slice A9 us.length k9a, .int .i64 ((1 : Nat) : Int), .map (some m9)] 52 (0, 0))) := ⟨(setRow_other w7 w.heap.size g _ (by omega)).trans hrow⟩
   have HP8 := Kept.mk (HP7.out.setN #[.int .i64 k9, .bool q9, .string (bs n9), .slice A1 n1 k1, .slice A2 n2 k2, .slice A3 n3 k3, .slice A4 n4 k4, .slice A5 n5 k5] rfl)
   have hs6 := HP6.out.lt
   have HN : Kept (∀ v : Value, NV (Nw w.heap.size) (((w7.setRow w.heap.size #[.int .i64 k9, .bool q9, .string (bs n9), .slice A1 n1 k1, .slice A2 n2 k2, .slice A3 n3 k3, .slice A4 n4 k4, .slice A5 n5 k5]).setRow w.heap.size #[.int .i64 k9, .bool q9, .string (bs n9), .slice A1 n1 k1, .slice A2 n2 k2, .slice A3 n3 k3, .slice A4 n4 k4, .slice A5 n5 k5]).setCell ⟨w.heap.size + 1, 0, none⟩ v) (.agg #[.int .i64 k9, .bool q9, .string (bs n9), .slice A1 n1 k1, .slice A2 n2 k2, .slice A3 n3 k3, .slice A4 n4 k4, .slice A5 n5 k5]) x) := ⟨fun v => hu.out.same (fun b hP _ => by
     have hP : w6.heap.size ≤ b := hP
     exact ⟨by show w.heap.size ≤ b; omega, (Below.heap_setCell _ _ _ _ (by show b ≠ w.heap.size + 1; omega)).trans ((setRow_other _ _ b _ (by omega)).trans (setRow_other _ _ b _ (by omega)))⟩) (by simp [World.setCell, setRow_size])⟩
   clear hu hp ho hxe hkd hcu HR hrow hgl hs6
   go_upto_region 7 with (refine wpList_store_row rfl 31 _ _ rfl w.heap.size #[.int .i64 k9, .bool q9, .string (bs n9), .slice A1 n1 k1, .slice A2 n2 k2, .slice A3 n3 k3, .slice A4 n4 k4, .slice A5 n5 k5] rfl rfl _ _ HP7.out.r0 (by kernel_rfl) HP7.out.c8 (all_node _ _ _ _ _ _ _ _ _ _ _ _ _ _ _ _ _ _) ?_)
   generalize w7.setRow w.heap.size #[.int .i64 k9, .bool q9, .string (bs n9), .slice A1 n1 k1, .slice A2 n2 k2, .slice A3 n3 k3, .slice A4 n4 k4, .slice A5 n5 k5] = w8 at *
   cases hem : us.isEmpty with
   | false =>
     have HEm : Kept (false = decide (us.length = 0)) := ⟨by rw [List.isEmpty_eq_false_iff] at hem; exact (decide_eq_false (fun h => hem (List.eq_nil_of_length_eq_zero h))).symm⟩
     obtain rfl : r = .error 100 := by rw [HR2.out, hem]; rfl
     generalize us.length = UL at *
     clear hem HR2 HN
     go_wp2_with (first
       | (go_at_call 27; refine (ended_row w8 g _ _ _ _ _ HRow.out false HEm.out).mono ?_; rintro e w9 ⟨rfl, rfl⟩)
       | (go_at_call 26; refine (check_any _ false 100).mono ?_; rintro e w9 ⟨rfl, rfl⟩))
     refine leaves_cons (f := 23) (args := #[.pointer (some ⟨w.heap.size, 0, none⟩), .pointer (some ⟨w.heap.size + 1, 0, none⟩)]) (by simp) (by simp [go_sem]) ?_
     refine (catch_bad w.heap.size (w.heap.size + 1) 100 w8 _ _ (by omega) HP8.out.r0 rfl HP8.out.r1).mono ?_
     rintro e u' w'' ⟨rfl, rfl, rfl⟩
     have HP9 := Kept.mk ((HP8.out.drew.setN #[.int .i64 0, .bool false, .string ⟨#[]⟩, .slice none 0 0, .slice none 0 0, .slice none 0 0, .slice none 0 0, .slice none 0 0] rfl).setF (.int .i64 100))
     refine ⟨_, res_two (p := w.heap.size) (q := w.heap.size + 1) rfl rfl HP9.out.r0 rfl (cell_of_row _ _ 0 _ _ _ HP9.out.r1), ?_⟩
     exact ⟨rfl, ⟨HP9.out.bl⟩⟩
   | true =>
     have HEm : Kept (true = decide (us.length = 0)) := ⟨by rw [List.isEmpty_iff] at hem; rw [hem]; rfl⟩
     obtain rfl : r = .ok x := by rw [HR2.out, hem]; rfl
     generalize us.length = UL at *
     have HP9 := Kept.mk ((HP8.out.setN #[.int .i64 k9, .bool q9, .string (bs n9), .slice A1 n1 k1, .slice A2 n2 k2, .slice A3 n3 k3, .slice A4 n4 k4, .slice A5 n5 k5] rfl).setF (.int .i64 0))
     have HP8r := Kept.mk (HP8.out.setN #[.int .i64 k9, .bool q9, .string (bs n9), .slice A1 n1 k1, .slice A2 n2 k2, .slice A3 n3 k3, .slice A4 n4 k4, .slice A5 n5 k5] rfl)
     have c1 := cell_of_row _ _ 0 _ _ _ HP8r.out.r1
     have f1 := frozen_of_row _ _ 0 _ _ HP8r.out.r1
     clear hem HR2
     go_wp2_with (first
       | (go_at_call 27; refine (ended_row w8 g _ _ _ _ _ HRow.out true HEm.out).mono ?_; rintro e w9 ⟨rfl, rfl⟩)
       | (go_at_call 26; refine (check_any _ true 100).mono ?_; rintro e w9 ⟨rfl, rfl⟩)
       | (refine wpList_load_row rfl 31 _ rfl w.heap.size rfl 31 #[.int .i64 k9, .bool q9, .string (bs n9), .slice A1 n1 k1, .slice A2 n2 k2, .slice A3 n3 k3, .slice A4 n4 k4, .slice A5 n5 k5] (0, 0) _ HP8.out.r0 Tryz.underlying31 rfl (by kernel_rfl) ?_)
       | (refine wpList_store_row rfl 31 _ _ rfl w.heap.size #[.int .i64 k9, .bool q9, .string (bs n9), .slice A1 n1 k1, .slice A2 n2 k2, .slice A3 n3 k3, .slice A4 n4 k4, .slice A5 n5 k5] rfl rfl _ _ HP8.out.r0 (by kernel_rfl) rfl (all_node _ _ _ _ _ _ _ _ _ _ _ _ _ _ _ _ _ _) ?_))
     clear c1 f1
     refine leaves_cons (f := 23) (args := #[.pointer (some ⟨w.heap.size, 0, none⟩), .pointer (some ⟨w.heap.size + 1, 0, none⟩)]) (by simp) (by simp [go_sem]) ?_
     refine (catch_idle ⟨w.heap.size, 0, none⟩ ⟨w.heap.size + 1, 0, none⟩ _).mono ?_
     rintro e u' w'' ⟨rfl, rfl, rfl⟩
     refine ⟨_, res_two (p := w.heap.size) (q := w.heap.size + 1) rfl rfl HP9.out.r0 rfl (cell_of_row _ _ 0 _ _ _ HP9.out.r1), ?_⟩
     exact ⟨_, rfl, ⟨HN.out _⟩, ⟨HP9.out.bl⟩⟩
end Sy
end
section
open Go.RowKit Tx
namespace Wx
set_option maxHeartbeats 4000000 in
set_option maxRecDepth 100000 in
theorem same_any (N : Nat) : ∀ (P Q : Nat → Prop) (l : List Pt) (A C : Option Addr) (n m k q : Nat) (w : World), cnt l = N → LV P w (.slice A n k) l → LV Q w (.slice C m q) l → cnt l ≤ 100000 →
   Calls Tryz.prog 32 #[.slice A n k, .slice C m q] w fun e w' => e = .returned (.bool true) ∧ Below w.heap.size w w' := by
 induction N using Nat.strongRecOn with
 | _ N ih =>
   intro P Q l A C n m k q w hN h1 h2 hsz
   have IH := Kept.mk ih
   have HSz := Kept.mk hsz
   obtain rfl := h1.len
   obtain rfl := h2.len
   have hlen : l.length ≤ 100000 := Nat.le_trans (cnt_len l) hsz
   have H1 := Kept.mk h1
   have H2 := Kept.mk h2
   have HN := Kept.mk hN
   obtain ⟨ll, hll⟩ : ∃ ll, ll = l.length := ⟨_, rfl⟩
   have HLL := Kept.mk hll
   rw [← hll] at hlen H1 H2 ⊢
   clear ih hsz h1 h2 hN hll
   go_enter Tryz.func32, Tryz.ntmps32
   go_wp2_with fail
   go_loopw [5] (fun i wr => ∃ j : Nat, j ≤ ll ∧ i = .int .i64 (j : Int) ∧ Kept (Below w.heap.size w wr)) (fun i _ => ll - (intOf i).toNat)
   case atStart => exact ⟨0, by omega, rfl, ⟨Below.refl _ _⟩⟩
   case round =>
     obtain ⟨j, hj, rfl, HB⟩ := hrel
     have j0 : (0 : Int) ≤ j := by omega
     by_cases hlt : j < ll
     · have j1 : (j : Int) < (ll : Int) := by omega
       have hjl : j < l.length := by have := HLL.out; omega
       obtain ⟨g, off, kk, qq, t, nn, o, wd, v, e, hg, hp, hv, hwd, c0, c1, c2, c3, c4, c5⟩ := (H1.out.keep HB.out).get hjl
       subst e
       obtain ⟨g2, off2, kk2, qq2, t2, nn2, o2, wd2, v2, e2, hg2, hp2, hv2, hwd2, d0, d1, d2, d3, d4, d5⟩ := (H2.out.keep HB.out).get hjl
       subst e2
       rw [hp] at hp2
       injection hp2 with e1 e2 e3 e4 e5 e6
       subst e1 e2 e3 e4 e5 e6
       obtain ⟨A2, k2, rfl⟩ := hwd.slice
       obtain ⟨C2, q2, rfl⟩ := hwd2.slice
       have hcw := cnt_word hjl hp
       have HWd := Kept.mk (And.intro hwd hwd2)
       have HCw : Kept (cnt wd < N ∧ cnt wd ≤ 100000) := ⟨by have := HN.out; have := HSz.out; omega⟩
       clear hcw hp hjl hwd hwd2
       generalize hwl : wd.length = wl at *
       clear hwl
       go_wp2_with fail
       have HBg : Kept (∀ o1 o2 : Obj, Below wr.heap.size wr ((wr.alloc o1).alloc o2).drew) := ⟨fun o1 o2 => (((Below.refl _ _).alloc (Nat.le_refl _) _).alloc (by simp) _).drew⟩
       go_region
       all_goals
         go_wp2_with (go_at_call 32
                      refine (IH.out (cnt wd) HCw.out.1 _ _ wd A2 C2 wl wl k2 q2 _ rfl (HWd.out.1.keep (HBg.out _ _)) (HWd.out.2.keep (HBg.out _ _)) HCw.out.2).mono ?_
                      rintro e w4 ⟨rfl, hb4⟩
                      have HB4 : Kept (Below w.heap.size w w4) := ⟨HB.out.trans (((HBg.out _ _).trans (hb4.mono (by simp; omega))).mono HB.out.size)⟩
                      clear hb4)
         go_roundw
         case rel => exact ⟨j + 1, by omega, by go_num, HB4⟩
         case measure => simp [intOf]; omega
     · have j1 : ¬ (j : Int) < (ll : Int) := by omega
       clear hlt
       go_wp2_with fail
       go_ret
       exact ⟨rfl, HB.out⟩
end Wx
end
section
open Go.RowKit Tx
namespace Sy
open Wx (Pt LV cnt)
theorem WC.get {P : Nat → Prop} {w : World} {xs : List Value} {l : List (List Pt)} (h : WC P w xs l) : ∀ {j : Nat} (hj : j < l.length), ∃ v, xs[j]? = some v ∧ LV P w v l[j] := by
 induction h with
 | nil => intro j hj; simp at hj
 | cons v p xs l h1 h hr ih =>
   intro j hj
   cases j with
   | zero => exact ⟨v, rfl, h⟩
   | succ j =>
     obtain ⟨u, hu, hl⟩ := ih (j := j) (by simpa using hj)
     exact ⟨u, by simpa using hu, hl⟩
theorem SL.getW {P : Nat → Prop} {w : World} {A : Option Addr} {n k : Nat} {l : List (List Pt)} (h : SL P w (WC P w) (.slice A n k) l) {j : Nat} (hj : j < l.length) : ∃ g off B b, A = some ⟨g, off, none⟩ ∧ w.cell? ⟨g, off + j, none⟩ = some (.slice B l[j].length b) ∧ LV P w (.slice B l[j].length b) l[j] := by
 cases h with
 | nil A cap h => simp at hj
 | «at» g off n cap xs l hn hm hP hg hc h =>
   obtain ⟨v, hv, hl⟩ := WC.get h hj
   obtain ⟨B, b, rfl⟩ := hl.slice
   exact ⟨g, off, B, b, rfl, hc j _ hv, hl⟩
theorem SL.keepW {P : Nat → Prop} {w w' : World} {v : Value} {l : List (List Pt)} (h : SL P w (WC P w) v l) (hb : Below w.heap.size w w') : SL P w' (WC P w') v l :=
 h.same (fun g hP hg => ⟨hP, hb.block g hg⟩) hb.size fun _xs _l hc => hc.same (fun g hP hg => ⟨hP, hb.block g hg⟩) hb.size
set_option maxHeartbeats 4000000 in
set_option maxRecDepth 100000 in
theorem sameWords_any (P Q : Nat → Prop) (l : List (List Pt)) (A C : Option Addr) (n m k q : Nat) (w : World) (h1 : SL P w (WC P w) (.slice A n k) l) (h2 : SL Q w (WC Q w) (.slice C m q) l) (hn : n = l.length) (hm : m = l.length) (hl : l.length ≤ 100000) (hc : ∀ p ∈ l, cnt p ≤ 100000) :
   Calls Tryz.prog 31 #[.slice A n k, .slice C m q] w fun e w' => e = .returned (.bool true) ∧ Below w.heap.size w w' := by
 have H1 := Kept.mk h1
 have H2 := Kept.mk h2
 have HC := Kept.mk hc
 obtain ⟨ll, hll⟩ : ∃ ll, ll = l.length := ⟨_, rfl⟩
 have HLL := Kept.mk hll
 obtain rfl : n = ll := by omega
 obtain rfl : m = n := by omega
 have hlen : m ≤ 100000 := by omega
 clear h1 h2 hc hl hm hn hll
 go_enter Tryz.func31, Tryz.ntmps31
 go_wp2_with fail
 go_loopw [5] (fun i wr => ∃ j : Nat, j ≤ m ∧ i = .int .i64 (j : Int) ∧ Kept (Below w.heap.size w wr)) (fun i _ => m - (intOf i).toNat)
 case atStart => exact ⟨0, by omega, rfl, ⟨Below.refl _ _⟩⟩
 case round =>
   obtain ⟨j, hj, rfl, HB⟩ := hrel
   have j0 : (0 : Int) ≤ j := by omega
   by_cases hlt : j < m
   · have j1 : (j : Int) < (m : Int) := by omega
     have hjl : j < l.length := by have := HLL.out; omega
     obtain ⟨g, off, B, b, rfl, c0, hv⟩ := (H1.out.keepW HB.out).getW hjl
     obtain ⟨g2, off2, B2, b2, rfl, d0, hv2⟩ := (H2.out.keepW HB.out).getW hjl
     have HV := Kept.mk (And.intro hv hv2)
     have HCw : Kept (cnt l[j] ≤ 100000) := ⟨HC.out _ (List.getElem_mem hjl)⟩
     generalize l[j] = wd at *
     clear hjl hv hv2
     generalize hwl : wd.length = wl at *
     have HWl := Kept.mk hwl
     clear hwl
     go_wp2_with fail
     go_region_with (first
       | (go_at_call 32
          refine (Wx.same_any (cnt wd) P Q wd B B2 wl wl b b2 _ rfl (HV.out.1.keep ((Below.refl _ _).drew)) (HV.out.2.keep ((Below.refl _ _).drew)) HCw.out).mono ?_
          rintro e w4 ⟨rfl, hb4⟩
          have HB4 : Kept (Below w.heap.size w w4) := ⟨HB.out.trans (((Below.refl _ _).drew.trans hb4).mono HB.out.size)⟩
          clear hb4))
     all_goals
       go_wp2_with fail
       go_roundw
       case rel => exact ⟨j + 1, by omega, by go_num, HB4⟩
       case measure => simp [intOf]; omega
   · have j1 : ¬ (j : Int) < (m : Int) := by omega
     clear hlt
     go_wp2_with fail
     go_ret
     exact ⟨rfl, HB.out⟩
end Sy
end
end Go.Proofs.YtahjonfmhejoeaaGreatDoor
