/-
  Parts of the proof, merged.
-/
import Derived.Test.YtlggpefmojacoaaGreatDoorLa27
import Derived.Test.YtlggpefmojacoaaGreatDoorLa28
import Derived.Test.YtlggpefmojacoaaGreatDoorLa52
namespace Go.Proofs.YtlggpefmojacoaaGreatDoor
section
open Go.RowKit Tx
namespace Ar
open Va (Vr VS VO getD Sorted)
theorem val_step {P : Program} {Q : Exit → Act → World → Prop} {o : Oper} {a : Act} {w w' : World} {v : Value} {d : Option Tmp} {K : Act → World → Prop} (hd : o.dst = d) (hr : (execOp a.eval o).run P w = .ok (.value v) w') (hK : K (a.put d v) w') : Oper.wp P o a w K Q := by
 unfold Oper.wp
 rw [hr, Oper.upon_value, hd]
 exact hK
theorem loadInt {w : World} {q : Nat} {v : Value} (hq : w.cell? ⟨q, 0, none⟩ = some v) : (Instr.loadAt 3 (.pointer (some ⟨q, 0, none⟩))).run Tryz.prog w = .ok v w := by
 simp [go_sem, hq]
theorem loadVars {w : World} {q : Nat} {v : Value} (hq : w.cell? ⟨q, 0, none⟩ = some v) : (Instr.loadAt 25 (.pointer (some ⟨q, 0, none⟩))).run Tryz.prog w = .ok v w := by
 simp [go_sem, hq]
def fops : Array Oper := #[{ dst := some 21, op := .load 3 (.tmp 4), type := 3, pos := "arith.go:23", after := #[], guard := none },
 { dst := some 22, op := .fieldAddr 57 (.tmp 7) 0, type := 0, pos := "arith.go:23", after := #[], guard := none },
 { dst := some 23, op := .load 25 (.tmp 22), type := 25, pos := "arith.go:23", after := #[{ on := 1, ground := .data }], guard := none },
 { dst := none, op := .store 3 (.tmp 4) (.tmp 21), type := 0, pos := "arith.go:23", after := #[{ on := 0, ground := .data }, { on := 0, ground := .phase }, { on := 1, ground := .textOnly .lateStoresUnsure }, { on := 2, ground := .textOnly .lateStoresUnsure }], guard := none },
 { dst := none, op := .store 25 (.tmp 5) (.tmp 23), type := 0, pos := "arith.go:23", after := #[{ on := 2, ground := .data }, { on := 3, ground := .chain }, { on := 0, ground := .phase }, { on := 1, ground := .phase }, { on := 2, ground := .phase }, { on := 3, ground := .phase }], guard := none },
 { dst := none, op := .store 36 (.tmp 6) (.const (.int .i64 0)), type := 0, pos := "arith.go:23", after := #[{ on := 4, ground := .chain }, { on := 0, ground := .phase }, { on := 1, ground := .phase }, { on := 2, ground := .phase }, { on := 3, ground := .phase }, { on := 4, ground := .phase }], guard := none }]
set_option maxHeartbeats 2000000 in
set_option maxRecDepth 100000 in
theorem fin_region {Q : Exit → Act → World → Prop} {id : Nat} {a : Act} {w wk : World} {n : Int} {m c : Value} {vb n3 k3 : Nat} {A : Option Addr} (hQ : ∀ (d : Option Nat) (x : Value) (c : List PanicEntry) (a : Act) (w : World), Q (.panic c) (a.put d x) w → Q (.panic c) a w)
   (hs : a.tmps.size = 24) (h4 : a.eval (.tmp 4) = .pointer (some ⟨w.heap.size, 0, none⟩)) (h5 : a.eval (.tmp 5) = .pointer (some ⟨w.heap.size + 1, 0, none⟩)) (h6 : a.eval (.tmp 6) = .pointer (some ⟨w.heap.size + 2, 0, none⟩)) (h7 : a.eval (.tmp 7) = .pointer (some ⟨vb, 0, none⟩))
   (hp : RB w wk (.int .i64 n) m c) (hrow : wk.heap[vb]? = some (.cells #[.slice A n3 k3] 57 (0, 0))) (hvb : w.heap.size + 3 ≤ vb)
   (hgo : ∀ a', a'.defers = a.defers → a'.eval (.tmp 4) = .pointer (some ⟨w.heap.size, 0, none⟩) → a'.eval (.tmp 5) = .pointer (some ⟨w.heap.size + 1, 0, none⟩) → a'.eval (.tmp 6) = .pointer (some ⟨w.heap.size + 2, 0, none⟩) →
     Q .normal a' (((wk.drew.setCell ⟨w.heap.size, 0, none⟩ (.int .i64 n)).setCell ⟨w.heap.size + 1, 0, none⟩ (.slice A n3 k3)).setCell ⟨w.heap.size + 2, 0, none⟩ (.int .i64 0))) :
   (Code.region id fops true).wp Tryz.prog Q a wk := by
 refine wp_region_any (by kernel_rfl) ?_
 change wpAny _ .any fops Q _ _ a wk.drew
 have g0 := hp.drew
 have g1 := g0.setN (.int .i64 n)
 have g2 := g1.setM (.slice A n3 k3)
 have r0 : wk.drew.heap[vb]? = some (.cells #[.slice A n3 k3] 57 (0, 0)) := hrow
 have r1 := (Below.heap_setCell wk.drew ⟨w.heap.size, 0, none⟩ (.int .i64 n) vb (by show vb ≠ w.heap.size; omega)).trans r0
 have l0 := loadInt (cell_of_row _ _ 0 _ _ _ g0.r0)
 have v0 := loadVars (cell_of_row _ _ 0 _ _ _ r0)
 have v1 := loadVars (cell_of_row _ _ 0 _ _ _ r1)
 have s0 := storeInt (n := n) (cell_of_row _ _ 0 _ _ _ g0.r0) (frozen_of_row _ _ 0 _ _ g0.r0)
 have s1 := storeVars (A := A) (n := n3) (k := k3) (cell_of_row _ _ 0 _ _ _ g1.r1) (frozen_of_row _ _ 0 _ _ g1.r1)
 have s2 := storeNo (n := 0) (cell_of_row _ _ 0 _ _ _ g2.r2) (frozen_of_row _ _ 0 _ _ g2.r2)
 generalize hW3 : ((wk.drew.setCell ⟨w.heap.size, 0, none⟩ (.int .i64 n)).setCell ⟨w.heap.size + 1, 0, none⟩ (.slice A n3 k3)).setCell ⟨w.heap.size + 2, 0, none⟩ (.int .i64 0) = W3 at *
 generalize hW2 : (wk.drew.setCell ⟨w.heap.size, 0, none⟩ (.int .i64 n)).setCell ⟨w.heap.size + 1, 0, none⟩ (.slice A n3 k3) = W2 at *
 generalize hW1 : wk.drew.setCell ⟨w.heap.size, 0, none⟩ (.int .i64 n) = W1 at *
 generalize hW0 : wk.drew = W0 at *
 refine wpAny_take (i := 1) (oi := _) (v := .pointer (some ⟨vb, 0, none⟩)) rfl (by kernel_rfl) (by kernel_rfl) (by kernel_rfl) (fun c a w h => hQ _ _ c a w h) (.inl ⟨by kernel_rfl, fun w' => Sx.ex_fa rfl h7 (by kernel_rfl)⟩) ?_
 refine wpAny_ready (rs := [0, 2]) (by kernel_rfl) (by simp) ?_
 refine AllReady.cons (o := _) rfl (fun K hK => ?_) (AllReady.cons (o := _) rfl (fun K hK => ?_) AllReady.nil)
 · rw [if_pos (by kernel_rfl)]
   refine val_step (v := .int .i64 n) (w' := W0) (d := some 21) rfl (Sx.ex_ld (u := .pointer (some ⟨w.heap.size, 0, none⟩)) rfl ((Sx.ev_other (by decide)).trans h4) l0) (hK _ _ ?_)
   refine wpAny_ready (rs := [2, 3]) (by kernel_rfl) (by simp) ?_
   refine AllReady.cons (o := _) rfl (fun K1 hK1 => ?_) (AllReady.cons (o := _) rfl (fun K1 hK1 => ?_) AllReady.nil)
   · rw [if_pos (by kernel_rfl)]
     refine val_step (v := .slice A n3 k3) (w' := W0) (d := some 23) rfl (Sx.ex_ld (u := .pointer (some ⟨vb, 0, none⟩)) rfl ((Sx.ev_other (by decide)).trans (Sx.ev_same (by (try simp only [Sx.put_size]); omega))) v0) (hK1 _ _ ?_)
     refine wpAny_ready (rs := [3]) (by kernel_rfl) (by simp) ?_
     refine AllReady.cons (o := _) rfl (fun K3 hK3 => ?_) AllReady.nil
     rw [if_pos (by kernel_rfl)]
     refine skip_step (w' := W1) rfl ?_ (hK3 _ _ ?_)
     · exact Sx.ex_st (u := .pointer (some ⟨w.heap.size, 0, none⟩)) (v := .int .i64 n) rfl ((Sx.ev_other (by decide)).trans ((Sx.ev_other (by decide)).trans ((Sx.ev_other (by decide)).trans h4))) ((Sx.ev_other (by decide)).trans (Sx.ev_same (by (try simp only [Sx.put_size]); omega))) s0
     refine wpAny_ready (rs := [4]) (by kernel_rfl) (by simp) ?_
     refine AllReady.cons (o := _) rfl (fun K4 hK4 => ?_) AllReady.nil
     rw [if_pos (by kernel_rfl)]
     refine skip_step (w' := W2) rfl ?_ (hK4 _ _ ?_)
     · exact Sx.ex_st (u := .pointer (some ⟨w.heap.size + 1, 0, none⟩)) (v := .slice A n3 k3) rfl ((Sx.ev_other (by decide)).trans ((Sx.ev_other (by decide)).trans ((Sx.ev_other (by decide)).trans h5))) (Sx.ev_same (by (try simp only [Sx.put_size]); omega)) s1
     refine wpAny_ready (rs := [5]) (by kernel_rfl) (by simp) ?_
     refine AllReady.cons (o := _) rfl (fun K5 hK5 => ?_) AllReady.nil
     rw [if_pos (by kernel_rfl)]
     refine skip_step (w' := W3) rfl ?_ (hK5 _ _ ?_)
     · exact Sx.ex_st (u := .pointer (some ⟨w.heap.size + 2, 0, none⟩)) (v := .int .i64 0) rfl ((Sx.ev_other (by decide)).trans ((Sx.ev_other (by decide)).trans ((Sx.ev_other (by decide)).trans h6))) rfl s2
     exact wpAny_done (by kernel_rfl) (hgo _ (by simp only [Sx.put_defers]) ((Sx.ev_other (by decide)).trans ((Sx.ev_other (by decide)).trans ((Sx.ev_other (by decide)).trans h4))) ((Sx.ev_other (by decide)).trans ((Sx.ev_other (by decide)).trans ((Sx.ev_other (by decide)).trans h5))) ((Sx.ev_other (by decide)).trans ((Sx.ev_other (by decide)).trans ((Sx.ev_other (by decide)).trans h6)))) _
   · rw [if_pos (by kernel_rfl)]
     refine skip_step (w' := W1) rfl ?_ (hK1 _ _ ?_)
     · exact Sx.ex_st (u := .pointer (some ⟨w.heap.size, 0, none⟩)) (v := .int .i64 n) rfl ((Sx.ev_other (by decide)).trans ((Sx.ev_other (by decide)).trans h4)) (Sx.ev_same (by (try simp only [Sx.put_size]); omega)) s0
     refine wpAny_ready (rs := [2]) (by kernel_rfl) (by simp) ?_
     refine AllReady.cons (o := _) rfl (fun K2 hK2 => ?_) AllReady.nil
     rw [if_pos (by kernel_rfl)]
     refine val_step (v := .slice A n3 k3) (w' := W1) (d := some 23) rfl (Sx.ex_ld (u := .pointer (some ⟨vb, 0, none⟩)) rfl ((Sx.ev_other (by decide)).trans (Sx.ev_same (by (try simp only [Sx.put_size]); omega))) v1) (hK2 _ _ ?_)
     refine wpAny_ready (rs := [4]) (by kernel_rfl) (by simp) ?_
     refine AllReady.cons (o := _) rfl (fun K4 hK4 => ?_) AllReady.nil
     rw [if_pos (by kernel_rfl)]
     refine skip_step (w' := W2) rfl ?_ (hK4 _ _ ?_)
     · exact Sx.ex_st (u := .pointer (some ⟨w.heap.size + 1, 0, none⟩)) (v := .slice A n3 k3) rfl ((Sx.ev_other (by decide)).trans ((Sx.ev_other (by decide)).trans ((Sx.ev_other (by decide)).trans h5))) (Sx.ev_same (by (try simp only [Sx.put_size]); omega)) s1
     refine wpAny_ready (rs := [5]) (by kernel_rfl) (by simp) ?_
     refine AllReady.cons (o := _) rfl (fun K5 hK5 => ?_) AllReady.nil
     rw [if_pos (by kernel_rfl)]
     refine skip_step (w' := W3) rfl ?_ (hK5 _ _ ?_)
     · exact Sx.ex_st (u := .pointer (some ⟨w.heap.size + 2, 0, none⟩)) (v := .int .i64 0) rfl ((Sx.ev_other (by decide)).trans ((Sx.ev_other (by decide)).trans ((Sx.ev_other (by decide)).trans h6))) rfl s2
     exact wpAny_done (by kernel_rfl) (hgo _ (by simp only [Sx.put_defers]) ((Sx.ev_other (by decide)).trans ((Sx.ev_other (by decide)).trans ((Sx.ev_other (by decide)).trans h4))) ((Sx.ev_other (by decide)).trans ((Sx.ev_other (by decide)).trans ((Sx.ev_other (by decide)).trans h5))) ((Sx.ev_other (by decide)).trans ((Sx.ev_other (by decide)).trans ((Sx.ev_other (by decide)).trans h6)))) _
 · rw [if_pos (by kernel_rfl)]
   refine val_step (v := .slice A n3 k3) (w' := W0) (d := some 23) rfl (Sx.ex_ld (u := .pointer (some ⟨vb, 0, none⟩)) rfl (Sx.ev_same (by (try simp only [Sx.put_size]); omega)) v0) (hK _ _ ?_)
   refine wpAny_ready (rs := [0]) (by kernel_rfl) (by simp) ?_
   refine AllReady.cons (o := _) rfl (fun K1 hK1 => ?_) AllReady.nil
   rw [if_pos (by kernel_rfl)]
   refine val_step (v := .int .i64 n) (w' := W0) (d := some 21) rfl (Sx.ex_ld (u := .pointer (some ⟨w.heap.size, 0, none⟩)) rfl ((Sx.ev_other (by decide)).trans ((Sx.ev_other (by decide)).trans h4)) l0) (hK1 _ _ ?_)
   refine wpAny_ready (rs := [3]) (by kernel_rfl) (by simp) ?_
   refine AllReady.cons (o := _) rfl (fun K3 hK3 => ?_) AllReady.nil
   rw [if_pos (by kernel_rfl)]
   refine skip_step (w' := W1) rfl ?_ (hK3 _ _ ?_)
   · exact Sx.ex_st (u := .pointer (some ⟨w.heap.size, 0, none⟩)) (v := .int .i64 n) rfl ((Sx.ev_other (by decide)).trans ((Sx.ev_other (by decide)).trans ((Sx.ev_other (by decide)).trans h4))) (Sx.ev_same (by (try simp only [Sx.put_size]); omega)) s0
   refine wpAny_ready (rs := [4]) (by kernel_rfl) (by simp) ?_
   refine AllReady.cons (o := _) rfl (fun K4 hK4 => ?_) AllReady.nil
   rw [if_pos (by kernel_rfl)]
   refine skip_step (w' := W2) rfl ?_ (hK4 _ _ ?_)
   · exact Sx.ex_st (u := .pointer (some ⟨w.heap.size + 1, 0, none⟩)) (v := .slice A n3 k3) rfl ((Sx.ev_other (by decide)).trans ((Sx.ev_other (by decide)).trans ((Sx.ev_other (by decide)).trans h5))) ((Sx.ev_other (by decide)).trans (Sx.ev_same (by (try simp only [Sx.put_size]); omega))) s1
   refine wpAny_ready (rs := [5]) (by kernel_rfl) (by simp) ?_
   refine AllReady.cons (o := _) rfl (fun K5 hK5 => ?_) AllReady.nil
   rw [if_pos (by kernel_rfl)]
   refine skip_step (w' := W3) rfl ?_ (hK5 _ _ ?_)
   · exact Sx.ex_st (u := .pointer (some ⟨w.heap.size + 2, 0, none⟩)) (v := .int .i64 0) rfl ((Sx.ev_other (by decide)).trans ((Sx.ev_other (by decide)).trans ((Sx.ev_other (by decide)).trans h6))) rfl s2
   exact wpAny_done (by kernel_rfl) (hgo _ (by simp only [Sx.put_defers]) ((Sx.ev_other (by decide)).trans ((Sx.ev_other (by decide)).trans ((Sx.ev_other (by decide)).trans h4))) ((Sx.ev_other (by decide)).trans ((Sx.ev_other (by decide)).trans ((Sx.ev_other (by decide)).trans h5))) ((Sx.ev_other (by decide)).trans ((Sx.ev_other (by decide)).trans ((Sx.ev_other (by decide)).trans h6)))) _
end Ar
end
end Go.Proofs.YtlggpefmojacoaaGreatDoor
namespace Go.Proofs.YtlggpefmojacoaaGreatDoor
section
open Go.RowKit Tx
namespace Ar
open Va (Vr VS VO getD Sorted)
def EvE (w : World) (r : V) (e : Ending) (w' : World) : Prop :=
 match r with
 | .ok (n, l2) => ∃ A k, e = .returned (.tuple #[.int .i64 n, .slice A l2.length k, .int .i64 0]) ∧ Kept (VS w' A k l2) ∧ Kept (Below w.heap.size w w')
 | .error c => e = .returned (.tuple #[.int .i64 0, .slice none 0 0, .int .i64 c]) ∧ Kept (Below w.heap.size w w')
theorem RB.start (w : World) : RB w (((w.alloc (.cells #[.int .i64 0] 3)).alloc (.cells #[.slice none 0 0] 25)).alloc (.cells #[.int .i64 0] 36)) (.int .i64 0) (.slice none 0 0) (.int .i64 0) := by
 refine ⟨(((Below.refl _ _).alloc (Nat.le_refl _) _).alloc (by simp) _).alloc (by simp; omega) _, ?_, ?_, ?_⟩
 · rw [Below.heap_alloc _ _ _ (by simp; omega), Below.heap_alloc _ _ _ (by simp)]
   exact heap_alloc_new w _
 · rw [Below.heap_alloc _ _ _ (by simp)]
   have := heap_alloc_new (w.alloc (.cells #[.int .i64 0] 3)) (.cells #[.slice none 0 0] 25)
   simpa using this
 · have := heap_alloc_new ((w.alloc (.cells #[.int .i64 0] 3)).alloc (.cells #[.slice none 0 0] 25)) (.cells #[.int .i64 0] 36)
   simpa using this
theorem cut_le (s : List UInt8) : (cutT s).length ≤ s.length := by
 have h1 : (trim s).length ≤ s.length := (List.dropWhile_sublist _).length_le
 unfold cutT
 rw [List.length_take]
 omega
theorem toksF_len : ∀ (n : Nat) (s : List UInt8), (∀ q ∈ toksF n s, q.length ≤ s.length) ∧ (toksF n s).length ≤ s.length
 | 0, s => ⟨fun q h => absurd h List.not_mem_nil, Nat.zero_le _⟩
 | n + 1, s => by
   rw [toksF]
   split
   · exact ⟨fun q h => absurd h List.not_mem_nil, Nat.zero_le _⟩
   · rename_i hc
     have h1 := cutR_lt hc
     have h2 := toksF_len n (cutR s)
     refine ⟨fun q hq => ?_, by rw [List.length_cons]; omega⟩
     rcases List.mem_cons.1 hq with rfl | hq
     · exact cut_le s
     · have := h2.1 q hq
       omega
theorem toks_len (s : List UInt8) (q : Tok) (h : q ∈ toks s) : q.length ≤ s.length := (toksF_len _ s).1 q h
theorem toks_count (s : List UInt8) : (toks s).length ≤ s.length := (toksF_len _ s).2
set_option maxHeartbeats 4000000 in
set_option maxRecDepth 100000 in
theorem eval_any (s : ByteArray) (l : List Vr) (w : World) (A : Option Addr) (n k : Nat) (hV : VS w A k l) (hn : n = l.length) (hOk : Ok l) (hK : KT w) (hs : s.size ≤ 50000) (hl : l.length ≤ 1000) :
   Calls Tryz.prog 17 #[.string s, .slice A n k] w (EvE w (eval (toL s) l)) := by
 have hmf : ∀ (fn : Fn) (first cap : Array Value) (w : World), (Instr.makeFunc fn first cap).run Tryz.prog w = .ok (.func fn first cap) w := fun _ _ _ _ => rfl
 have HV := Kept.mk hV
 have HN := Kept.mk hn
 have HOk := Kept.mk hOk
 have HK := Kept.mk hK
 have HS := Kept.mk hs
 have HL := Kept.mk hl
 have HP := Kept.mk (RB.start w)
 obtain ⟨R0, hR⟩ : ∃ R0, R0 = eval (toL s) l := ⟨_, rfl⟩
 rw [← hR]
 have HR := Kept.mk hR
 clear hV hn hOk hK hs hl hR
 go_enter_defers Tryz.func17, Tryz.ntmps17
 go_upto_region 2 with fail
 generalize ((w.alloc (.cells #[.int .i64 0] 3)).alloc (.cells #[.slice none 0 0] 25)).alloc (.cells #[.int .i64 0] 36) = w2 at *
 go_upto_region 3 with (go_at_call 27; refine (clone_any w2 A n k l (HV.out.below HP.out.bl) HN.out (by have := HL.out; omega)).mono ?_; rintro e w3 ⟨A2, k2, rfl, hv3, hb3⟩
                        have HV3 := Kept.mk hv3
                        have HP3 := Kept.mk (HP.out.below hb3)
                        clear hv3 hb3)
 obtain ⟨w4, hw4⟩ : ∃ w4, w4 = w3.alloc (.cells #[.slice A2 n k2] 57) := ⟨_, rfl⟩
 obtain ⟨vb, hvb⟩ : ∃ vb, vb = w3.heap.size := ⟨_, rfl⟩
 have hb4 : Below w3.heap.size w3 w4 := by rw [hw4]; exact (Below.refl _ _).alloc (Nat.le_refl _) _
 have HV4 : Kept (VS w4 A2 k2 l) := ⟨HV3.out.below hb4⟩
 have HP4 : Kept (RB w w4 (.int .i64 0) (.slice none 0 0) (.int .i64 0)) := ⟨HP3.out.below hb4⟩
 have HE4 : Kept (EM w4 vb l) := ⟨⟨A2, k2, by rw [hw4, hvb, ← HN.out]; exact heap_alloc_new w3 _, HV4.out⟩, ⟨w3.heap.size, by omega, ((HK.out.below HP3.out.bl).toB).below hb4⟩, HOk.out⟩
 have HS4 : Kept (w4.heap.size = vb + 1) := ⟨by rw [hw4, hvb]; simp⟩
 have HVb : Kept (w.heap.size + 3 ≤ vb) := ⟨by rw [hvb]; exact HP3.out.lt⟩
 rw [← hw4, ← hvb]
 clear hw4 hvb hb4 HP3 HV3
 go_upto_region 4 with (go_at_call 28; refine (new_any s w4 (by have := HS.out; omega) HE4.out.kt).mono ?_; rintro e w5 ⟨rfl, hp5, hb5⟩
                        have HPM := hp5
                        have HB5 := hb5
                        have HP5 := Kept.mk (HP4.out.below hb5.out)
                        clear hp5 hb5)
 obtain ⟨g, hg⟩ : ∃ g, g = w4.heap.size := ⟨_, rfl⟩
 rw [← hg] at HPM ⊢
 have HG : Kept (g = vb + 1) := ⟨by rw [hg, HS4.out]⟩
 have HGw := Kept.mk hg
 clear hg
 cases hts : toks (toL s) with
 | nil =>
   have HRr : Kept (R0 = .ok (0, l)) := ⟨by rw [HR.out, eval, if_pos hts]⟩
   rw [hts] at HPM
   clear hts
   go_upto_region 6 with (go_at_call 29; refine (ended_any w5 g 1 _ HPM.out true rfl).mono ?_; rintro e w6 ⟨rfl, rfl⟩)
   have HE5 := HE4.out.below HB5.out
   obtain ⟨A3, k3, hrow, hvs⟩ := HE5.row
   refine wp_region_noPanic (fin_region (w := w) (n := 0) (vb := vb) (A := A3) (n3 := l.length) (k3 := k3) (fun _ _ _ _ _ h => h) rfl rfl rfl rfl rfl HP5.out hrow HVb.out (fun a' ha h4 h5 h6 => NoPanic.normal ?_))
   have g0 := HP5.out.drew
   have g1 := g0.setN (.int .i64 0)
   have g2 := g1.setM (.slice A3 l.length k3)
   have g3 := g2.setC (.int .i64 0)
   have v0 : VS w5.drew A3 k3 l := hvs.below (Below.refl _ _).drew
   have v1 := VS.one v0 g0.r0 (fun s h => by cases h) (.int .i64 0)
   have v2 := VS.one v1 g1.r1 (fun s h => by cases h) (.slice A3 l.length k3)
   have v3 := VS.one v2 g2.r2 (fun s h => by cases h) (.int .i64 0)
   have HG3 := Kept.mk g3
   have HV3 := Kept.mk v3
   clear g0 g1 g2 g3 v0 v1 v2 v3 hvs hrow
   generalize ((w5.drew.setCell ⟨w.heap.size, 0, none⟩ (.int .i64 0)).setCell ⟨w.heap.size + 1, 0, none⟩ (.slice A3 l.length k3)).setCell ⟨w.heap.size + 2, 0, none⟩ (.int .i64 0) = w9 at *
   obtain ⟨tm, df⟩ := a'
   obtain rfl : df = _ := ha
   go_wp2_with fail
   refine leaves_cons (f := 26) (args := #[.pointer (some ⟨w.heap.size, 0, none⟩), .pointer (some ⟨w.heap.size + 1, 0, none⟩), .pointer (some ⟨w.heap.size + 2, 0, none⟩)]) (by simp) (by simp [go_sem]) ?_
   refine (catch_idle ⟨w.heap.size, 0, none⟩ ⟨w.heap.size + 1, 0, none⟩ ⟨w.heap.size + 2, 0, none⟩ _).mono ?_
   rintro e u' w'' ⟨rfl, rfl, rfl⟩
   refine ⟨_, res_three (p := w.heap.size) (q := w.heap.size + 1) (r := w.heap.size + 2) h4 h5 h6 (cell_of_row _ _ 0 _ _ _ HG3.out.r0) (cell_of_row _ _ 0 _ _ _ HG3.out.r1) (cell_of_row _ _ 0 _ _ _ HG3.out.r2), ?_⟩
   rw [HRr.out]
   exact ⟨_, _, rfl, HV3, ⟨HG3.out.bl⟩⟩
 | cons t ts =>
   have HRr : Kept (R0 = match whole (t :: ts) with | .error c => .error c | .ok e => ev e l) := ⟨by rw [HR.out, eval, if_neg (by rw [hts]; simp), hts]; cases whole (t :: ts) <;> rfl⟩
   rw [hts] at HPM
   go_upto_region 5 with (go_at_call 29; refine (ended_any w5 g 1 _ HPM.out false rfl).mono ?_; rintro e w6 ⟨rfl, rfl⟩)
   go_wp2_with fail
   go_at_call 31
   refine (whole_any w5 g _ HPM.out).mono ?_
   intro e w6 hE
   cases hwh : whole (t :: ts) with
   | error c =>
     rw [hwh] at hE HRr
     obtain ⟨rfl, ho⟩ := hE
     have HP6 := Kept.mk (HP5.out.only ho.out (by have := HG.out; have := HVb.out; omega))
     refine leaves_cons (f := 26) (args := #[.pointer (some ⟨w.heap.size, 0, none⟩), .pointer (some ⟨w.heap.size + 1, 0, none⟩), .pointer (some ⟨w.heap.size + 2, 0, none⟩)]) (by simp) (by simp [go_sem]) ?_
     refine (catch_bad w w6 c _ _ _ HP6.out).mono ?_
     rintro e u' w'' ⟨rfl, rfl, hr⟩
     refine ⟨_, res_three (p := w.heap.size) (q := w.heap.size + 1) (r := w.heap.size + 2) rfl rfl rfl (cell_of_row _ _ 0 _ _ _ hr.r0) (cell_of_row _ _ 0 _ _ _ hr.r1) (cell_of_row _ _ 0 _ _ _ hr.r2), ?_⟩
     rw [HRr.out]
     exact ⟨rfl, ⟨hr.bl⟩⟩
   | ok x =>
     rw [hwh] at hE HRr
     obtain ⟨u, rfl, hu, ho⟩ := hE
     have hgv := HG.out
     have hgw := HGw.out
     have hvw := HVb.out
     have hB6 : Below w4.heap.size w4 w6 := HB5.out.trans ⟨ho.out.os, ho.out.tape, ho.out.output, ho.out.size, fun k hk => ho.out.block k (Nat.lt_of_lt_of_le hk HB5.out.size) (by omega)⟩
     have HE6 := Kept.mk (HE4.out.below hB6)
     have HP6 := Kept.mk (HP5.out.only ho.out (by omega))
     have hfine := whole_fine (ts := t :: ts) (fun q hq => Nat.le_trans (toks_len (toL s) q (hts ▸ hq)) (by rw [toL_length]; have := HS.out; omega)) hwh
     have hcnt : (t :: ts).length ≤ s.size := by rw [← hts, ← toL_length]; exact toks_count _
     have HC := Kept.mk (value_any vb _ x (Nat.le_refl _) hfine.1 w6 l u HE6.out (hu.out.more (by have := HB5.out.size; omega)) (by have := HS.out; have := HL.out; omega))
     clear hts hwh hu ho hgv hgw hvw hB6 hfine hcnt
     go_wp2_with fail
     go_at_call 30
     refine HC.out.mono ?_
     intro e w7 hV
     cases hx : ev x l with
     | error c =>
       rw [hx] at hV HRr
       obtain ⟨rfl, ho⟩ := hV
       have HP7 := Kept.mk (HP6.out.only ho.out HVb.out)
       refine leaves_cons (f := 26) (args := #[.pointer (some ⟨w.heap.size, 0, none⟩), .pointer (some ⟨w.heap.size + 1, 0, none⟩), .pointer (some ⟨w.heap.size + 2, 0, none⟩)]) (by simp) (by simp [go_sem]) ?_
       refine (catch_bad w w7 c _ _ _ HP7.out).mono ?_
       rintro e u' w'' ⟨rfl, rfl, hr⟩
       refine ⟨_, res_three (p := w.heap.size) (q := w.heap.size + 1) (r := w.heap.size + 2) rfl rfl rfl (cell_of_row _ _ 0 _ _ _ hr.r0) (cell_of_row _ _ 0 _ _ _ hr.r1) (cell_of_row _ _ 0 _ _ _ hr.r2), ?_⟩
       rw [HRr.out]
       exact ⟨rfl, ⟨hr.bl⟩⟩
     | ok z =>
       obtain ⟨q, l2⟩ := z
       rw [hx] at hV HRr
       obtain ⟨rfl, he, ho⟩ := hV
       have HP7 := Kept.mk (HP6.out.only ho.out HVb.out)
       have HE7 := he
       have c1 := cell_of_row _ _ 0 _ _ _ HP7.out.r0
       have f1 := frozen_of_row _ _ 0 _ _ HP7.out.r0
       clear hx he ho
       go_upto_region 6 with fail
       clear c1 f1
       have HP8 := Kept.mk (HP7.out.setN (.int .i64 q))
       obtain ⟨A3, k3, hrow7, hvs7⟩ := HE7.out.row
       have hrow := (Below.heap_setCell w7 ⟨w.heap.size, 0, none⟩ (.int .i64 q) vb (by have := HVb.out; show vb ≠ w.heap.size; omega)).trans hrow7
       have hvs := VS.one hvs7 HP7.out.r0 (fun s h => by cases h) (.int .i64 q)
       clear hrow7 hvs7
       generalize w7.setCell ⟨w.heap.size, 0, none⟩ (.int .i64 q) = w8 at *
       refine wp_region_noPanic (fin_region (w := w) (n := q) (vb := vb) (A := A3) (n3 := l2.length) (k3 := k3) (fun _ _ _ _ _ h => h) rfl rfl rfl rfl rfl HP8.out hrow HVb.out (fun a' ha h4 h5 h6 => NoPanic.normal ?_))
       have g0 := HP8.out.drew
       have g1 := g0.setN (.int .i64 q)
       have g2 := g1.setM (.slice A3 l2.length k3)
       have g3 := g2.setC (.int .i64 0)
       have v0 : VS w8.drew A3 k3 l2 := hvs.below (Below.refl _ _).drew
       have v1 := VS.one v0 g0.r0 (fun s h => by cases h) (.int .i64 q)
       have v2 := VS.one v1 g1.r1 (fun s h => by cases h) (.slice A3 l2.length k3)
       have v3 := VS.one v2 g2.r2 (fun s h => by cases h) (.int .i64 0)
       have HG3 := Kept.mk g3
       have HV3 := Kept.mk v3
       clear g0 g1 g2 g3 v0 v1 v2 v3 hvs hrow
       generalize ((w8.drew.setCell ⟨w.heap.size, 0, none⟩ (.int .i64 q)).setCell ⟨w.heap.size + 1, 0, none⟩ (.slice A3 l2.length k3)).setCell ⟨w.heap.size + 2, 0, none⟩ (.int .i64 0) = w9 at *
       obtain ⟨tm, df⟩ := a'
       obtain rfl : df = _ := ha
       go_wp2_with fail
       refine leaves_cons (f := 26) (args := #[.pointer (some ⟨w.heap.size, 0, none⟩), .pointer (some ⟨w.heap.size + 1, 0, none⟩), .pointer (some ⟨w.heap.size + 2, 0, none⟩)]) (by simp) (by simp [go_sem]) ?_
       refine (catch_idle ⟨w.heap.size, 0, none⟩ ⟨w.heap.size + 1, 0, none⟩ ⟨w.heap.size + 2, 0, none⟩ _).mono ?_
       rintro e u' w'' ⟨rfl, rfl, rfl⟩
       refine ⟨_, res_three (p := w.heap.size) (q := w.heap.size + 1) (r := w.heap.size + 2) h4 h5 h6 (cell_of_row _ _ 0 _ _ _ HG3.out.r0) (cell_of_row _ _ 0 _ _ _ HG3.out.r1) (cell_of_row _ _ 0 _ _ _ HG3.out.r2), ?_⟩
       rw [HRr.out]
       exact ⟨_, _, rfl, HV3, ⟨HG3.out.bl⟩⟩
end Ar
end
section
open Go.RowKit Tx
namespace Ar
open Va (Vr VS VO getD Sorted)
theorem dig_val : ∀ u : Nat, u < 10 → digV (UInt8.ofNat (48 + u)) = u ∧ UInt8.ofNat (48 + u) ≠ 45 ∧ (UInt8.ofNat (48 + u) = 48 → u = 0) := by decide
theorem numF_dec : ∀ (m u : Nat), u ≤ m → u ≤ 9223372036854775807 → ∀ t, numF 10 (Lib.decDigits u ++ t) 0 = numF 10 t u
 | m, u, hm, hu, t => by
   by_cases h : u < 10
   · rw [Lib.decDigits, dif_pos h]
     have := (dig_val u h).1
     show numF 10 (UInt8.ofNat (48 + u) :: t) 0 = _
     rw [numF, this, if_pos ⟨h, by omega⟩]
     congr 1
     omega
   · have h10 : u % 10 < 10 := Nat.mod_lt _ (by decide)
     rw [Lib.decDigits, dif_neg h, List.append_assoc]
     match m, hm with
     | 0, hm => omega
     | m + 1, hm =>
       rw [numF_dec m (u / 10) (by omega) (by omega)]
       have := (dig_val (u % 10) h10).1
       show numF 10 (UInt8.ofNat (48 + u % 10) :: t) (u / 10) = _
       rw [numF, this, if_pos ⟨h10, by omega⟩]
       congr 1
       omega
theorem dec_head : ∀ (m u : Nat), u ≤ m → ∃ c r, Lib.decDigits u = c :: r ∧ c ≠ 45 ∧ (c = 48 → u = 0)
 | m, u, hm => by
   by_cases h : u < 10
   · rw [Lib.decDigits, dif_pos h]
     exact ⟨_, _, rfl, (dig_val u h).2.1, (dig_val u h).2.2⟩
   · rw [Lib.decDigits, dif_neg h]
     match m, hm with
     | 0, hm => omega
     | m + 1, hm =>
       obtain ⟨c, r, e, h1, h2⟩ := dec_head m (u / 10) (by omega)
       rw [e]
       exact ⟨c, _, rfl, h1, fun hc => by have := h2 hc; omega⟩
theorem num_dec {u : Nat} (hu : u ≤ 9223372036854775807) : num 10 (Lib.decDigits u) = some u := by
 obtain ⟨c, r, e, _⟩ := dec_head u u (Nat.le_refl _)
 unfold num
 rw [if_neg (by rw [e]; simp)]
 have := numF_dec u u (Nat.le_refl _) hu []
 rw [List.append_nil] at this
 rw [this, numF]
theorem lit_dec {u : Nat} (hu : u ≤ 9223372036854775807) : litV (Lib.decDigits u) = some u := by
 by_cases h : u = 0
 · subst h
   rw [Lib.decDigits, dif_pos (by decide)]
   rfl
 · have hn := num_dec hu
   obtain ⟨c, r, e, _, h2⟩ := dec_head u u (Nat.le_refl _)
   rw [e] at hn ⊢
   have hc : c ≠ 48 := fun hc => h (h2 hc)
   unfold litV
   split
   · rename_i heq
     injection heq with h3 _
     exact absurd h3 hc
   · exact hn
theorem val_itoa {n : Int} (h : -9223372036854775807 ≤ n ∧ n ≤ 9223372036854775807) : valV (Lib.itoa n) = some n := by
 unfold Lib.itoa
 by_cases hn : n < 0
 · rw [if_pos hn]
   unfold valV
   split
   · rename_i heq; cases heq
   · rename_i heq
     injection heq with _ h4
     rw [← h4, lit_dec (by omega)]
     show some (-(n.natAbs : Int)) = some n
     congr 1
     omega
   · rename_i h3
     exact (h3 _ rfl).elim
 · rw [if_neg hn]
   have hl := lit_dec (u := n.toNat) (by omega)
   obtain ⟨c, r, e, h1, _⟩ := dec_head n.toNat n.toNat (Nat.le_refl _)
   rw [e] at hl ⊢
   unfold valV
   split
   · rename_i heq; cases heq
   · rename_i heq
     injection heq with h3 _
     exact absurd h3 h1
   · rw [hl]
     show some ((n.toNat : Nat) : Int) = some n
     congr 1
     omega
end Ar
end
section
open Go.RowKit Tx
namespace Va
def Rd (w : World) (A : Option Addr) (l : List ByteArray) : Prop := ∀ j (hj : j < l.length), ∃ g off, A = some ⟨g, off, none⟩ ∧ g < w.heap.size ∧ w.cell? ⟨g, off + j, none⟩ = some (.string l[j])
theorem Rd.below {w w' : World} {A : Option Addr} {l : List ByteArray} (h : Rd w A l) (hb : Below w.heap.size w w') : Rd w' A l := by
 intro j hj
 obtain ⟨g, off, e, hg, hc⟩ := h j hj
 exact ⟨g, off, e, Nat.lt_of_lt_of_le hg hb.size, (hb.cell hg).trans hc⟩
theorem Rd.nil (w : World) (A : Option Addr) : Rd w A [] := fun j hj => by simp at hj
theorem Rd.at {w : World} {g off : Nat} {l : List ByteArray} (hg : g < w.heap.size) (h : Rd w (some ⟨g, off, none⟩) l) : Own.At Value.string w g off l := by
 refine ⟨hg, fun j u hu => ?_⟩
 rw [List.getElem?_map, Option.map_eq_some_iff] at hu
 obtain ⟨x, hx, rfl⟩ := hu
 obtain ⟨hj, rfl⟩ := List.getElem?_eq_some_iff.1 hx
 obtain ⟨g', off', e, _, hc⟩ := h j hj
 injection e with e
 injection e with e1 e2
 subst e1 e2
 exact hc
end Va
end
section
open Go.RowKit Tx
namespace Va
set_option maxHeartbeats 2000000 in
set_option maxRecDepth 100000 in
theorem same_vars (l : List Vr) (A C : Option Addr) (ln k q : Nat) (w : World) (hV : VS w A k l) (hU : VS w C q l) (hn : l.length = ln) (hl : ln ≤ 100000) :
   Calls Tryz.prog 21 #[.slice A ln k, .slice C ln q] w fun e w' => e = .returned (.bool true) ∧ Below w.heap.size w w' := by
 have HV := Kept.mk hV
 have HU := Kept.mk hU
 have HN := Kept.mk hn
 clear hV hU hn
 go_enter Tryz.func21, Tryz.ntmps21
 go_wp2_with fail
 go_loopw [5] (fun i wr => ∃ j : Nat, j ≤ ln ∧ i = .int .i64 (j : Int) ∧ Kept (Below w.heap.size w wr)) (fun i _ => ln - (intOf i).toNat)
 case atStart => exact ⟨0, by omega, rfl, ⟨Below.refl _ _⟩⟩
 case round =>
   obtain ⟨j, hj, rfl, hB⟩ := hrel
   have j0 : (0 : Int) ≤ (j : Int) := by omega
   by_cases hlt : j < ln
   · obtain ⟨u, hu⟩ : ∃ u, l[j]? = some u := ⟨_, List.getElem?_eq_getElem (by rw [HN.out]; exact hlt)⟩
     obtain ⟨g, off, rfl, hg, c0, c1, c2, c3⟩ := (HV.out.below hB.out).at hu
     obtain ⟨g2, off2, rfl, hg2, d0, d1, d2, d3⟩ := (HU.out.below hB.out).at hu
     have j1 : (j : Int) < (ln : Int) := by omega
     obtain ⟨un, uv, ue, ur⟩ := u
     simp only at c0 c1 c2 c3 d0 d1 d2 d3
     clear hu hg hg2
     have b0 : (un.toList == un.toList) = true := beq_true rfl
     have b1 : (uv.toList == uv.toList) = true := beq_true rfl
     go_wp2_with fail
     go_quiet (fail)
     go_wp2_with fail
     go_round
     case rel => exact ⟨j + 1, by omega, by go_num, ⟨below_drewN hB.out _⟩⟩
     case measure => simp [intOf]; omega
   · obtain rfl : j = ln := by omega
     have j1 : ¬ (j : Int) < (j : Int) := by omega
     go_wp2_with fail
     go_ret
     exact ⟨rfl, hB.out⟩
end Va
end
section
open Go.RowKit Tx
namespace Ar
open Va (Vr VS VO getD Sorted)
theorem dig14 : digitsOf 14 = ⟨#[49, 52]⟩ := by
 unfold digitsOf Lib.itoa
 rw [if_neg (by decide), Lib.decDigits_two (by decide) (by decide)]
 rfl
def la : List Vr := [⟨⟨#[97]⟩, ⟨#[49, 52]⟩, false, false⟩]
theorem put14 : putV [97] 14 [] = .ok (14, la) := by
 unfold putV
 rw [dig14]
 kernel_rfl
theorem wake1 : eval [40, 97, 32, 61, 32, 50, 32, 43, 32, 51, 32, 42, 32, 52, 41, 32, 60, 60, 32, 49] [] = .ok (28, la) := by
 have ht : toks [40, 97, 32, 61, 32, 50, 32, 43, 32, 51, 32, 42, 32, 52, 41, 32, 60, 60, 32, 49] = [[40], [97], [61], [50], [43], [51], [42], [52], [41], [60, 60], [49]] := by kernel_rfl
 have hw : whole [[40], [97], [61], [50], [43], [51], [42], [52], [41], [60, 60], [49]] = .ok (.bin [60, 60] (.asg [97] [61] (.bin [43] (.lit 2) (.bin [42] (.lit 3) (.lit 4)))) (.lit 1)) := by kernel_rfl
 have h1 : ev (.bin [43] (.lit 2) (.bin [42] (.lit 3) (.lit 4))) [] = .ok (14, []) := by kernel_rfl
 have h2 : ev (.asg [97] [61] (.bin [43] (.lit 2) (.bin [42] (.lit 3) (.lit 4)))) [] = .ok (14, la) := by
   rw [ev, h1]
   exact put14
 rw [eval, if_neg (by rw [ht]; simp), ht, hw]
 show ev _ _ = _
 rw [ev, h2]
 kernel_rfl
theorem wake2 : eval [49, 32, 124, 124, 32, 49, 47, 48] [] = .ok (1, []) := by kernel_rfl
theorem wake3 : eval [49, 47, 48] [] = .error 131 := by kernel_rfl
theorem ok_nil : Ok [] := ⟨List.Pairwise.nil, fun _v h => absurd h List.not_mem_nil⟩
theorem EvE.ok {w w' : World} {e : Ending} {n : Int} {m : List Vr} {mn : Nat} (h : EvE w (.ok (n, m)) e w') (hm : m.length = mn) : ∃ A k, e = .returned (.tuple #[.int .i64 n, .slice A mn k, .int .i64 0]) ∧ Kept (VS w' A k m) ∧ Kept (Below w.heap.size w w') := by
 subst hm
 exact h
theorem EvE.no {w w' : World} {e : Ending} {c : Int} (h : EvE w (.error c) e w') : e = .returned (.tuple #[.int .i64 0, .slice none 0 0, .int .i64 c]) ∧ Kept (Below w.heap.size w w') := h
set_option maxHeartbeats 2000000 in
set_option maxRecDepth 100000 in
theorem awake_any (w : World) (hK : KT w) : Calls Tryz.prog 11 #[] w fun e w' => e = .returned (.bool true) ∧ Below w.heap.size w w' := by
 have HK := Kept.mk hK
 have H1 := Kept.mk (eval_any ⟨#[40, 97, 32, 61, 32, 50, 32, 43, 32, 51, 32, 42, 32, 52, 41, 32, 60, 60, 32, 49]⟩ [] w none 0 0 (VS.empty w) rfl ok_nil hK (by decide) (by decide))
 have e1 : eval (toL ⟨#[40, 97, 32, 61, 32, 50, 32, 43, 32, 51, 32, 42, 32, 52, 41, 32, 60, 60, 32, 49]⟩) [] = .ok (28, la) := wake1
 rw [e1] at H1
 clear hK e1
 have T1 : Kept True := ⟨trivial⟩
 have T2 : Kept True := ⟨trivial⟩
 have T3 : Kept True := ⟨trivial⟩
 go_enter Tryz.func11, Tryz.ntmps11
 go_wp2_with (first
   | (go_at_call 17; have := T1; refine H1.out.mono ?_; clear T1; intro e w1 h1; obtain ⟨A1, k1, rfl, hV1, hb1⟩ := h1.ok (mn := 1) rfl
      have HV1 := hV1
      have HB1 := hb1
      have H2 := Kept.mk (eval_any ⟨#[49, 32, 124, 124, 32, 49, 47, 48]⟩ [] w1 none 0 0 (VS.empty w1) rfl ok_nil (HK.out.below hb1.out) (by decide) (by decide))
      rw [show eval (toL ⟨#[49, 32, 124, 124, 32, 49, 47, 48]⟩) [] = .ok (1, []) from wake2] at H2
      clear hb1 hV1)
   | (go_at_call 17; have := T2; refine H2.out.mono ?_; clear T2; intro e w2 h2; obtain ⟨A2, k2, rfl, _, hb2⟩ := h2.ok (mn := 0) rfl
      have HB2 := Kept.mk (HB1.out.trans (hb2.out.mono HB1.out.size))
      have HV2 := Kept.mk (HV1.out.below hb2.out)
      have H3 := Kept.mk (eval_any ⟨#[49, 47, 48]⟩ [] w2 none 0 0 (VS.empty w2) rfl ok_nil (HK.out.below HB2.out) (by decide) (by decide))
      rw [show eval (toL ⟨#[49, 47, 48]⟩) [] = .error 131 from wake3] at H3
      clear hb2)
   | (go_at_call 17; have := T3; refine H3.out.mono ?_; clear T3; intro e w3 h3; obtain ⟨rfl, hb3⟩ := h3.no
      have HB3 := Kept.mk (HB2.out.trans (hb3.out.mono HB2.out.size))
      have HV3 := Kept.mk (HV2.out.below hb3.out)
      clear hb3)
   | (go_at_call 21
      refine (Va.same_vars la A1 (some ⟨w3.heap.size, 0, none⟩) 1 k1 1 _ (HV3.out.below ((Below.refl _ _).alloc (Nat.le_refl _) _)) (VS.fresh w3 ⟨⟨#[97]⟩, ⟨#[49, 52]⟩, false, false⟩ _ 31 rfl) rfl (by omega)).mono ?_
      rintro e w4 ⟨rfl, hb4⟩
      have HB4 := Kept.mk ((HB3.out.alloc HB3.out.size _).trans (hb4.mono (by have := HB3.out.size; simp; omega)))
      clear hb4))
 go_ret
 exact ⟨rfl, HB4.out⟩
end Ar
end
section
open Go.RowKit Tx
namespace Ar
open Va (Vr VS VO getD Sorted)
theorem u8Ty : By.Ty Tryz.prog 28 5 := ⟨by kernel_rfl, by kernel_rfl, by kernel_rfl⟩
theorem dig_nat : ∀ k : Nat, k < 10 → (UInt8.ofNat (48 + k)).toNat = 48 + k := by decide
theorem one_string (w : World) (k : Nat) (hk : k < 10) : (convert 28 9 (.slice (some ⟨w.heap.size, 0, none⟩) 1 1)).run Tryz.prog (w.alloc (.cells #[.int .u8 (48 + (k : Int))] 5)) = .ok (.string (bs [UInt8.ofNat (48 + k)])) (w.alloc (.cells #[.int .u8 (48 + (k : Int))] 5)) := by
 refine By.run_string (B := 0) u8Ty 9 Tryz.underlying9 (.inr ⟨w.heap.size, 1, rfl, Nat.zero_le _, by simp, Nat.le_refl _, by decide, fun j hj => ?_, fun j u hu => ?_⟩)
 · obtain rfl : j = 0 := by omega
   rw [cell_of_row _ _ 0 _ _ _ (heap_alloc_new w _), frozen_of_row _ _ 0 _ _ (heap_alloc_new w _)]
   exact ⟨rfl, rfl⟩
 · match j, hu with
   | 0, hu =>
     rw [cell_of_row _ _ 0 _ _ _ (heap_alloc_new w _)]
     have e : Value.int .u8 ((UInt8.ofNat (48 + k)).toNat : Int) = u := Option.some.inj hu
     rw [← e, dig_nat k hk]
     rfl
   | j + 1, hu => cases hu
theorem dec_size {u : Nat} (h : u < 18446744073709551616) : (Lib.decDigits u).length ≤ 20 := by rw [Lib.decDigits_length]; exact Lib.nDigits_le20 u h
set_option maxHeartbeats 2000000 in
set_option maxRecDepth 100000 in
theorem tail_any : ∀ (m : Nat) (n : Int) (w : World), n.natAbs ≤ m → rng n → Calls Tryz.prog 25 #[.int .i64 n] w fun e w' => e = .returned (.string (bs (Lib.decDigits n.natAbs))) ∧ Below w.heap.size w w'
 | m, n, w, hm, hr => by
   obtain ⟨k, hk⟩ : ∃ k, k = n.natAbs % 10 := ⟨_, rfl⟩
   have hk10 : k < 10 := by omega
   have hq1 : (n.tdiv 10).natAbs = n.natAbs / 10 := Int.natAbs_tdiv n 10
   have hqr : rng (n.tdiv 10) := by obtain ⟨h1, h2⟩ := hr; unfold rng; omega
   have hqw : IntKind.i64.wrap (n.tdiv 10) = n.tdiv 10 := IntWalk.i64_in _ (by obtain ⟨h1, h2⟩ := hqr; omega)
   have hcv := one_string w k hk10
   have w2 : IntKind.i64.wrap (48 + (k : Int)) = 48 + (k : Int) := IntWalk.i64_in _ (by omega)
   have w3 : IntKind.u8.wrap (48 + (k : Int)) = 48 + (k : Int) := IntWalk.u8_in _ (by omega)
   have w1 : IntKind.i64.wrap (-(-(k : Int))) = (k : Int) := by rw [IntWalk.i64_in _ (by omega)]; omega
   have hd : (n.tmod 10 = -(k : Int) ∧ 0 < k) ∨ n.tmod 10 = (k : Int) := by have h2 : (n.tmod 10).natAbs = n.natAbs % 10 := Int.natAbs_tmod n 10; omega
   have HK : Kept (k = n.natAbs % 10) := ⟨hk⟩
   have HQ1 := Kept.mk hq1
   obtain ⟨u, hu⟩ : ∃ u, u = bs [UInt8.ofNat (48 + k)] := ⟨_, rfl⟩
   have HU := Kept.mk hu
   have hus : u.size = 1 := by rw [hu, bs_size]; rfl
   rw [← hu] at hcv
   have HB : Kept (Below w.heap.size w (w.alloc (.cells #[.int .u8 (48 + (k : Int))] 5))) := ⟨(Below.refl _ _).alloc (Nat.le_refl _) _⟩
   by_cases hq : n.tdiv 10 = 0
   · have HD : Kept (Lib.decDigits n.natAbs = [UInt8.ofNat (48 + k)]) := ⟨by
       have h1 : n.natAbs / 10 = 0 := by rw [← hq1, hq]; rfl
       rw [Lib.decDigits, dif_pos (by omega), hk, Nat.mod_eq_of_lt (by omega)]⟩
     clear hk hu hm hr hq1
     rcases hd with ⟨hd, hk0⟩ | hd
     · have hlt : -(k : Int) < 0 := by omega
       go_enter Tryz.func25, Tryz.ntmps25
       go_wp2_with fail
       go_ret
       rw [HD.out, ← HU.out]
       exact ⟨rfl, HB.out⟩
     · have hlt : ¬ (k : Int) < 0 := by omega
       go_enter Tryz.func25, Tryz.ntmps25
       go_wp2_with fail
       go_ret
       rw [HD.out, ← HU.out]
       exact ⟨rfl, HB.out⟩
   · have h0 : n.natAbs / 10 ≠ 0 := by omega
     have hlr := hr
     obtain ⟨m2, rfl⟩ : ∃ m2, m = m2 + 1 := ⟨m - 1, by omega⟩
     have HI := Kept.mk (tail_any m2 (n.tdiv 10) (w.alloc (.cells #[.int .u8 (48 + (k : Int))] 5)) (by omega) hqr)
     rw [hq1] at HI
     obtain ⟨t, ht⟩ : ∃ t, t = bs (Lib.decDigits (n.natAbs / 10)) := ⟨_, rfl⟩
     rw [← ht] at HI
     have HD : Kept (bs (Lib.decDigits n.natAbs) = t ++ u) := ⟨by
       rw [Lib.decDigits, dif_neg (by omega), ← hk, ht, hu, bs_append]⟩
     have hts : t.size ≤ 20 := by rw [ht, bs_size]; exact dec_size (by obtain ⟨h1, h2⟩ := hlr; omega)
     have hz : ¬ 9223372036854775807 < t.size + u.size := by omega
     clear hk hu hm hr hq1 hlr ht h0 hus hts
     rcases hd with ⟨hd, hk0⟩ | hd
     · have hlt : -(k : Int) < 0 := by omega
       go_enter Tryz.func25, Tryz.ntmps25
       go_wp2_with (go_at_call 25; refine HI.out.mono ?_; rintro e w5 ⟨rfl, hb⟩; have HB5 := Kept.mk (HB.out.trans (hb.mono HB.out.size)); clear hb)
       go_ret
       rw [HD.out]
       exact ⟨rfl, HB5.out⟩
     · have hlt : ¬ (k : Int) < 0 := by omega
       go_enter Tryz.func25, Tryz.ntmps25
       go_wp2_with (go_at_call 25; refine HI.out.mono ?_; rintro e w5 ⟨rfl, hb⟩; have HB5 := Kept.mk (HB.out.trans (hb.mono HB.out.size)); clear hb)
       go_ret
       rw [HD.out]
       exact ⟨rfl, HB5.out⟩
set_option maxHeartbeats 2000000 in
set_option maxRecDepth 100000 in
theorem digits_any (n : Int) (w : World) (hr : rng n) : Calls Tryz.prog 16 #[.int .i64 n] w fun e w' => e = .returned (.string (digitsOf n)) ∧ Below w.heap.size w w' := by
 have HI := Kept.mk (tail_any n.natAbs n w (Nat.le_refl _) hr)
 obtain ⟨t, ht⟩ : ∃ t, t = bs (Lib.decDigits n.natAbs) := ⟨_, rfl⟩
 rw [← ht] at HI
 by_cases hn : n < 0
 · have HD : Kept (digitsOf n = ⟨#[45]⟩ ++ t) := ⟨by
     unfold digitsOf Lib.itoa
     rw [if_pos hn, ht]
     show bs ([45] ++ _) = bs [45] ++ _
     rw [bs_append]⟩
   have hz : ¬ 9223372036854775807 < 1 + t.size := by
     have : t.size ≤ 20 := by rw [ht, bs_size]; exact dec_size (by obtain ⟨h1, h2⟩ := hr; omega)
     omega
   clear hr ht
   go_enter Tryz.func16, Tryz.ntmps16
   go_wp2_with (go_at_call 25; refine HI.out.mono ?_; rintro e w5 ⟨rfl, hb⟩; have HB5 := Kept.mk hb; clear hb)
   go_ret
   rw [HD.out]
   exact ⟨rfl, HB5.out⟩
 · have HD : Kept (digitsOf n = t) := ⟨by
     unfold digitsOf Lib.itoa
     rw [if_neg hn, ht]
     congr 2
     omega⟩
   clear hr ht
   go_enter Tryz.func16, Tryz.ntmps16
   go_wp2_with (go_at_call 25; refine HI.out.mono ?_; rintro e w5 ⟨rfl, hb⟩; have HB5 := Kept.mk hb; clear hb)
   go_ret
   rw [HD.out]
   exact ⟨rfl, HB5.out⟩
end Ar
end
section
open Go.RowKit Tx
namespace Ar
def TwE (o : Except Int Int) (w : World) (e : Ending) (w' : World) : Prop := match o with
 | .ok m => e = .returned (.tuple #[.int .i64 m, .int .i64 0]) ∧ w = w'
 | .error c => e = .returned (.tuple #[.int .i64 0, .int .i64 c]) ∧ w = w'
set_option maxRecDepth 100000 in
theorem refTruth_any (t : Bool) (w : World) : Calls Tryz.prog 32 #[.bool t] w fun e w' => e = .returned (.int .i64 (bit t)) ∧ w = w' := by
 cases t
 all_goals go_enter Tryz.func32, Tryz.ntmps32
 all_goals go_wp2_with fail
 all_goals go_ret
 all_goals exact ⟨rfl, rfl⟩
set_option maxHeartbeats 1000000 in
set_option maxRecDepth 100000 in
theorem r_add (a b : Int) (w : World) : Calls Tryz.prog 18 #[.string ⟨#[43]⟩, .int .i64 a, .int .i64 b] w fun e w' => e = .returned (.tuple #[.int .i64 (wrap64 (a + b)), .int .i64 0]) ∧ w = w' := by
 go_enter Tryz.func18, Tryz.ntmps18
 go_wp2_with fail
 go_ret2
 exact ⟨rfl, rfl⟩
set_option maxHeartbeats 1000000 in
set_option maxRecDepth 100000 in
theorem r_sub (a b : Int) (w : World) : Calls Tryz.prog 18 #[.string ⟨#[45]⟩, .int .i64 a, .int .i64 b] w fun e w' => e = .returned (.tuple #[.int .i64 (wrap64 (a - b)), .int .i64 0]) ∧ w = w' := by
 go_enter Tryz.func18, Tryz.ntmps18
 go_wp2_with fail
 go_ret2
 exact ⟨rfl, rfl⟩
set_option maxHeartbeats 1000000 in
set_option maxRecDepth 100000 in
theorem r_mul (a b : Int) (w : World) : Calls Tryz.prog 18 #[.string ⟨#[42]⟩, .int .i64 a, .int .i64 b] w fun e w' => e = .returned (.tuple #[.int .i64 (wrap64 (a * b)), .int .i64 0]) ∧ w = w' := by
 go_enter Tryz.func18, Tryz.ntmps18
 go_wp2_with fail
 go_ret2
 exact ⟨rfl, rfl⟩
set_option maxHeartbeats 1000000 in
set_option maxRecDepth 100000 in
theorem r_quo (a b : Int) (w : World) (h0 : ¬ b = 0) : Calls Tryz.prog 18 #[.string ⟨#[47]⟩, .int .i64 a, .int .i64 b] w fun e w' => e = .returned (.tuple #[.int .i64 (wrap64 (a.tdiv b)), .int .i64 0]) ∧ w = w' := by
 have h1 : (b == 0) = false := beq_eq_false_iff_ne.2 h0
 go_enter Tryz.func18, Tryz.ntmps18
 go_wp2_with fail
 go_ret2
 exact ⟨rfl, rfl⟩
set_option maxHeartbeats 1000000 in
set_option maxRecDepth 100000 in
theorem r0_quo (a : Int) (w : World) : Calls Tryz.prog 18 #[.string ⟨#[47]⟩, .int .i64 a, .int .i64 0] w fun e w' => e = .returned (.tuple #[.int .i64 0, .int .i64 131]) ∧ w = w' := by
 go_enter Tryz.func18, Tryz.ntmps18
 go_wp2_with fail
 go_ret2
 exact ⟨rfl, rfl⟩
set_option maxHeartbeats 1000000 in
set_option maxRecDepth 100000 in
theorem r_rem (a b : Int) (w : World) (h0 : ¬ b = 0) : Calls Tryz.prog 18 #[.string ⟨#[37]⟩, .int .i64 a, .int .i64 b] w fun e w' => e = .returned (.tuple #[.int .i64 (a.tmod b), .int .i64 0]) ∧ w = w' := by
 have h1 : (b == 0) = false := beq_eq_false_iff_ne.2 h0
 go_enter Tryz.func18, Tryz.ntmps18
 go_wp2_with fail
 go_ret2
 exact ⟨rfl, rfl⟩
set_option maxHeartbeats 1000000 in
set_option maxRecDepth 100000 in
theorem r0_rem (a : Int) (w : World) : Calls Tryz.prog 18 #[.string ⟨#[37]⟩, .int .i64 a, .int .i64 0] w fun e w' => e = .returned (.tuple #[.int .i64 0, .int .i64 131]) ∧ w = w' := by
 go_enter Tryz.func18, Tryz.ntmps18
 go_wp2_with fail
 go_ret2
 exact ⟨rfl, rfl⟩
set_option maxHeartbeats 1000000 in
set_option maxRecDepth 100000 in
theorem r_shl (a b : Int) (w : World) : Calls Tryz.prog 18 #[.string ⟨#[60, 60]⟩, .int .i64 a, .int .i64 b] w fun e w' => e = .returned (.tuple #[.int .i64 (wrap64 (a * 2 ^ (bits .and .i64 b 63).toNat)), .int .i64 0]) ∧ w = w' := by
 have hb : 0 ≤ bits .and .i64 b 63 := by rw [mask63]; omega
 have hb2 : bits .and .i64 b 63 ≤ 63 := by rw [mask63]; omega
 go_enter Tryz.func18, Tryz.ntmps18
 go_wp2_with fail
 go_ret2
 exact ⟨rfl, rfl⟩
set_option maxHeartbeats 1000000 in
set_option maxRecDepth 100000 in
theorem r_shr (a b : Int) (w : World) : Calls Tryz.prog 18 #[.string ⟨#[62, 62]⟩, .int .i64 a, .int .i64 b] w fun e w' => e = .returned (.tuple #[.int .i64 (a / 2 ^ (bits .and .i64 b 63).toNat), .int .i64 0]) ∧ w = w' := by
 have hb : 0 ≤ bits .and .i64 b 63 := by rw [mask63]; omega
 have hb2 : bits .and .i64 b 63 ≤ 63 := by rw [mask63]; omega
 go_enter Tryz.func18, Tryz.ntmps18
 go_wp2_with fail
 go_ret2
 exact ⟨rfl, rfl⟩
set_option maxHeartbeats 1000000 in
set_option maxRecDepth 100000 in
theorem r_and (a b : Int) (w : World) : Calls Tryz.prog 18 #[.string ⟨#[38]⟩, .int .i64 a, .int .i64 b] w fun e w' => e = .returned (.tuple #[.int .i64 (bits .and .i64 a b), .int .i64 0]) ∧ w = w' := by
 go_enter Tryz.func18, Tryz.ntmps18
 go_wp2_with fail
 go_ret2
 exact ⟨rfl, rfl⟩
set_option maxHeartbeats 1000000 in
set_option maxRecDepth 100000 in
theorem r_or (a b : Int) (w : World) : Calls Tryz.prog 18 #[.string ⟨#[124]⟩, .int .i64 a, .int .i64 b] w fun e w' => e = .returned (.tuple #[.int .i64 (bits .or .i64 a b), .int .i64 0]) ∧ w = w' := by
 go_enter Tryz.func18, Tryz.ntmps18
 go_wp2_with fail
 go_ret2
 exact ⟨rfl, rfl⟩
set_option maxHeartbeats 1000000 in
set_option maxRecDepth 100000 in
theorem r_xor (a b : Int) (w : World) : Calls Tryz.prog 18 #[.string ⟨#[94]⟩, .int .i64 a, .int .i64 b] w fun e w' => e = .returned (.tuple #[.int .i64 (bits .xor .i64 a b), .int .i64 0]) ∧ w = w' := by
 go_enter Tryz.func18, Tryz.ntmps18
 go_wp2_with fail
 go_ret2
 exact ⟨rfl, rfl⟩
set_option maxHeartbeats 1000000 in
set_option maxRecDepth 100000 in
theorem r_eql (a b : Int) (w : World) : Calls Tryz.prog 18 #[.string ⟨#[61, 61]⟩, .int .i64 a, .int .i64 b] w fun e w' => e = .returned (.tuple #[.int .i64 (bit (a == b)), .int .i64 0]) ∧ w = w' := by
 go_enter Tryz.func18, Tryz.ntmps18
 go_wp2_with (go_at_call 32; refine (refTruth_any _ _).mono ?_; rintro e w2 ⟨rfl, rfl⟩)
 go_ret2
 exact ⟨rfl, rfl⟩
set_option maxHeartbeats 1000000 in
set_option maxRecDepth 100000 in
theorem r_neq (a b : Int) (w : World) : Calls Tryz.prog 18 #[.string ⟨#[33, 61]⟩, .int .i64 a, .int .i64 b] w fun e w' => e = .returned (.tuple #[.int .i64 (bit (a != b)), .int .i64 0]) ∧ w = w' := by
 go_enter Tryz.func18, Tryz.ntmps18
 go_wp2_with (go_at_call 32; refine (refTruth_any _ _).mono ?_; rintro e w2 ⟨rfl, rfl⟩)
 go_ret2
 exact ⟨rfl, rfl⟩
set_option maxHeartbeats 1000000 in
set_option maxRecDepth 100000 in
theorem r_lss (a b : Int) (w : World) : Calls Tryz.prog 18 #[.string ⟨#[60]⟩, .int .i64 a, .int .i64 b] w fun e w' => e = .returned (.tuple #[.int .i64 (bit (decide (a < b))), .int .i64 0]) ∧ w = w' := by
 go_enter Tryz.func18, Tryz.ntmps18
 go_wp2_with (go_at_call 32; refine (refTruth_any _ _).mono ?_; rintro e w2 ⟨rfl, rfl⟩)
 go_ret2
 exact ⟨rfl, rfl⟩
set_option maxHeartbeats 1000000 in
set_option maxRecDepth 100000 in
theorem r_leq (a b : Int) (w : World) : Calls Tryz.prog 18 #[.string ⟨#[60, 61]⟩, .int .i64 a, .int .i64 b] w fun e w' => e = .returned (.tuple #[.int .i64 (bit (decide (a ≤ b))), .int .i64 0]) ∧ w = w' := by
 go_enter Tryz.func18, Tryz.ntmps18
 go_wp2_with (go_at_call 32; refine (refTruth_any _ _).mono ?_; rintro e w2 ⟨rfl, rfl⟩)
 go_ret2
 exact ⟨rfl, rfl⟩
set_option maxHeartbeats 1000000 in
set_option maxRecDepth 100000 in
theorem r_gtr (a b : Int) (w : World) : Calls Tryz.prog 18 #[.string ⟨#[62]⟩, .int .i64 a, .int .i64 b] w fun e w' => e = .returned (.tuple #[.int .i64 (bit (decide (b < a))), .int .i64 0]) ∧ w = w' := by
 go_enter Tryz.func18, Tryz.ntmps18
 go_wp2_with (go_at_call 32; refine (refTruth_any _ _).mono ?_; rintro e w2 ⟨rfl, rfl⟩)
 go_ret2
 exact ⟨rfl, rfl⟩
set_option maxHeartbeats 1000000 in
set_option maxRecDepth 100000 in
theorem r_geq (a b : Int) (w : World) : Calls Tryz.prog 18 #[.string ⟨#[62, 61]⟩, .int .i64 a, .int .i64 b] w fun e w' => e = .returned (.tuple #[.int .i64 (bit (decide (b ≤ a))), .int .i64 0]) ∧ w = w' := by
 go_enter Tryz.func18, Tryz.ntmps18
 go_wp2_with (go_at_call 32; refine (refTruth_any _ _).mono ?_; rintro e w2 ⟨rfl, rfl⟩)
 go_ret2
 exact ⟨rfl, rfl⟩
def ops16 : List Tok := [[43], [45], [42], [47], [37], [60, 60], [62, 62], [38], [124], [94], [61, 61], [33, 61], [60], [60, 61], [62], [62, 61]]
theorem refTwo_any (op : Tok) (h : op ∈ ops16) (a b : Int) (w : World) : Calls Tryz.prog 18 #[.string (bs op), .int .i64 a, .int .i64 b] w (TwE (two op a b) w) := by
 simp only [ops16, List.mem_cons, List.not_mem_nil, or_false] at h
 rcases h with rfl | rfl | rfl | rfl | rfl | rfl | rfl | rfl | rfl | rfl | rfl | rfl | rfl | rfl | rfl | rfl
 · exact r_add a b w
 · exact r_sub a b w
 · exact r_mul a b w
 · by_cases h0 : b = 0
   · subst h0
     exact r0_quo a w
   · rw [show two [47] a b = .ok (wrap64 (a.tdiv b)) by simp [two, h0]]
     exact r_quo a b w h0
 · by_cases h0 : b = 0
   · subst h0
     exact r0_rem a w
   · rw [show two [37] a b = .ok (a.tmod b) by simp [two, h0]]
     exact r_rem a b w h0
 · exact r_shl a b w
 · exact r_shr a b w
 · exact r_and a b w
 · exact r_or a b w
 · exact r_xor a b w
 · exact r_eql a b w
 · exact r_neq a b w
 · exact r_lss a b w
 · exact r_leq a b w
 · exact r_gtr a b w
 · exact r_geq a b w
end Ar
end
end Go.Proofs.YtlggpefmojacoaaGreatDoor
