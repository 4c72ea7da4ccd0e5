/-
  Parts of the proof, merged.
-/
import Derived.Laws.ResultCell
import Derived.Test.YtlggpefmojacoaaGreatDoorLa50
import Derived.Test.YtlggpefmojacoaaGreatDoorLa51
namespace Go.Proofs.YtlggpefmojacoaaGreatDoor
section
open Go.RowKit Tx
namespace Ar
open Va (Vr VS getD Sorted)
set_option maxHeartbeats 4000000 in
set_option maxRecDepth 100000 in
theorem choose_any (vb : Nat) (c x y : Ex) (hc : Kept (VC vb c)) (hx : Kept (VC vb x)) (hy : Kept (VC vb y)) (hw : Wf (.cho c x y)) (w : World) (l : List Vr) (u : Value) (hE : EM w vb l) (hT : ET (Nw (vb + 1)) w (.cho c x y) u) (hl : l.length + sz (.cho c x y) ≤ 100000) :
   Calls Tryz.prog 41 #[.pointer (some ⟨vb, 0, none⟩), u] w (VE w vb (ev (.cho c x y) l)) := by
 obtain ⟨b, f, s, t, rfl, hb, hr, hTc, hTx, hTy⟩ := hT
 obtain ⟨b1, rfl, _, _⟩ := hTc.ptr
 obtain ⟨b2, rfl, _, _⟩ := hTx.ptr
 obtain ⟨b3, rfl, _, _⟩ := hTy.ptr
 have HTx := Kept.mk hTx
 have HTy := Kept.mk hTy
 have HL : Kept (l.length + (1 + sz c + sz x + sz y) ≤ 100000) := ⟨hl⟩
 have HR := Kept.mk hr
 have HB := Kept.mk hb
 have c4 := cell_of_row w b 4 _ _ _ hr
 have HC := Kept.mk (hc.out w l _ hE hTc (by have := HL.out; omega))
 have HOk := Kept.mk (fun n l1 (h : ev c l = .ok (n, l1)) => (ev_ok hw.1 hE.ok h).2.2)
 obtain ⟨R0, hR⟩ : ∃ R0, R0 = ev (.cho c x y) l := ⟨_, rfl⟩
 rw [← hR]
 have HRz := Kept.mk hR
 clear hE hTc hTx hTy hl hr hb hc hw hR
 go_enter Tryz.func41, Tryz.ntmps41
 go_wp2_with fail
 go_at_call 30
 refine HC.out.mono ?_
 intro q w1 hV
 cases hz : ev c l with
 | error e =>
   have HRr : Kept (R0 = .error e) := ⟨by rw [HRz.out, ev, hz]⟩
   rw [hz] at hV
   obtain ⟨rfl, ho⟩ := hV
   rw [HRr.out]
   first | exact ⟨rfl, rfl, ho⟩ | exact ⟨rfl, ho⟩
 | ok z =>
   obtain ⟨n, l1⟩ := z
   have HRr : Kept (R0 = if n = 0 then ev y l1 else ev x l1) := ⟨by rw [HRz.out, ev, hz]⟩
   have HLn : Kept (l1.length ≤ l.length + sz c) := ⟨HOk.out n l1 hz⟩
   rw [hz] at hV
   obtain ⟨rfl, he, ho⟩ := hV
   have hr1 := et_row HR.out HB.out ho.out
   have c5 := cell_of_row w1 b 5 _ _ _ hr1
   have c6 := cell_of_row w1 b 6 _ _ _ hr1
   have HCx := Kept.mk (hx.out w1 l1 _ he.out (HTx.out.move ho.out) (by have := HL.out; have := HLn.out; omega))
   have HCy := Kept.mk (hy.out w1 l1 _ he.out (HTy.out.move ho.out) (by have := HL.out; have := HLn.out; omega))
   have HO := ho
   clear hz he hr1 HC HRz HOk c4 ho
   by_cases h0 : n = 0
   · subst h0
     rw [if_pos rfl] at HRr
     go_wp2_with fail
     go_at_call 30
     refine HCy.out.mono ?_
     intro q w2 hV
     cases hz : ev y l1 with
     | error e =>
       rw [hz] at hV HRr
       obtain ⟨rfl, ho2⟩ := hV
       rw [HRr.out]
       have HF : Kept (Only (· = vb) w w2) := ⟨only_two HO.out ho2.out⟩
       first | exact ⟨rfl, rfl, HF⟩ | exact ⟨rfl, HF⟩
     | ok z =>
       obtain ⟨m, l2⟩ := z
       rw [hz] at hV HRr
       obtain ⟨rfl, he2, ho2⟩ := hV
       clear hz
       have HF : Kept (Only (· = vb) w w2) := ⟨only_two HO.out ho2.out⟩
       go_wp2_with fail
       go_ret
       rw [HRr.out]
       exact ⟨rfl, he2, HF⟩
   · have h2 : (n == 0) = false := beq_eq_false_iff_ne.2 h0
     have h3 : (n != 0) = true := bne_iff_ne.2 h0
     rw [if_neg h0] at HRr
     go_wp2_with fail
     go_at_call 30
     refine HCx.out.mono ?_
     intro q w2 hV
     cases hz : ev x l1 with
     | error e =>
       rw [hz] at hV HRr
       obtain ⟨rfl, ho2⟩ := hV
       rw [HRr.out]
       have HF : Kept (Only (· = vb) w w2) := ⟨only_two HO.out ho2.out⟩
       first | exact ⟨rfl, rfl, HF⟩ | exact ⟨rfl, HF⟩
     | ok z =>
       obtain ⟨m, l2⟩ := z
       rw [hz] at hV HRr
       obtain ⟨rfl, he2, ho2⟩ := hV
       clear hz
       have HF : Kept (Only (· = vb) w w2) := ⟨only_two HO.out ho2.out⟩
       go_wp2_with fail
       go_ret
       rw [HRr.out]
       exact ⟨rfl, he2, HF⟩
set_option maxHeartbeats 4000000 in
set_option maxRecDepth 100000 in
theorem lit_value (vb n : Nat) : VC vb (.lit n) := by
 intro w l u hE hT hl
 obtain ⟨b, rfl, hb, hr⟩ := hT
 have HE := Kept.mk hE
 have c0 := cell_of_row w b 0 _ _ _ hr
 have c1 := cell_of_row w b 1 _ _ _ hr
 clear hE hl hr hb
 go_enter Tryz.func30, Tryz.ntmps30
 go_wp2_with fail
 go_ret
 exact ⟨rfl, HE, ⟨Only.refl _ _⟩⟩
def vgot (l : List Vr) : Option Int → V
 | some n => .ok (n, l)
 | none => .error 130
set_option maxHeartbeats 4000000 in
set_option maxRecDepth 100000 in
theorem var_value (vb : Nat) (x : Tok) : VC vb (.var x) := by
 intro w l u hE hT hl
 obtain ⟨b, rfl, hb, hr⟩ := hT
 have HE := Kept.mk hE
 have c0 := cell_of_row w b 0 _ _ _ hr
 have c2 := cell_of_row w b 2 _ _ _ hr
 have HG := Kept.mk (get_any w vb l (bs x) hE (by have : l.length + 1 ≤ 100000 := hl; omega))
 obtain ⟨o, ho⟩ : ∃ o, o = valV (toL (getD l (bs x)).value) := ⟨_, rfl⟩
 have HR : Kept (ev (.var x) l = vgot l o) := ⟨by rw [ho, ev]; unfold vgot; rfl⟩
 rw [← ho] at HG
 rw [HR.out]
 clear hE hl hr hb ho HR
 go_enter Tryz.func30, Tryz.ntmps30
 go_wp2_with fail
 go_at_call 38
 refine HG.out.mono ?_
 intro q w1 hV
 cases o with
 | none =>
   obtain ⟨rfl, hb⟩ := hV
   have HF : Kept (Only (· = vb) w w1) := ⟨only_bl hb.out⟩
   first | exact ⟨rfl, rfl, HF⟩ | exact ⟨rfl, HF⟩
 | some n =>
   obtain ⟨rfl, hb⟩ := hV
   have HF : Kept (Only (· = vb) w w1) := ⟨only_bl hb.out⟩
   have HE1 : Kept (EM w1 vb l) := ⟨HE.out.below hb.out⟩
   clear hb
   go_wp2_with fail
   go_ret
   exact ⟨rfl, HE1, HF⟩
end Ar
end
section
open Go.RowKit Tx
namespace Ar
open Va (Vr VS getD Sorted)
set_option maxHeartbeats 4000000 in
set_option maxRecDepth 100000 in
theorem asg_value (vb : Nat) (e : Ex) (he : ∃ x o a, e = .asg x o a) (hI : Kept (∀ w l u, EM w vb l → ET (Nw (vb + 1)) w e u → l.length + sz e ≤ 100000 → Calls Tryz.prog 39 #[.pointer (some ⟨vb, 0, none⟩), u] w (VE w vb (ev e l)))) : VC vb e := by
 intro w l u hE hT hl
 have HC := Kept.mk (hI.out w l u hE hT hl)
 obtain ⟨b, rfl, c0⟩ : ∃ b, u = .pointer (some ⟨b, 0, none⟩) ∧ w.cell? ⟨b, 0, none⟩ = some (.int .i64 2) := by
   obtain ⟨x, o, a, rfl⟩ := he
   obtain ⟨b, f, rfl, hb, hr, _⟩ := hT
   exact ⟨b, rfl, cell_of_row w b 0 _ _ _ hr⟩
 obtain ⟨R0, hR⟩ : ∃ R0, R0 = ev e l := ⟨_, rfl⟩
 rw [← hR] at HC ⊢
 clear hE hT hl he hI hR
 go_enter Tryz.func30, Tryz.ntmps30
 go_wp2_with fail
 go_at_call 39
 refine HC.out.mono ?_
 intro q w1 hV
 cases R0 with
 | error e =>
   obtain ⟨rfl, ho⟩ := hV
   first | exact ⟨rfl, rfl, ho⟩ | exact ⟨rfl, ho⟩
 | ok z =>
   obtain ⟨n, l1⟩ := z
   obtain ⟨rfl, he, ho⟩ := hV
   have HE1 := he
   have HO1 := ho
   clear he ho
   go_wp2_with fail
   go_ret
   exact ⟨rfl, HE1, HO1⟩
set_option maxHeartbeats 4000000 in
set_option maxRecDepth 100000 in
theorem bin_value (vb : Nat) (e : Ex) (he : ∃ o a c, e = .bin o a c) (hI : Kept (∀ w l u, EM w vb l → ET (Nw (vb + 1)) w e u → l.length + sz e ≤ 100000 → Calls Tryz.prog 42 #[.pointer (some ⟨vb, 0, none⟩), u] w (VE w vb (ev e l)))) : VC vb e := by
 intro w l u hE hT hl
 have HC := Kept.mk (hI.out w l u hE hT hl)
 obtain ⟨b, rfl, c0⟩ : ∃ b, u = .pointer (some ⟨b, 0, none⟩) ∧ w.cell? ⟨b, 0, none⟩ = some (.int .i64 4) := by
   obtain ⟨o, a, c, rfl⟩ := he
   obtain ⟨b, f, s, rfl, hb, hr, _, _⟩ := hT
   exact ⟨b, rfl, cell_of_row w b 0 _ _ _ hr⟩
 obtain ⟨R0, hR⟩ : ∃ R0, R0 = ev e l := ⟨_, rfl⟩
 rw [← hR] at HC ⊢
 clear hE hT hl he hI hR
 go_enter Tryz.func30, Tryz.ntmps30
 go_wp2_with fail
 go_at_call 42
 refine HC.out.mono ?_
 intro q w1 hV
 cases R0 with
 | error e =>
   obtain ⟨rfl, ho⟩ := hV
   first | exact ⟨rfl, rfl, ho⟩ | exact ⟨rfl, ho⟩
 | ok z =>
   obtain ⟨n, l1⟩ := z
   obtain ⟨rfl, he, ho⟩ := hV
   have HE1 := he
   have HO1 := ho
   clear he ho
   go_wp2_with fail
   go_ret
   exact ⟨rfl, HE1, HO1⟩
set_option maxHeartbeats 4000000 in
set_option maxRecDepth 100000 in
theorem cho_value (vb : Nat) (e : Ex) (he : ∃ c x y, e = .cho c x y) (hI : Kept (∀ w l u, EM w vb l → ET (Nw (vb + 1)) w e u → l.length + sz e ≤ 100000 → Calls Tryz.prog 41 #[.pointer (some ⟨vb, 0, none⟩), u] w (VE w vb (ev e l)))) : VC vb e := by
 intro w l u hE hT hl
 have HC := Kept.mk (hI.out w l u hE hT hl)
 obtain ⟨b, rfl, c0⟩ : ∃ b, u = .pointer (some ⟨b, 0, none⟩) ∧ w.cell? ⟨b, 0, none⟩ = some (.int .i64 5) := by
   obtain ⟨c, x, y, rfl⟩ := he
   obtain ⟨b, f, s, t, rfl, hb, hr, _, _, _⟩ := hT
   exact ⟨b, rfl, cell_of_row w b 0 _ _ _ hr⟩
 obtain ⟨R0, hR⟩ : ∃ R0, R0 = ev e l := ⟨_, rfl⟩
 rw [← hR] at HC ⊢
 clear hE hT hl he hI hR
 go_enter Tryz.func30, Tryz.ntmps30
 go_wp2_with fail
 go_at_call 41
 refine HC.out.mono ?_
 intro q w1 hV
 cases R0 with
 | error e =>
   obtain ⟨rfl, ho⟩ := hV
   first | exact ⟨rfl, rfl, ho⟩ | exact ⟨rfl, ho⟩
 | ok z =>
   obtain ⟨n, l1⟩ := z
   obtain ⟨rfl, he, ho⟩ := hV
   have HE1 := he
   have HO1 := ho
   clear he ho
   go_wp2_with fail
   go_ret
   exact ⟨rfl, HE1, HO1⟩
theorem value_any (vb : Nat) : ∀ (m : Nat) (e : Ex), sz e ≤ m → Wf e → VC vb e
 | 0, e, h, _ => by cases e <;> simp only [sz] at h <;> omega
 | m + 1, e, h, hw => by
   cases e with
   | lit n => exact lit_value vb n
   | var x => exact var_value vb x
   | asg x o a =>
     have h1 : 1 + sz a ≤ m + 1 := h
     exact asg_value vb _ ⟨_, _, _, rfl⟩ ⟨fun w l u hE hT hl => assign_any vb x o a ⟨value_any vb m a (by omega) hw.2.2⟩ hw w l u hE hT (by have : l.length + (1 + sz a) ≤ 100000 := hl; omega)⟩
   | pre o a =>
     have h1 : 1 + sz a ≤ m + 1 := h
     exact fun w l u hE hT hl => prefixed_any vb o a ⟨value_any vb m a (by omega) hw.2⟩ hw.1 w l u hE hT (by have : l.length + (1 + sz a) ≤ 100000 := hl; omega)
   | bin o a c =>
     exact bin_value vb _ ⟨_, _, _, rfl⟩ ⟨fun w l u hE hT hl => join_any vb _ ⟨fun y hy hwy => value_any vb m y (by omega) hwy⟩ hw ⟨_, _, _, rfl⟩ w l u hE hT hl⟩
   | cho c x y =>
     have h1 : 1 + sz c + sz x + sz y ≤ m + 1 := h
     exact cho_value vb _ ⟨_, _, _, rfl⟩ ⟨fun w l u hE hT hl => choose_any vb c x y ⟨value_any vb m c (by omega) hw.1⟩ ⟨value_any vb m x (by omega) hw.2.1⟩ ⟨value_any vb m y (by omega) hw.2.2⟩ hw w l u hE hT hl⟩
end Ar
end
section
open Go.RowKit Tx
namespace Ar
open Va (Vr VS VO getD Sorted)
theorem own_zero (w : World) : VO (w.alloc (.cells #[] 31)) w.heap.size (.slice (some ⟨w.heap.size, 0, none⟩) 0 0) [] := ⟨rfl, .inr ⟨w.heap.size, 0, #[], rfl, Nat.le_refl _, heap_alloc_new w _, Nat.le_refl _, by decide, rfl, rfl⟩⟩
set_option maxHeartbeats 4000000 in
set_option maxRecDepth 100000 in
theorem clone_any (w : World) (A : Option Addr) (n k : Nat) (l : List Vr) (h : VS w A k l) (hn : n = l.length) (hl : l.length ≤ 100000) :
   Calls Tryz.prog 27 #[.slice A n k] w fun e w' => ∃ A2 k2, e = .returned (.slice A2 n k2) ∧ VS w' A2 k2 l ∧ Below w.heap.size w w' := by
 have H := Kept.mk h
 have HN := Kept.mk hn
 have HL := Kept.mk hl
 clear hn hl
 cases A with
 | none =>
   have h0 := h.nil rfl
   have h1 := h.cap
   have hn : n = 0 := by have := HN.out; omega
   have hll : l = [] := List.eq_nil_of_length_eq_zero (by omega)
   have HLl := Kept.mk hll
   subst h0 hn
   have he : ∀ W, (binOp .eql 25 (.slice none 0 0) (.slice none 0 0)).run Tryz.prog W = .ok (.bool true) W := fun W => by kernel_rfl
   clear h h1 hll
   go_enter Tryz.func27, Tryz.ntmps27
   go_wp2_with fail
   go_ret
   exact ⟨_, _, rfl, by rw [HLl.out]; exact VS.empty w, Below.refl _ _⟩
 | some ad =>
   have T : Kept True := ⟨trivial⟩
   have he : ∀ W, (binOp .eql 25 (.slice (some ad) n k) (.slice none 0 0)).run Tryz.prog W = .ok (.bool false) W := fun W => by kernel_rfl
   clear h
   go_enter Tryz.func27, Tryz.ntmps27
   go_wp2_with (at_builtin; have := T
                refine Va.wpList_append_vars rfl _ _ rfl rfl rfl (own_zero w) (ln := 0) rfl (H.out.below ((Below.refl _ _).alloc (Nat.le_refl _) _)) HN.out.symm (by simp) (by have := HN.out; have := HL.out; omega) ?_
                clear T; intro A2 k2 n2 w2 hn2 hO2 hb2
                have HV2 := hO2
                have HN2 := hn2
                have HB2 : Kept (Below w.heap.size w w2) := ⟨((Below.refl _ _).alloc (Nat.le_refl _) _).trans hb2⟩
                clear hb2 hO2 hn2)
   go_ret
   obtain rfl : n2 = n := by have := HN2.out; omega
   exact ⟨_, _, rfl, HV2.out.vs.1, HB2.out⟩
end Ar
end
section
open Go.RowKit Tx
namespace Ar
open Va (Vr VS VO getD Sorted)
namespace Sx
theorem ev_same {a : Act} {d : Nat} {v : Value} (h : d < a.tmps.size) : (a.put (some d) v).eval (.tmp d) = v := by
 show (a.tmps.setIfInBounds d v).getD d undef = v
 simp [Array.getD, h]
theorem ev_other {a : Act} {d e : Nat} {v : Value} (h : e ≠ d) : (a.put (some d) v).eval (.tmp e) = a.eval (.tmp e) := by
 show (a.tmps.setIfInBounds d v).getD e undef = a.tmps.getD e undef
 simp only [Array.getD, Array.size_setIfInBounds]
 split
 · rename_i he
   exact Array.getElem_setIfInBounds_ne he (fun e2 => h e2.symm)
 · rfl
theorem put_defers {a : Act} {d : Option Nat} {v : Value} : (a.put d v).defers = a.defers := by cases d <;> rfl
theorem put_size {a : Act} {d : Option Nat} {v : Value} : (a.put d v).tmps.size = a.tmps.size := by
 cases d <;> simp [Act.put]
variable {P : Program}
theorem ex_mv {ev : Operand → Value} {o : Oper} {x : Operand} {u : Value} {w : World} (ho : o.op = .move x) (hx : ev x = u) : (execOp ev o).run P w = .ok (.value u) w := by
 unfold execOp
 simp only [ho, hx, Sem.run_pure]
theorem ex_st {ev : Operand → Value} {o : Oper} {T : TypeId} {x y : Operand} {u v : Value} {w w' : World} (ho : o.op = .store T x y) (hx : ev x = u) (hy : ev y = v) (h : (Instr.storeAt T u v).run P w = .ok () w') : (execOp ev o).run P w = .ok .skip w' := by
 unfold execOp
 simp only [ho, hx, hy, Sem.run_bind, h, Result.andThen_ok, Sem.run_pure]
theorem ex_ld {ev : Operand → Value} {o : Oper} {T : TypeId} {x : Operand} {u v : Value} {w : World} (ho : o.op = .load T x) (hx : ev x = u) (h : (Instr.loadAt T u).run P w = .ok v w) : (execOp ev o).run P w = .ok (.value v) w := by
 unfold execOp
 simp only [ho, hx, Sem.run_bind, h, Result.andThen_ok, Sem.run_pure]
theorem ex_fa {ev : Operand → Value} {o : Oper} {T : TypeId} {x : Operand} {i : Nat} {u v : Value} {w : World} (ho : o.op = .fieldAddr T x i) (hx : ev x = u) (h : (Instr.fieldAt T u i).run P w = .ok v w) : (execOp ev o).run P w = .ok (.value v) w := by
 unfold execOp
 simp only [ho, hx, Sem.run_bind, h, Result.andThen_ok, Sem.run_pure]
end Sx
theorem assertErrno (n : Int) (w : World) : (Instr.typeAssert (.iface 36 (.int .i64 n)) 20 36 false).run Tryz.prog w = .ok (.int .i64 n) w := by kernel_rfl
theorem skip_step {P : Program} {Q : Exit → Act → World → Prop} {o : Oper} {a : Act} {w w' : World} {K : Act → World → Prop} (hd : o.dst = none) (hr : (execOp a.eval o).run P w = .ok .skip w') (hK : K a w') : Oper.wp P o a w K Q := by
 unfold Oper.wp
 rw [hr, Oper.upon_skip, hd]
 exact hK
theorem storeInt {w : World} {q : Nat} {u : Value} {n : Int} (hq : w.cell? ⟨q, 0, none⟩ = some u) (fq : w.frozen? ⟨q, 0, none⟩ = false) : (Instr.storeAt 3 (.pointer (some ⟨q, 0, none⟩)) (.int .i64 n)).run Tryz.prog w = .ok () (w.setCell ⟨q, 0, none⟩ (.int .i64 n)) := by
 simp [go_sem, hq, fq]
theorem storeNo {w : World} {q : Nat} {u : Value} {n : Int} (hq : w.cell? ⟨q, 0, none⟩ = some u) (fq : w.frozen? ⟨q, 0, none⟩ = false) : (Instr.storeAt 36 (.pointer (some ⟨q, 0, none⟩)) (.int .i64 n)).run Tryz.prog w = .ok () (w.setCell ⟨q, 0, none⟩ (.int .i64 n)) := by
 simp [go_sem, hq, fq]
theorem storeVars {w : World} {q : Nat} {u : Value} {A : Option Addr} {n k : Nat} (hq : w.cell? ⟨q, 0, none⟩ = some u) (fq : w.frozen? ⟨q, 0, none⟩ = false) : (Instr.storeAt 25 (.pointer (some ⟨q, 0, none⟩)) (.slice A n k)).run Tryz.prog w = .ok () (w.setCell ⟨q, 0, none⟩ (.slice A n k)) := by
 simp [go_sem, hq, fq]
theorem ex_ta {P : Program} {ev : Operand → Value} {o : Oper} {x : Operand} {T S : TypeId} {c : Bool} {u v : Value} {w : World} (ho : o.op = .typeAssert x T S c) (hx : ev x = u) (h : (Instr.typeAssert u T S c).run P w = .ok v w) : (execOp ev o).run P w = .ok (.value v) w := by
 simp [execOp, ho, hx, h, Result.andThen]
structure RB (w wk : World) (n m c : Value) : Prop where
 bl : Below w.heap.size w wk
 r0 : wk.heap[w.heap.size]? = some (.cells #[n] 3 (0, 0))
 r1 : wk.heap[w.heap.size + 1]? = some (.cells #[m] 25 (0, 0))
 r2 : wk.heap[w.heap.size + 2]? = some (.cells #[c] 36 (0, 0))
section
variable {w wk wk' : World} {n m c : Value}
theorem RB.lt (h : RB w wk n m c) : w.heap.size + 3 ≤ wk.heap.size := (Array.getElem?_eq_some_iff.1 h.r2).1
theorem RB.below (h : RB w wk n m c) (hb : Below wk.heap.size wk wk') : RB w wk' n m c := ⟨h.bl.trans (hb.mono h.bl.size), (hb.block _ (by have := h.lt; omega)).trans h.r0, (hb.block _ (by have := h.lt; omega)).trans h.r1, (hb.block _ (by have := h.lt; omega)).trans h.r2⟩
theorem RB.only {g : Nat} (h : RB w wk n m c) (ho : Only (· = g) wk wk') (hg : w.heap.size + 3 ≤ g) : RB w wk' n m c :=
 ⟨h.bl.trans ⟨ho.os, ho.tape, ho.output, ho.size, fun k hk => ho.block k (by have := h.lt; omega) (by omega)⟩, (ho.block _ (by have := h.lt; omega) (by omega)).trans h.r0, (ho.block _ (by have := h.lt; omega) (by omega)).trans h.r1, (ho.block _ (by have := h.lt; omega) (by omega)).trans h.r2⟩
theorem RB.drew (h : RB w wk n m c) : RB w wk.drew n m c := ⟨h.bl.trans (Below.refl _ _).drew, h.r0, h.r1, h.r2⟩
theorem RB.setN (h : RB w wk n m c) (v : Value) : RB w (wk.setCell ⟨w.heap.size, 0, none⟩ v) v m c := ⟨h.bl.setCell (by simp) _, heap_setCell_same wk _ 0 _ _ v h.r0, (Below.heap_setCell _ _ _ _ (by show w.heap.size + 1 ≠ w.heap.size; omega)).trans h.r1, (Below.heap_setCell _ _ _ _ (by show w.heap.size + 2 ≠ w.heap.size; omega)).trans h.r2⟩
theorem RB.setM (h : RB w wk n m c) (v : Value) : RB w (wk.setCell ⟨w.heap.size + 1, 0, none⟩ v) n v c := ⟨h.bl.setCell (by simp) _, (Below.heap_setCell _ _ _ _ (by show w.heap.size ≠ w.heap.size + 1; omega)).trans h.r0, heap_setCell_same wk _ 0 _ _ v h.r1, (Below.heap_setCell _ _ _ _ (by show w.heap.size + 2 ≠ w.heap.size + 1; omega)).trans h.r2⟩
theorem RB.setC (h : RB w wk n m c) (v : Value) : RB w (wk.setCell ⟨w.heap.size + 2, 0, none⟩ v) n m v := ⟨h.bl.setCell (by simp) _, (Below.heap_setCell _ _ _ _ (by show w.heap.size ≠ w.heap.size + 2; omega)).trans h.r0, (Below.heap_setCell _ _ _ _ (by show w.heap.size + 1 ≠ w.heap.size + 2; omega)).trans h.r1, heap_setCell_same wk _ 0 _ _ v h.r2⟩
end
def cops : Array Oper := #[{ dst := some 7, op := .move (.tmp 3), type := 20, pos := "arith.go:15", after := #[], guard := none },
 { dst := some 8, op := .typeAssert (.tmp 7) 20 36 false, type := 36, pos := "arith.go:15", after := #[{ on := 0, ground := .data }], guard := none },
 { dst := none, op := .store 3 (.tmp 0) (.const (.int .i64 0)), type := 0, pos := "arith.go:15", after := #[{ on := 0, ground := .textOnly .lateStores }, { on := 1, ground := .textOnly .lateStoresUnsure }], guard := none },
 { dst := none, op := .store 25 (.tmp 1) (.const (.slice none 0 0)), type := 0, pos := "arith.go:15", after := #[{ on := 2, ground := .chain }, { on := 0, ground := .textOnly .lateStores }, { on := 1, ground := .textOnly .lateStoresUnsure }, { on := 2, ground := .phase }], guard := none },
 { dst := none, op := .store 36 (.tmp 2) (.tmp 8), type := 0, pos := "arith.go:15", after := #[{ on := 1, ground := .data }, { on := 3, ground := .chain }, { on := 0, ground := .phase }, { on := 1, ground := .phase }, { on := 2, ground := .phase }, { on := 3, ground := .phase }], guard := none }]
set_option maxRecDepth 100000 in
theorem catch_region {Q : Exit → Act → World → Prop} {id : Nat} {a : Act} {w wk : World} {n : Int} {u1 u2 u3 : Value} (hQ : ∀ (d : Option Nat) (x : Value) (c : List PanicEntry) (a : Act) (w : World), Q (.panic c) (a.put d x) w → Q (.panic c) a w)
   (hs : a.tmps.size = 9) (h0 : a.eval (.tmp 0) = .pointer (some ⟨w.heap.size, 0, none⟩)) (h1 : a.eval (.tmp 1) = .pointer (some ⟨w.heap.size + 1, 0, none⟩)) (h2 : a.eval (.tmp 2) = .pointer (some ⟨w.heap.size + 2, 0, none⟩)) (h3 : a.eval (.tmp 3) = .iface 36 (.int .i64 n))
   (hp : RB w wk u1 u2 u3)
   (hgo : ∀ a' w', a'.defers = a.defers → RB w w' (.int .i64 0) (.slice none 0 0) (.int .i64 n) → Q .normal a' w') :
   (Code.region id cops true).wp Tryz.prog Q a wk := by
 refine wp_region_any (by kernel_rfl) ?_
 change wpAny _ .any cops Q _ _ a wk.drew
 have g0 := hp.drew
 have g1 := g0.setN (.int .i64 0)
 have g2 := g1.setM (.slice none 0 0)
 have g3 := g2.setC (.int .i64 n)
 have s0 := storeInt (n := 0) (cell_of_row _ _ 0 _ _ _ g0.r0) (frozen_of_row _ _ 0 _ _ g0.r0)
 have s1 := storeVars (A := none) (n := 0) (k := 0) (cell_of_row _ _ 0 _ _ _ g1.r1) (frozen_of_row _ _ 0 _ _ g1.r1)
 have s2 := storeNo (n := n) (cell_of_row _ _ 0 _ _ _ g2.r2) (frozen_of_row _ _ 0 _ _ g2.r2)
 refine wpAny_take (i := 0) (oi := _) (v := .iface 36 (.int .i64 n)) rfl (by kernel_rfl) (by kernel_rfl) (by kernel_rfl) (fun c a w h => hQ _ _ c a w h) (.inl ⟨by kernel_rfl, fun w' => Sx.ex_mv rfl h3⟩) ?_
 refine wpAny_take (i := 1) (oi := _) (v := .int .i64 n) rfl (by kernel_rfl) (by kernel_rfl) (by kernel_rfl) (fun c a w h => hQ _ _ c a w h) (.inl ⟨by kernel_rfl, fun w' => ?_⟩) ?_
 · exact ex_ta rfl (Sx.ev_same (by omega)) (assertErrno _ _)
 refine wpAny_ready (rs := [2]) (by kernel_rfl) (by simp) ?_
 refine AllReady.cons (o := _) rfl (fun K hK => ?_) AllReady.nil
 rw [if_pos (by kernel_rfl)]
 refine skip_step (w' := wk.drew.setCell ⟨w.heap.size, 0, none⟩ (.int .i64 0)) rfl ?_ (hK _ _ ?_)
 · exact Sx.ex_st (u := .pointer (some ⟨w.heap.size, 0, none⟩)) (v := .int .i64 0) rfl ((Sx.ev_other (by decide)).trans ((Sx.ev_other (by decide)).trans h0)) rfl s0
 refine wpAny_ready (rs := [3]) (by kernel_rfl) (by simp) ?_
 refine AllReady.cons (o := _) rfl (fun K2 hK2 => ?_) AllReady.nil
 rw [if_pos (by kernel_rfl)]
 refine skip_step (w' := (wk.drew.setCell ⟨w.heap.size, 0, none⟩ (.int .i64 0)).setCell ⟨w.heap.size + 1, 0, none⟩ (.slice none 0 0)) rfl ?_ (hK2 _ _ ?_)
 · exact Sx.ex_st (u := .pointer (some ⟨w.heap.size + 1, 0, none⟩)) (v := .slice none 0 0) rfl ((Sx.ev_other (by decide)).trans ((Sx.ev_other (by decide)).trans h1)) rfl s1
 refine wpAny_ready (rs := [4]) (by kernel_rfl) (by simp) ?_
 refine AllReady.cons (o := _) rfl (fun K3 hK3 => ?_) AllReady.nil
 rw [if_pos (by kernel_rfl)]
 refine skip_step (w' := ((wk.drew.setCell ⟨w.heap.size, 0, none⟩ (.int .i64 0)).setCell ⟨w.heap.size + 1, 0, none⟩ (.slice none 0 0)).setCell ⟨w.heap.size + 2, 0, none⟩ (.int .i64 n)) rfl ?_ (hK3 _ _ ?_)
 · exact Sx.ex_st (u := .pointer (some ⟨w.heap.size + 2, 0, none⟩)) (v := .int .i64 n) rfl ((Sx.ev_other (by decide)).trans ((Sx.ev_other (by decide)).trans h2)) (Sx.ev_same (by simp only [Sx.put_size]; omega)) s2
 exact wpAny_done (by kernel_rfl) (hgo _ _ (by simp only [Sx.put_defers]) g3) _
set_option maxRecDepth 100000 in
theorem catch_bad (w wk : World) (n : Int) (u1 u2 u3 : Value) (hp : RB w wk u1 u2 u3) :
   CallsD Tryz.prog 26 #[.pointer (some ⟨w.heap.size, 0, none⟩), .pointer (some ⟨w.heap.size + 1, 0, none⟩), .pointer (some ⟨w.heap.size + 2, 0, none⟩)] (.panicking (pan n)) wk fun e u' w' =>
     e = .returned (.tuple #[]) ∧ u' = .panicking [{ v := .iface 36 (.int .i64 n), recovered := true }] ∧ RB w w' (.int .i64 0) (.slice none 0 0) (.int .i64 n) := by
 refine callsD_of_wpS Tryz.func26 rfl fun c₀ cs hu => ?_
 apply wpS_seq
 apply wpS_region
 simp [wpOpsS, go_sem, recoverD, hu, Tryz.ntmps26, Exit.thenS, pan]
 apply wpS_seq
 apply wpS_region
 simp [wpOpsS, go_sem, Exit.thenS]
 refine wpS_cond (t := true) (by simp [Act.eval, Array.replicate]) ?_
 simp only [if_true]
 refine wpS_of_wp (catch_region (n := n) (fun d _ _ _ _ h => by cases d <;> exact h) rfl rfl rfl rfl rfl hp fun a' w' ha' hr => ?_)
 simp [bodyPostS, results, Tryz.results26, ha', go_sem]
 exact hr
theorem catch_idle (p q r : Addr) (w : World) :
   CallsD Tryz.prog 26 #[.pointer (some p), .pointer (some q), .pointer (some r)] .returning w fun e u' w' => e = .returned (.tuple #[]) ∧ u' = .returning ∧ w' = w := by
 refine callsD_of_wpS Tryz.func26 rfl fun c₀ cs hu => ?_
 apply wpS_seq
 apply wpS_region
 simp [wpOpsS, go_sem, recoverD, hu, Tryz.ntmps26, Exit.thenS]
 apply wpS_seq
 apply wpS_region
 simp [wpOpsS, go_sem, Exit.thenS]
 refine wpS_cond (t := false) (by simp [Act.eval, Array.replicate]) ?_
 simp only [Bool.false_eq_true, if_false]
 refine wpS_of_wp (wp_skip ?_)
 cases c₀
 simp_all [bodyPostS, results, Tryz.results26]
theorem res_three {tmps : Array Value} {w : World} {p q r : Nat} {n m c : Value} (hp : tmps.getD 4 undef = .pointer (some ⟨p, 0, none⟩)) (hq : tmps.getD 5 undef = .pointer (some ⟨q, 0, none⟩)) (hr : tmps.getD 6 undef = .pointer (some ⟨r, 0, none⟩)) (h0 : w.cell? ⟨p, 0, none⟩ = some n) (h1 : w.cell? ⟨q, 0, none⟩ = some m) (h2 : w.cell? ⟨r, 0, none⟩ = some c) :
   (results Tryz.f17 tmps).run Tryz.prog w = .ok (.tuple #[n, m, c]) w := by
 have hp' : tmps[4]?.getD undef = .pointer (some ⟨p, 0, none⟩) := by simpa using hp
 have hq' : tmps[5]?.getD undef = .pointer (some ⟨q, 0, none⟩) := by simpa using hq
 have hr' : tmps[6]?.getD undef = .pointer (some ⟨r, 0, none⟩) := by simpa using hr
 have l0 : (loadVar 3 ⟨p, 0, none⟩).run Tryz.prog w = .ok n w := by simp [go_sem, h0]
 have l1 : (loadVar 25 ⟨q, 0, none⟩).run Tryz.prog w = .ok m w := by simp [go_sem, h1]
 have l2 : (loadVar 36 ⟨r, 0, none⟩).run Tryz.prog w = .ok c w := by simp [go_sem, h2]
 simp [results, Tryz.results17, hp', hq', hr', asAddr, l0, l1, l2, Result.andThen]
theorem VS.one {w : World} {A : Option Addr} {k nc : Nat} {l : List Vr} {x : Value} {t : TypeId} {q : Nat × Nat} (h : VS w A k l) (hn : w.heap[nc]? = some (.cells #[x] t q)) (hx : ∀ s, x ≠ .string s) (v : Value) : VS (w.setCell ⟨nc, 0, none⟩ v) A k l := by
 refine ⟨h.cap, h.nil, fun hl => ?_⟩
 obtain ⟨g, off, h1, h3, h4⟩ := h.mem hl
 have hg : g ≠ nc := by
   rintro rfl
   obtain ⟨v, t, rfl⟩ := List.exists_cons_of_ne_nil hl
   have h5 := h4 0 (.string v.name) rfl
   rw [cell_of_row w g (off + 0) _ _ _ hn] at h5
   match off, h5 with
   | 0, h5 => exact hx _ (Option.some.inj h5)
   | o + 1, h5 => cases h5
 exact ⟨g, off, h1, by simpa [World.setCell] using h3, fun j u hu => (World.cell?_of_block (w := w) (a := ⟨g, off + j, none⟩) (Below.heap_setCell _ _ _ _ hg)).trans (h4 j u hu)⟩
end Ar
end
end Go.Proofs.YtlggpefmojacoaaGreatDoor
