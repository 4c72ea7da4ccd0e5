/-
  Parts of the proof, merged.
-/
import Derived.Deep.AppendLies
import Derived.Deep.MidRow
import Derived.Laws.AppendOwn
import Derived.Laws.Rows
import Derived.Laws.Tables
import Derived.OwnWalk
import Derived.Test.YtahjonfmhejoeaaGreatDoorVa16
import Derived.Test.YtahjonfmhejoeaaGreatDoorVa29
namespace Go.Proofs.YtahjonfmhejoeaaGreatDoor
section
namespace App
@[reducible] def dat (i : Nat) : Edge := { on := i, ground := .data }
@[reducible] def o0 (n t fo : Nat) (nt : TypeId) (pos : String) : Oper := { dst := some t, op := .fieldAddr nt (.tmp n) fo, type := 0, pos := pos, after := #[], guard := none }
@[reducible] def o2 (p t : Nat) (pt : TypeId) (pos : String) : Oper := { dst := some (t + 2), op := .move (.tmp p), type := pt, pos := pos, after := #[], guard := none }
@[reducible] def o1 (t : Nat) (lt : TypeId) (pos : String) : Oper := { dst := some (t + 1), op := .load lt (.tmp t), type := lt, pos := pos, after := #[dat 0], guard := none }
@[reducible] def o3 (p t : Nat) (pt rt : TypeId) (f : FuncId) (pos : String) : Oper := { dst := some (t + 3), op := .call { callee := .value (.func f), args := #[.tmp (t + 2)], argTypes := #[pt] }, type := rt, pos := pos, after := #[dat p], guard := none }
@[reducible] def o4 (t : Nat) (lt : TypeId) (pos : String) : Oper := { dst := some (t + 4), op := .buildSlice lt 1 #[(0, .tmp (t + 3))], type := lt, pos := pos, after := #[dat 3], guard := none }
@[reducible] def o5 (t : Nat) (lt : TypeId) (pos : String) : Oper := { dst := some (t + 5), op := .call { callee := .builtin .append, args := #[.tmp (t + 1), .tmp (t + 4)], argTypes := #[lt, lt] }, type := lt, pos := pos, after := #[dat 1, dat 4, { on := 3, ground := .chain }], guard := none }
@[reducible] def o6 (n t : Nat) (fo : Nat) (nt : TypeId) (pos : String) : Oper := { dst := some (t + 6), op := .fieldAddr nt (.tmp n) fo, type := 0, pos := pos, after := #[{ on := 0, ground := .phase }, { on := 1, ground := .phase }, { on := 2, ground := .phase }, { on := 3, ground := .phase }, { on := 4, ground := .phase }, { on := 5, ground := .phase }], guard := none }
@[reducible] def o7 (t : Nat) (lt : TypeId) (pos : String) : Oper := { dst := none, op := .store lt (.tmp (t + 6)) (.tmp (t + 5)), type := 0, pos := pos, after := #[dat 6, dat 5, { on := 5, ground := .chain }, { on := 0, ground := .phase }, { on := 1, ground := .phase }, { on := 2, ground := .phase }, { on := 3, ground := .phase }, { on := 4, ground := .phase }, { on := 5, ground := .phase }], guard := none }
@[reducible] def ops (n p t : Nat) (fo : Nat) (nt lt pt rt : TypeId) (f : FuncId) (pos : String) : Array Oper :=
 #[o0 n t fo nt pos, o1 t lt pos, o2 p t pt pos,
   o3 2 t pt rt f pos, o4 t lt pos, o5 t lt pos, o6 n t fo nt pos, o7 t lt pos]
theorem ev_same {a : Act} {d : Nat} {v : Value} (h : d < a.tmps.size) : (a.put (some d) v).eval (.tmp d) = v := by
 show (a.tmps.setIfInBounds d v).getD d undef = v
 simp [Array.getD, h]
theorem ev_other {a : Act} {d e : Nat} {v : Value} (h : e ≠ d) : (a.put (some d) v).eval (.tmp e) = a.eval (.tmp e) := by
 show (a.tmps.setIfInBounds d v).getD e undef = a.tmps.getD e undef
 simp only [Array.getD, Array.size_setIfInBounds]
 split
 · rename_i he
   exact Array.getElem_setIfInBounds_ne he (fun e2 => h e2.symm)
 · rfl
theorem put_defers {a : Act} {d : Option Nat} {v : Value} : (a.put d v).defers = a.defers := by cases d <;> rfl
theorem put_size {a : Act} {d : Option Nat} {v : Value} : (a.put d v).tmps.size = a.tmps.size := by
 cases d <;> simp [Act.put]
structure Fits (P : Program) (nt lt et pt : TypeId) (fo off : Nat) (f : FuncId) (nb : Nat) (ti : TypeInfo) (z : Value) (size bytes : Nat) (pv : Value) : Prop where
 fa : ∀ W, (Instr.fieldAt nt (.pointer (some ⟨nb, 0, none⟩)) fo).run P W = .ok (.pointer (some ⟨nb, off, none⟩)) W
 ld : ∀ W v, W.cell? ⟨nb, off, none⟩ = some v → (Instr.loadAt lt (.pointer (some ⟨nb, off, none⟩))).run P W = .ok v W
 st : ∀ W A l c u, W.cell? ⟨nb, off, none⟩ = some u → W.frozen? ⟨nb, off, none⟩ = false → (Instr.storeAt lt (.pointer (some ⟨nb, off, none⟩)) (.slice A l c)).run P W = .ok () (W.setCell ⟨nb, off, none⟩ (.slice A l c))
 cf : ∀ W, (callFunc f #[pv]).run P W = .ok (.enter f #[pv]) W
 un : P.underlying lt = some (.slice et)
 inf : P.info? et = some ti
 zero : ti.zero = some z
 sz : ti.size = size
 by_ : ti.bytes = bytes
 zs : z.cells.size = size
 pos : 0 < size
variable {P : Program} {Q : Exit → Act → World → Prop}
theorem ex_fa {ev : Operand → Value} {o : Oper} {T : TypeId} {x : Operand} {i : Nat} {u v : Value} {w : World} (ho : o.op = .fieldAddr T x i) (hx : ev x = u) (h : (Instr.fieldAt T u i).run P w = .ok v w) : (execOp ev o).run P w = .ok (.value v) w := by
 unfold execOp
 simp only [ho, hx, Sem.run_bind, h, Result.andThen_ok, Sem.run_pure]
theorem ex_mv {ev : Operand → Value} {o : Oper} {x : Operand} {u : Value} {w : World} (ho : o.op = .move x) (hx : ev x = u) : (execOp ev o).run P w = .ok (.value u) w := by
 unfold execOp
 simp only [ho, hx, Sem.run_pure]
theorem ex_ld {ev : Operand → Value} {o : Oper} {T : TypeId} {x : Operand} {u v : Value} {w : World} (ho : o.op = .load T x) (hx : ev x = u) (h : (Instr.loadAt T u).run P w = .ok v w) : (execOp ev o).run P w = .ok (.value v) w := by
 unfold execOp
 simp only [ho, hx, Sem.run_bind, h, Result.andThen_ok, Sem.run_pure]
theorem ex_bs {ev : Operand → Value} {o : Oper} {T : TypeId} {x : Operand} {u v : Value} {w w' : World} (ho : o.op = .buildSlice T 1 #[(0, x)]) (hx : ev x = u) (h : (Instr.buildSlice T 1 #[(0, u)]).run P w = .ok v w') : (execOp ev o).run P w = .ok (.value v) w' := by
 unfold execOp
 simp only [ho, List.map_toArray, List.map_cons, List.map_nil, hx, Sem.run_bind, h, Result.andThen_ok, Sem.run_pure]
theorem ex_st {ev : Operand → Value} {o : Oper} {T : TypeId} {x y : Operand} {u v : Value} {w w' : World} (ho : o.op = .store T x y) (hx : ev x = u) (hy : ev y = v) (h : (Instr.storeAt T u v).run P w = .ok () w') : (execOp ev o).run P w = .ok .skip w' := by
 unfold execOp
 simp only [ho, hx, hy, Sem.run_bind, h, Result.andThen_ok, Sem.run_pure]
theorem ex_call {ev : Operand → Value} {o : Oper} {f : FuncId} {x : Operand} {ty : TypeId} {u : Value} {w : World} (ho : o.op = .call { callee := .value (.func f), args := #[x], argTypes := #[ty] }) (hx : ev x = u) (hf : ev (.func f) = .func (.func f) #[] #[]) (h : (callFunc f #[u]).run P w = .ok (.enter f #[u]) w) : (execOp ev o).run P w = .ok (.enter f #[u]) w := by
 unfold execOp
 simp only [ho, resolve, hf, Deferred.ofValue, List.map_toArray, List.map_cons, List.map_nil, hx, Sem.run_bind, Result.andThen_ok, Sem.run_pure, invoke]
 simpa using h
@[reducible] def seen (l : List Nat) : Array Bool := l.foldl (fun s i => s.setIfInBounds i true) (Array.replicate 8 false)
set_option maxHeartbeats 1000000 in
theorem tail {n p t fo off : Nat} {nt lt et pt rt : TypeId} {f : FuncId} {pos : String} {A : Act} {w1 : World} {nb : Nat} {ti : TypeInfo} {z : Value} {size bytes : Nat} {pv v : Value} {base len : Nat} {xs : List Value} {cs : Array Value} {listed : Array Bool}
   (F : Fits P nt lt et pt fo off f nb ti z size bytes pv)
   (h5 : Region.ready .any (ops n p t fo nt lt pt rt f pos) listed = [5]) (h6 : Region.ready .any (ops n p t fo nt lt pt rt f pos) (listed.setIfInBounds 5 true) = [6])
   (h7 : Region.ready .any (ops n p t fo nt lt pt rt f pos) ((listed.setIfInBounds 5 true).setIfInBounds 6 true) = [7]) (h8 : Region.ready .any (ops n p t fo nt lt pt rt f pos) (((listed.setIfInBounds 5 true).setIfInBounds 6 true).setIfInBounds 7 true) = [])
   (hnt : n < t) (hts : t + 6 < A.tmps.size)
   (hn : A.eval (.tmp n) = .pointer (some ⟨nb, 0, none⟩)) (h1 : A.eval (.tmp (t + 1)) = v) (h4 : A.eval (.tmp (t + 4)) = .slice (some ⟨w1.heap.size, 0, none⟩) 1 1)
   (hcs : cs.size = size) (hone : ∀ x ∈ cs.toList, x.oneCell' = true)
   (hc1 : w1.cell? ⟨nb, off, none⟩ = some v) (hf1 : w1.frozen? ⟨nb, off, none⟩ = false) (hown : w1.ownsRow base et size v len xs) (hne : ∀ g, v.ownBlock = some g → g ≠ nb) (hbase : base ≤ w1.heap.size) (hml : len + 1 ≤ maxLen) (hby : (len + 1) * bytes ≤ 140737488355328)
   (hgo : ∀ v' w2, w2.ownsRow base et size v' (len + 1) (xs ++ cs.toList) → (w1.alloc (.cells cs et)).grownBy w2 v.ownBlock → (∀ o, v'.ownBlock = some o → v.ownBlock = some o ∨ o = w1.heap.size + 1) → (w2.cell? ⟨nb, off, none⟩).isSome = true → ∀ q, Q .normal ((A.put (some (t + 5)) v').put (some (t + 6)) q) (w2.setCell ⟨nb, off, none⟩ v')) :
   wpAny P .any (ops n p t fo nt lt pt rt f pos) Q 3 listed A (w1.alloc (.cells cs et)) := by
 have hc2 : (w1.alloc (.cells cs et)).cell? ⟨nb, off, none⟩ = some v := by rw [World.cell?_alloc_some _ _ _ (by rw [hc1]; rfl)]; exact hc1
 refine wpAny_ready h5 (by simp) ?_
 refine AllReady.cons (o := o5 t lt pos) rfl (fun K hK => ?_) AllReady.nil
 rw [if_pos (by kernel_rfl)]
 have hlt : nb < w1.heap.size := World.block_lt_of_cell? w1 _ hc1
 have hown2 : (w1.alloc (.cells cs et)).ownsRow base et size v len xs := by
   refine ⟨hown.1, ?_⟩
   rcases hown.2 with h0 | ⟨g, cap, cur, rfl, hB, hg, r⟩
   · exact .inl h0
   · exact .inr ⟨g, cap, cur, rfl, hB, (Go.RowKit.Below.heap_alloc w1 _ g (Array.getElem?_eq_some_iff.1 hg).1).trans hg, r⟩
 refine wp_append_lies (w1.alloc (.cells cs et)) (Operand.tmp (t + 1)) (Operand.tmp (t + 4)) lt rfl base et ti z size bytes F.un F.inf F.zero F.sz F.by_ F.zs F.pos v len xs h1 hown2 ⟨w1.heap.size, 0, none⟩ 1 1 cs.toList h4 (by simp [hcs]) ?_ hone (by omega) hml hby (by simp; omega) (w1.heap.size + 1) (by simp) ?_
 · intro j x hx
   have : (⟨w1.heap.size, 0, none⟩ : Addr).add j = ⟨w1.heap.size, j, none⟩ := by unfold Addr.add; split <;> simp_all
   rw [this, cell_of_row _ _ j _ _ (0, 0) (heap_alloc_new w1 _)]
   simpa using hx
 intro gg cap w2 ho2 hg2 hlies _
 obtain ⟨v', hv'e⟩ : ∃ v', v' = Value.slice (some ⟨gg, 0, none⟩) (len + 1) cap := ⟨_, rfl⟩
 have hl' : ∀ o, v'.ownBlock = some o → v.ownBlock = some o ∨ o = w1.heap.size + 1 := fun o h => by
   rw [hv'e] at h
   injection h with h
   have h : gg = o := h
   rw [← h]; exact hlies
 rw [← hv'e] at ho2 ⊢
 have hb2 : w2.heap[nb]? = (w1.alloc (.cells cs et)).heap[nb]? := hg2.block nb (by simp; omega) (fun e => hne _ e.symm rfl)
 have hc3 : w2.cell? ⟨nb, off, none⟩ = some v := (World.cell?_of_block (w := w1.alloc (.cells cs et)) (a := ⟨nb, off, none⟩) hb2).trans hc2
 have hf3 : w2.frozen? ⟨nb, off, none⟩ = false := by
   rw [show w2.frozen? ⟨nb, off, none⟩ = w1.frozen? ⟨nb, off, none⟩ from ?_]
   · exact hf1
   · have : w2.heap[nb]? = w1.heap[nb]? := hb2.trans (Go.RowKit.Below.heap_alloc w1 _ nb hlt)
     simp only [World.frozen?, this]
 refine hK _ _ ?_
 clear hK
 refine wpAny_ready h6 (by simp) ?_
 refine AllReady.cons (o := o6 n t fo nt pos) rfl (fun K hK => ?_) AllReady.nil
 rw [if_pos (by kernel_rfl)]
 unfold Oper.wp
 rw [ex_fa (u := .pointer (some ⟨nb, 0, none⟩)) rfl (by rw [ev_other (by omega)]; exact hn) (F.fa _), Oper.upon_value]
 refine hK _ _ ?_
 clear hK
 refine wpAny_ready h7 (by simp) ?_
 refine AllReady.cons (o := o7 t lt pos) rfl (fun K hK => ?_) AllReady.nil
 rw [if_pos (by kernel_rfl)]
 unfold Oper.wp
 rw [ex_st (u := .pointer (some ⟨nb, off, none⟩)) (v := v') rfl (by rw [ev_same (by simp only [put_size]; omega)]) (by rw [ev_other (by omega), ev_same (by omega)]) (by rw [hv'e]; exact F.st _ _ _ _ _ hc3 hf3), Oper.upon_skip, ← hv'e]
 refine hK _ _ ?_
 exact wpAny_done h8 (hgo v' w2 ho2 hg2 hl' (by rw [hc3]; rfl) _) _
set_option maxHeartbeats 2000000 in
theorem region {n p t fo off : Nat} {nt lt et pt rt : TypeId} {f : FuncId} {pos : String} {id : Nat} {a : Act} {w : World} {nb : Nat} {ti : TypeInfo} {z : Value} {size bytes : Nat} {pv v : Value} {base len : Nat} {xs : List Value}
   (hQ : ∀ (d : Option Nat) (x : Value) (c : List PanicEntry) (a : Act) (w : World), Q (.panic c) (a.put d x) w → Q (.panic c) a w) (hm : P.follows .mixedOrders = true) (F : Fits P nt lt et pt fo off f nb ti z size bytes pv)
   (f0 : Region.free .any (ops n p t fo nt lt pt rt f pos) (Array.replicate 8 false) 0 = true)
   (f2 : Region.free .any (ops n p t fo nt lt pt rt f pos) ((Array.replicate 8 false).setIfInBounds 0 true) 2 = true)
   (hnt : n < t) (hpt : p < t) (hts : t + 6 < a.tmps.size)
   (hn : a.eval (.tmp n) = .pointer (some ⟨nb, 0, none⟩)) (hp : a.eval (.tmp p) = pv)
   (hc : w.cell? ⟨nb, off, none⟩ = some v)
   (call : Calls P f #[pv] w.drew fun e w1 =>
     (∃ u cs, e = .returned u ∧ (∀ W, (Instr.buildSlice lt 1 #[(0, u)]).run P W = .ok (.slice (some ⟨W.heap.size, 0, none⟩) 1 1) (W.alloc (.cells cs et))) ∧ cs.size = size ∧ (∀ x ∈ cs.toList, x.oneCell' = true) ∧
       w1.cell? ⟨nb, off, none⟩ = some v ∧ w1.frozen? ⟨nb, off, none⟩ = false ∧ w1.ownsRow base et size v len xs ∧ (∀ g, v.ownBlock = some g → g ≠ nb) ∧ base ≤ w1.heap.size ∧ len + 1 ≤ maxLen ∧ (len + 1) * bytes ≤ 140737488355328 ∧
       ∀ v' w2, w2.ownsRow base et size v' (len + 1) (xs ++ cs.toList) → (w1.alloc (.cells cs et)).grownBy w2 v.ownBlock → (∀ o, v'.ownBlock = some o → v.ownBlock = some o ∨ o = w1.heap.size + 1) → (w2.cell? ⟨nb, off, none⟩).isSome = true → ∀ q, Q .normal (((((((a.put (some t) (.pointer (some ⟨nb, off, none⟩))).put (some (t + 2)) pv).put (some (t + 1)) v).put (some (t + 3)) u).put (some (t + 4)) (.slice (some ⟨w1.heap.size, 0, none⟩) 1 1)).put (some (t + 5)) v').put (some (t + 6)) q) (w2.setCell ⟨nb, off, none⟩ v')) ∨
     (∃ c, e = .panicked c ∧ ∀ a' : Act, a'.defers = a.defers → Q (.panic c) a' w1)) :
   (Code.region id (ops n p t fo nt lt pt rt f pos) true).wp P Q a w := by
 refine wp_region_any hm ?_
 change wpAny P .any _ Q _ _ a w.drew
 have hc' : w.drew.cell? ⟨nb, off, none⟩ = some v := hc
 refine wpAny_take (i := 0) (oi := o0 n t fo nt pos) (v := .pointer (some ⟨nb, off, none⟩)) rfl (by kernel_rfl) f0 (by kernel_rfl) (fun c a w h => hQ _ _ c a w h) (.inl ⟨by kernel_rfl, fun w' => ex_fa rfl hn (F.fa w')⟩) ?_
 refine wpAny_take (i := 2) (oi := o2 p t pt pos) (v := pv) rfl (by kernel_rfl) f2 (by kernel_rfl) (fun c a w h => hQ _ _ c a w h) (.inl ⟨by kernel_rfl, fun w' => ex_mv rfl (by rw [ev_other (by omega)]; exact hp)⟩) ?_
 refine wpAny_ready (rs := [1, 3]) (by kernel_rfl) (by simp) ?_
 refine AllReady.cons (o := o1 t lt pos) rfl (fun K hK => ?_) (AllReady.cons (o := o3 2 t pt rt f pos) rfl (fun K hK => ?_) AllReady.nil)
 · rw [if_pos (by kernel_rfl)]
   unfold Oper.wp
   rw [ex_ld (u := .pointer (some ⟨nb, off, none⟩)) rfl (by rw [ev_other (by omega), ev_same (by omega)]) (F.ld _ _ hc'), Oper.upon_value]
   refine hK _ _ ?_
   clear hK
   refine wpAny_ready (rs := [3]) (by kernel_rfl) (by simp) ?_
   refine AllReady.cons (o := o3 2 t pt rt f pos) rfl (fun K hK => ?_) AllReady.nil
   rw [if_pos (by kernel_rfl)]
   unfold Oper.wp
   rw [ex_call (u := pv) rfl (by rw [ev_other (by omega), ev_same (by rw [put_size]; omega)]) rfl (F.cf _), Oper.upon_enter]
   refine call.mono ?_
   rintro e w1 (⟨u, cs, rfl, hbs, hcs, hone, hc1, hf1, hown, hne, hbase, hml, hby, hgo⟩ | ⟨c, rfl, hc⟩)
   · refine hK _ _ ?_
     clear hK
     refine wpAny_ready (rs := [4]) (by kernel_rfl) (by simp) ?_
     refine AllReady.cons (o := o4 t lt pos) rfl (fun K hK => ?_) AllReady.nil
     rw [if_pos (by kernel_rfl)]
     unfold Oper.wp
     rw [ex_bs (u := u) rfl (by rw [ev_same (by simp only [put_size]; omega)]) (hbs _), Oper.upon_value]
     refine hK _ _ ?_
     exact tail F (by kernel_rfl) (by kernel_rfl) (by kernel_rfl) (by kernel_rfl) hnt (by simp only [put_size]; omega) (by simp only [ev_other (show n ≠ t by omega), ev_other (show n ≠ t + 1 by omega), ev_other (show n ≠ t + 2 by omega), ev_other (show n ≠ t + 3 by omega), ev_other (show n ≠ t + 4 by omega)]; exact hn) (by rw [ev_other (by omega), ev_other (by omega), ev_same (by simp only [put_size]; omega)]) (by rw [ev_same (by simp only [put_size]; omega)]) hcs hone hc1 hf1 hown hne hbase hml hby hgo
   · exact hc _ (by simp only [put_defers])
 · rw [if_pos (by kernel_rfl)]
   unfold Oper.wp
   rw [ex_call (u := pv) rfl (by rw [ev_same (by rw [put_size]; omega)]) rfl (F.cf _), Oper.upon_enter]
   refine call.mono ?_
   rintro e w1 (⟨u, cs, rfl, hbs, hcs, hone, hc1, hf1, hown, hne, hbase, hml, hby, hgo⟩ | ⟨c, rfl, hc⟩)
   · refine hK _ _ ?_
     clear hK
     rw [Act.put_comm ((a.put (some t) (.pointer (some ⟨nb, off, none⟩))).put (some (t + 2)) pv) (x := some (t + 1)) (y := some (t + 3)) v u (by simp)] at hgo
     refine wpAny_ready (rs := [1, 4]) (by kernel_rfl) (by simp) ?_
     refine AllReady.cons (o := o1 t lt pos) rfl (fun K hK => ?_) (AllReady.cons (o := o4 t lt pos) rfl (fun K hK => ?_) AllReady.nil)
     · rw [if_pos (by kernel_rfl)]
       unfold Oper.wp
       rw [ex_ld (u := .pointer (some ⟨nb, off, none⟩)) rfl (by rw [ev_other (by omega), ev_other (by omega), ev_same (by omega)]) (F.ld _ _ hc1), Oper.upon_value]
       refine hK _ _ ?_
       clear hK
       refine wpAny_ready (rs := [4]) (by kernel_rfl) (by simp) ?_
       refine AllReady.cons (o := o4 t lt pos) rfl (fun K hK => ?_) AllReady.nil
       rw [if_pos (by kernel_rfl)]
       unfold Oper.wp
       rw [ex_bs (u := u) rfl (by rw [ev_other (by omega), ev_same (by simp only [put_size]; omega)]) (hbs _), Oper.upon_value]
       refine hK _ _ ?_
       exact tail F (by kernel_rfl) (by kernel_rfl) (by kernel_rfl) (by kernel_rfl) hnt (by simp only [put_size]; omega) (by simp only [ev_other (show n ≠ t by omega), ev_other (show n ≠ t + 1 by omega), ev_other (show n ≠ t + 2 by omega), ev_other (show n ≠ t + 3 by omega), ev_other (show n ≠ t + 4 by omega)]; exact hn) (by rw [ev_other (by omega), ev_same (by simp only [put_size]; omega)]) (by rw [ev_same (by simp only [put_size]; omega)]) hcs hone hc1 hf1 hown hne hbase hml hby hgo
     · rw [if_pos (by kernel_rfl)]
       unfold Oper.wp
       rw [ex_bs (u := u) rfl (by rw [ev_same (by simp only [put_size]; omega)]) (hbs _), Oper.upon_value]
       refine hK _ _ ?_
       clear hK
       have hc2 : (w1.alloc (.cells cs et)).cell? ⟨nb, off, none⟩ = some v := by rw [World.cell?_alloc_some _ _ _ (by rw [hc1]; rfl)]; exact hc1
       rw [Act.put_comm _ (x := some (t + 1)) (y := some (t + 4)) v _ (by simp)] at hgo
       refine wpAny_ready (rs := [1]) (by kernel_rfl) (by simp) ?_
       refine AllReady.cons (o := o1 t lt pos) rfl (fun K hK => ?_) AllReady.nil
       rw [if_pos (by kernel_rfl)]
       unfold Oper.wp
       rw [ex_ld (u := .pointer (some ⟨nb, off, none⟩)) rfl (by rw [ev_other (by omega), ev_other (by omega), ev_other (by omega), ev_same (by omega)]) (F.ld _ _ hc2), Oper.upon_value]
       refine hK _ _ ?_
       exact tail F (by kernel_rfl) (by kernel_rfl) (by kernel_rfl) (by kernel_rfl) hnt (by simp only [put_size]; omega) (by simp only [ev_other (show n ≠ t by omega), ev_other (show n ≠ t + 1 by omega), ev_other (show n ≠ t + 2 by omega), ev_other (show n ≠ t + 3 by omega), ev_other (show n ≠ t + 4 by omega)]; exact hn) (by rw [ev_same (by simp only [put_size]; omega)]) (by rw [ev_other (by omega), ev_same (by simp only [put_size]; omega)]) hcs hone hc1 hf1 hown hne hbase hml hby hgo
   · exact hc _ (by simp only [put_defers])
@[reducible] def giveOps (n r t : Nat) (nt : TypeId) (pos : String) : Array Oper :=
 #[{ dst := some t, op := .load nt (.tmp n), type := nt, pos := pos, after := #[], guard := none },
   { dst := none, op := .store nt (.tmp r) (.tmp t), type := 0, pos := pos, after := #[dat 0, { on := 0, ground := .phase }], guard := none }]
theorem wpOp_go {ops : Array Oper} {i : Nat} {o : Oper} {K : Act → World → Prop} {a : Act} {w : World} (ho : ops[i]? = some o) (hw : Region.wanted o (yielded ops a.tmps) = true) (h : o.wp P a w K Q) : wpOp P ops Q i K a w := by
 unfold wpOp
 rw [ho]
 simp only [hw, if_true]
 exact .inl h
theorem give {n r t : Nat} {nt : TypeId} {pos : String} {id : Nat} {a : Act} {w : World} {nb rb : Nat} {cs old : Array Value} {T T2 : TypeId} {d : TypeDesc}
   (row : w.heap[nb]? = some (.cells cs T (0, 0))) (res : w.heap[rb]? = some (.cells old T2 (0, 0)))
   (hu : P.underlying nt = some d) (hd : (match d with | .struct _ | .array _ _ => true | _ => false) = true) (hi : (P.info? nt).map (·.size) = some cs.size) (ho : old.size = cs.size) (h1 : cs.all (·.oneCell') = true)
   (hn : a.eval (.tmp n) = .pointer (some ⟨nb, 0, none⟩)) (hr : a.eval (.tmp r) = .pointer (some ⟨rb, 0, none⟩)) (hrt : r ≠ t) (ht : t < a.tmps.size)
   (h : Q .normal ((a.put (some t) (.agg cs)).put none undef) (w.setRow rb cs)) : (Code.region id (giveOps n r t nt pos) false).wp P Q a w := by
 have hl : (Instr.loadAt nt (.pointer (some ⟨nb, 0, none⟩))).run P w = .ok (.agg cs) w := by
   simp only [Instr.loadAt, Instr.sureAddr, Sem.run_bind, Sem.run_pure, Result.andThen_ok, run_loadVar_row w nb T nt cs (0, 0) d row hu hd hi]
 have hs : (Instr.storeAt nt (.pointer (some ⟨rb, 0, none⟩)) (.agg cs)).run P w = .ok () (w.setRow rb cs) := by
   simp only [Instr.storeAt, Instr.sureAddr, Sem.run_bind, Sem.run_pure, Result.andThen_ok, run_storeVar_row w rb T2 nt old cs res hi ho h1]
 refine wp_region ?_
 show wpOps P (giveOps n r t nt pos) Q [0, 1] a w
 rw [wpOps_cons]
 refine wpOp_go (o := { dst := some t, op := .load nt (.tmp n), type := nt, pos := pos, after := #[], guard := none }) rfl (by kernel_rfl) ?_
 unfold Oper.wp
 rw [ex_ld (u := .pointer (some ⟨nb, 0, none⟩)) rfl hn hl, Oper.upon_value, wpOps_cons]
 refine wpOp_go (o := { dst := none, op := .store nt (.tmp r) (.tmp t), type := 0, pos := pos, after := #[dat 0, { on := 0, ground := .phase }], guard := none }) rfl (by kernel_rfl) ?_
 unfold Oper.wp
 rw [ex_st (u := .pointer (some ⟨rb, 0, none⟩)) (v := .agg cs) rfl (by rw [ev_other hrt]; exact hr) (by rw [ev_same ht]) hs, Oper.upon_skip]
 exact h
@[reducible] def firstOps (n r t fo : Nat) (nt lt : TypeId) (pos : String) : Array Oper :=
 #[{ dst := some t, op := .fieldAddr nt (.tmp n) fo, type := 0, pos := pos, after := #[], guard := none },
   { dst := some (t + 1), op := .load lt (.tmp t), type := lt, pos := pos, after := #[dat 0], guard := none },
   { dst := some (t + 2), op := .indexAddr lt (.tmp (t + 1)) (.const (.int .i64 0)), type := 0, pos := pos, after := #[dat 1], guard := none },
   { dst := some (t + 3), op := .load nt (.tmp (t + 2)), type := nt, pos := pos, after := #[dat 2], guard := none },
   { dst := none, op := .store nt (.tmp r) (.tmp (t + 3)), type := 0, pos := pos, after := #[dat 3, { on := 0, ground := .phase }, { on := 1, ground := .phase }, { on := 2, ground := .phase }, { on := 3, ground := .phase }], guard := none }]
theorem ex_ix {ev : Operand → Value} {o : Oper} {T : TypeId} {x y : Operand} {u u2 v : Value} {w : World} (ho : o.op = .indexAddr T x y) (hx : ev x = u) (hy : ev y = u2) (h : (Instr.indexAt T u u2).run P w = .ok v w) : (execOp ev o).run P w = .ok (.value v) w := by
 unfold execOp
 simp only [ho, hx, hy, Sem.run_bind, h, Result.andThen_ok, Sem.run_pure]
theorem first {n r t fo off : Nat} {nt lt : TypeId} {pos : String} {id : Nat} {a : Act} {w : World} {nb rb : Nat} {cells : List Value} {old : Array Value} {T2 : TypeId} {d : TypeDesc} {v ea : Value} {kg ko : Nat}
   (fa : (Instr.fieldAt nt (.pointer (some ⟨nb, 0, none⟩)) fo).run P w = .ok (.pointer (some ⟨nb, off, none⟩)) w)
   (ld : (Instr.loadAt lt (.pointer (some ⟨nb, off, none⟩))).run P w = .ok v w)
   (ix : (Instr.indexAt lt v (.int .i64 0)).run P w = .ok ea w) (hea : ea = .pointer (some ⟨kg, ko, none⟩))
   (hc : w.rangeAt kg ko cells) (hu : P.underlying nt = some d) (hd : d.isRow = true) (hi : (P.info? nt).map (·.size) = some cells.length)
   (res : w.heap[rb]? = some (.cells old T2 (0, 0))) (ho : old.size = cells.length) (h1 : cells.toArray.all (·.oneCell') = true)
   (hn : a.eval (.tmp n) = .pointer (some ⟨nb, 0, none⟩)) (hr : a.eval (.tmp r) = .pointer (some ⟨rb, 0, none⟩)) (hrt : r < t) (ht : t + 3 < a.tmps.size)
   (h : Q .normal (((((a.put (some t) (.pointer (some ⟨nb, off, none⟩))).put (some (t + 1)) v).put (some (t + 2)) ea).put (some (t + 3)) (.agg cells.toArray)).put none undef) (w.setRow rb cells.toArray)) : (Code.region id (firstOps n r t fo nt lt pos) false).wp P Q a w := by
 subst hea
 have hl : (Instr.loadAt nt (.pointer (some ⟨kg, ko, none⟩))).run P w = .ok (.agg cells.toArray) w := run_loadAt_mid w kg ko nt cells d hc hu hd hi
 have hs : (Instr.storeAt nt (.pointer (some ⟨rb, 0, none⟩)) (.agg cells.toArray)).run P w = .ok () (w.setRow rb cells.toArray) := by
   simp only [Instr.storeAt, Instr.sureAddr, Sem.run_bind, Sem.run_pure, Result.andThen_ok, run_storeVar_row w rb T2 nt old cells.toArray res (by simpa using hi) (by simpa using ho) h1]
 refine wp_region ?_
 show wpOps P (firstOps n r t fo nt lt pos) Q [0, 1, 2, 3, 4] a w
 rw [wpOps_cons]
 refine wpOp_go (o := { dst := some t, op := .fieldAddr nt (.tmp n) fo, type := 0, pos := pos, after := #[], guard := none }) rfl (by kernel_rfl) ?_
 unfold Oper.wp
 rw [ex_fa (u := .pointer (some ⟨nb, 0, none⟩)) rfl hn fa, Oper.upon_value, wpOps_cons]
 refine wpOp_go (o := { dst := some (t + 1), op := .load lt (.tmp t), type := lt, pos := pos, after := #[dat 0], guard := none }) rfl (by kernel_rfl) ?_
 unfold Oper.wp
 rw [ex_ld (u := .pointer (some ⟨nb, off, none⟩)) rfl (ev_same (by omega)) ld, Oper.upon_value, wpOps_cons]
 refine wpOp_go (o := { dst := some (t + 2), op := .indexAddr lt (.tmp (t + 1)) (.const (.int .i64 0)), type := 0, pos := pos, after := #[dat 1], guard := none }) rfl (by kernel_rfl) ?_
 unfold Oper.wp
 rw [ex_ix (u := v) (u2 := .int .i64 0) rfl (ev_same (by rw [put_size]; omega)) rfl ix, Oper.upon_value, wpOps_cons]
 refine wpOp_go (o := { dst := some (t + 3), op := .load nt (.tmp (t + 2)), type := nt, pos := pos, after := #[dat 2], guard := none }) rfl (by kernel_rfl) ?_
 unfold Oper.wp
 rw [ex_ld (u := .pointer (some ⟨kg, ko, none⟩)) rfl (ev_same (by simp only [put_size]; omega)) hl, Oper.upon_value, wpOps_cons]
 refine wpOp_go (o := { dst := none, op := .store nt (.tmp r) (.tmp (t + 3)), type := 0, pos := pos, after := #[dat 3, { on := 0, ground := .phase }, { on := 1, ground := .phase }, { on := 2, ground := .phase }, { on := 3, ground := .phase }], guard := none }) rfl (by kernel_rfl) ?_
 unfold Oper.wp
 rw [ex_st (u := .pointer (some ⟨rb, 0, none⟩)) (v := .agg cells.toArray) rfl (by simp only [ev_other (show r ≠ t by omega), ev_other (show r ≠ t + 1 by omega), ev_other (show r ≠ t + 2 by omega), ev_other (show r ≠ t + 3 by omega)]; exact hr) (by rw [ev_same (by simp only [put_size]; omega)]) hs, Oper.upon_skip]
 exact h
end App
end
section
open Go.RowKit Tx
namespace Sy
open Lx (Tok tv tvs tvs_at Qt pan)
open Wx (Pt LV Nw parts)
def Fr (n0 : Nat) (bz : Nat → Prop) (b : Nat) : Prop := n0 ≤ b ∧ ¬ bz b
abbrev CellsOf (α : Type) := (Nat → Prop) → World → List Value → List α → Prop
structure Stable {α : Type} (C : CellsOf α) : Prop where
 same : ∀ {P Q : Nat → Prop} {w w' : World}, (∀ b, P b → b < w.heap.size → Q b ∧ w'.heap[b]? = w.heap[b]?) → w.heap.size ≤ w'.heap.size → ∀ {xs l}, C P w xs l → C Q w' xs l
 app : ∀ {P : Nat → Prop} {w : World} {xs ys l m}, C P w xs l → C P w ys m → C P w (xs ++ ys) (l ++ m)
 nil : ∀ {P : Nat → Prop} {w : World}, C P w [] []
theorem nc_stable : Stable (α := Nd) NC := ⟨fun hk hs _ _ h => h.same hk hs, fun h1 h2 => h1.append h2, .nil⟩
theorem wc_app {P : Nat → Prop} {w : World} {ys : List Value} {m : List (List Pt)} (h2 : WC P w ys m) : ∀ {xs : List Value} {l : List (List Pt)}, WC P w xs l → WC P w (xs ++ ys) (l ++ m)
 | _, _, .nil => h2
 | _, _, .cons v p xs l h1 h hr => .cons v p _ _ h1 h (wc_app h2 hr)
theorem ac_app {P : Nat → Prop} {w : World} {ys : List Value} {m : List (List UInt8 × List Pt)} (h2 : AC P w ys m) : ∀ {xs : List Value} {l : List (List UInt8 × List Pt)}, AC P w xs l → AC P w (xs ++ ys) (l ++ m)
 | _, _, .nil => h2
 | _, _, .cons n v p xs l h1 h hr => .cons n v p _ _ h1 h (ac_app h2 hr)
theorem wc_stable : Stable (α := List Pt) WC := ⟨fun hk hs _ _ h => h.same hk hs, fun h1 h2 => wc_app h2 h1, .nil⟩
theorem ac_stable : Stable (α := List UInt8 × List Pt) AC := ⟨fun hk hs _ _ h => h.same hk hs, fun h1 h2 => ac_app h2 h1, .nil⟩
def OCw : CellsOf (List UInt8) := fun _ _ xs l => OC xs l
theorem oc_stable : Stable OCw := ⟨fun _ _ _ _ h => h, fun h1 h2 => by unfold OCw OC at *; rw [h1, h2, List.map_append], rfl⟩
structure Gr {α : Type} (bz : Nat → Prop) (w : World) (n0 : Nat) (et : TypeId) (size : Nat) (C : CellsOf α) (v : Value) (l : List α) : Prop where
 own : ∃ xs, w.ownsRow n0 et size v l.length xs ∧ C (Fr n0 bz) w xs l
 busy : ∀ o, v.ownBlock = some o → bz o
theorem Gr.nil {α : Type} {C : CellsOf α} (S : Stable C) (bz : Nat → Prop) (w : World) (n0 : Nat) (et : TypeId) (size : Nat) : Gr bz w n0 et size C (.slice none 0 0) [] := ⟨⟨[], World.ownsRow_nil _ _ _ _, S.nil⟩, fun o h => by cases h⟩
theorem own_lt {w : World} {B n size : Nat} {e : TypeId} {v : Value} {xs : List Value} (h : w.ownsRow B e size v n xs) : ∀ g, v.ownBlock = some g → B ≤ g ∧ g < w.heap.size := by
 intro g hg
 rcases h.2 with ⟨rfl, _⟩ | ⟨k, cap, cur, rfl, hB, hk, _⟩
 · cases hg
 · injection hg with hg
   have : k = g := hg
   subst this
   exact ⟨hB, (Array.getElem?_eq_some_iff.1 hk).1⟩
theorem own_keep {w w' : World} {B n size : Nat} {e : TypeId} {v : Value} {xs : List Value} (h : w.ownsRow B e size v n xs) (hb : ∀ g, v.ownBlock = some g → w'.heap[g]? = w.heap[g]?) : w'.ownsRow B e size v n xs := by
 refine ⟨h.1, ?_⟩
 rcases h.2 with h0 | ⟨g, cap, cur, rfl, hB, hg, r⟩
 · exact .inl h0
 · exact .inr ⟨g, cap, cur, rfl, hB, (hb g rfl).trans hg, r⟩
section
variable {α : Type} {C : CellsOf α} {bz bz' : Nat → Prop} {w w' : World} {n0 size : Nat} {et : TypeId} {v : Value} {l : List α}
theorem Gr.lt (h : Gr bz w n0 et size C v l) : ∀ o, v.ownBlock = some o → n0 ≤ o ∧ o < w.heap.size := by
 obtain ⟨⟨xs, ho, _⟩, _⟩ := h
 exact own_lt ho
theorem Gr.on (S : Stable C) (h : Gr bz w n0 et size C v l) {B : Nat → Prop} (ho : Only B w w') (hB : ∀ b, n0 ≤ b → B b → bz b) (hv : ∀ o, v.ownBlock = some o → ¬ B o) (hm : ∀ b, bz b → bz' b) (hm2 : ∀ b, b < w.heap.size → bz' b → bz b) : Gr bz' w' n0 et size C v l := by
 obtain ⟨⟨xs, hx, hc⟩, hb⟩ := h
 refine ⟨⟨xs, own_keep hx fun g hg => ho.block g (own_lt hx g hg).2 (hv g hg), S.same (fun b hP hl => ?_) ho.size hc⟩, fun o h => hm o (hb o h)⟩
 exact ⟨⟨hP.1, fun hz => hP.2 (hm2 b hl hz)⟩, ho.block b hl fun h => hP.2 (hB b hP.1 h)⟩
theorem Gr.slice (h : Gr bz w n0 et size C v l) : ∃ A k, v = .slice A l.length k := by
 obtain ⟨⟨xs, hx, _⟩, _⟩ := h
 rcases hx.2 with ⟨rfl, h0⟩ | ⟨g, cap, cur, rfl, _⟩
 · exact ⟨none, 0, by rw [h0]⟩
 · exact ⟨_, _, rfl⟩
theorem Gr.read (S : Stable C) (h : Gr bz w n0 et size C v l) (_hs : 0 < size) : SL (fun b => n0 ≤ b) w (C (fun b => n0 ≤ b) w) v l := by
 obtain ⟨⟨xs, hx, hc⟩, _⟩ := h
 have hc : C (fun b => n0 ≤ b) w xs l := S.same (fun b hP _ => ⟨hP.1, rfl⟩) (Nat.le_refl _) hc
 rcases hx.2 with ⟨rfl, h0⟩ | ⟨g, cap, cur, rfl, hB, hg, hnc, hcm, hcs, htake⟩
 · have hl := List.eq_nil_of_length_eq_zero h0
   subst hl
   exact .nil none 0 (fun _ => rfl)
 · refine .at g 0 _ cap xs l rfl hnc hB (Array.getElem?_eq_some_iff.1 hg).1 (fun j u hu => ?_) hc
   rw [Nat.zero_add, cell_of_row w g j cur _ (0, 0) hg]
   rw [← htake, List.getElem?_take] at hu
   split at hu
   · simpa using hu
   · cases hu
end
theorem PM.low {w w' : World} {g d : Nat} {ts : List Tok} (h : PM w g d ts) (hb : ∀ i, i ≤ g → i < w.heap.size → w'.heap[i]? = w.heap[i]?) (hs : w.heap.size ≤ w'.heap.size) : PM w' g d ts := by
 have hlt := h.lt
 have hk := h.kit.lt
 have ha := h.ahead
 obtain ⟨A, k, m, hrw, ht, hm, hmg⟩ := h.row
 exact ⟨⟨A, k, m, (hb g (Nat.le_refl _) hlt).trans hrw, ht.same (fun i hi hl => hb i (by omega) hl) hs, hm.same (hb m (by omega) hm.lt), hmg⟩, h.kit.keep (hb _ (by have := ha.1; omega) hk.1) (hb _ (by have := ha.2; omega) hk.2), ha, h.good, h.few, h.short, h.deep⟩
set_option maxHeartbeats 2000000 in
theorem grow {α : Type} {C : CellsOf α} (S : Stable C) {Q : Exit → Act → World → Prop} {n p t fo off : Nat} {nt lt et pt rt : TypeId} {f : FuncId} {pos : String} {id : Nat} {a : Act} {w : World} {nb g n0 d : Nat} {ts : List Tok} {ti : TypeInfo} {z v : Value} {size bytes : Nat} {cs : Array Value} {l : List α} {bz : Nat → Prop} {T : TypeId} {val : World → World → Value → α → Prop} {r : R α}
   (hQ : ∀ (d : Option Nat) (x : Value) (c : List PanicEntry) (a : Act) (w : World), Q (.panic c) (a.put d x) w → Q (.panic c) a w)
   (F : App.Fits Tryz.prog nt lt et pt fo off f nb ti z size bytes (.pointer (some ⟨g, 0, none⟩)))
   (f0 : Region.free .any (App.ops n p t fo nt lt pt rt f pos) (Array.replicate 8 false) 0 = true)
   (f2 : Region.free .any (App.ops n p t fo nt lt pt rt f pos) ((Array.replicate 8 false).setIfInBounds 0 true) 2 = true)
   (hnt : n < t) (hpt : p < t) (hts : t + 6 < a.tmps.size)
   (hn : a.eval (.tmp n) = .pointer (some ⟨nb, 0, none⟩)) (hp : a.eval (.tmp p) = .pointer (some ⟨g, 0, none⟩))
   (row : w.heap[nb]? = some (.cells cs T (0, 0))) (hc : cs[off]? = some v) (HG : Gr bz w n0 et size C v l) (HP : PM w g d ts) (hzl : ∀ b, bz b → b < w.heap.size) (hn0 : n0 = nb + 1) (hg0 : g < nb) (hl : l.length ≤ 100000) (hby : bytes ≤ 1000)
   (call : ∀ W, PM W g d ts → Calls Tryz.prog f #[.pointer (some ⟨g, 0, none⟩)] W (RE W g d (val W) r))
   (hval : ∀ W w' u x, W.heap.size ≤ w'.heap.size → val W w' u x → ∃ cells : Array Value, (∀ W2, (Instr.buildSlice lt 1 #[(0, u)]).run Tryz.prog W2 = .ok (.slice (some ⟨W2.heap.size, 0, none⟩) 1 1) (W2.alloc (.cells cells et))) ∧ cells.size = size ∧ (∀ y ∈ cells.toList, y.oneCell' = true) ∧ C (Nw W.heap.size) w' cells.toList [x])
   (hno : ∀ c w2, r = .error c → Kept (Only (· = g) w w2) → ∀ a' : Act, a'.defers = a.defers → Q (.panic (pan c)) a' w2)
   (hok : ∀ x us, r = .ok (x, us) → ∀ (w2 : World) (v' : Value) (bz' : Nat → Prop) (u s q : Value), Kept (w2.heap[nb]? = some (.cells (cs.setIfInBounds off v') T (0, 0))) → Kept (Gr bz' w2 n0 et size C v' (l ++ [x])) → Kept (PM w2 g d us) → (∀ b, bz b → bz' b) → (∀ b, b < w.heap.size → bz' b → bz b) → (∀ b, bz' b → b < w2.heap.size) →
     Kept (Only (fun b => b = g ∨ b = nb ∨ v.ownBlock = some b) w w2) → (∀ o, v'.ownBlock = some o → v.ownBlock = some o ∨ w.heap.size ≤ o) →
     Q .normal (((((((a.put (some t) (.pointer (some ⟨nb, off, none⟩))).put (some (t + 2)) (.pointer (some ⟨g, 0, none⟩))).put (some (t + 1)) v).put (some (t + 3)) u).put (some (t + 4)) s).put (some (t + 5)) v').put (some (t + 6)) q) w2) :
   (Code.region id (App.ops n p t fo nt lt pt rt f pos) true).wp Tryz.prog Q a w := by
 have hcell : w.cell? ⟨nb, off, none⟩ = some v := by rw [cell_of_row _ _ off _ _ _ row]; exact hc
 have hlt : nb < w.heap.size := (Array.getElem?_eq_some_iff.1 row).1
 have hgn : nb ≠ g := by omega
 obtain ⟨⟨xs, hx, hxc⟩, hbz⟩ := HG
 have hv : v.ownBlock ≠ some nb := fun e => by have := (own_lt hx nb e).1; omega
 refine App.region (base := n0) (len := l.length) (xs := xs) hQ (by kernel_rfl) F f0 f2 hnt hpt hts hn hp hcell ?_
 refine (call w.drew HP.drew).mono ?_
 intro e w1 hE
 cases r with
 | error c =>
   obtain ⟨rfl, ho⟩ := hE
   exact .inr ⟨_, rfl, hno c w1 rfl ⟨⟨ho.out.os, ho.out.tape, ho.out.output, ho.out.size, ho.out.block⟩⟩⟩
 | ok y =>
   obtain ⟨x, us⟩ := y
   obtain ⟨u, rfl, hvl, hpm, ho⟩ := hE
   have ho' : Only (· = g) w w1 := ⟨ho.out.os, ho.out.tape, ho.out.output, ho.out.size, ho.out.block⟩
   obtain ⟨cells, h1, h2, h3, h4⟩ := hval w.drew w1 u x ho.out.size hvl.out
   have hrow1 : w1.heap[nb]? = some (.cells cs T (0, 0)) := (ho'.block nb hlt hgn).trans row
   have hx1 : w1.ownsRow n0 et size v l.length xs := own_keep hx fun o h => ho'.block o (own_lt hx o h).2 (by have := (own_lt hx o h).1; omega)
   refine .inl ⟨u, cells, rfl, h1, h2, h3, by rw [cell_of_row _ _ off _ _ _ hrow1]; exact hc, frozen_of_row _ _ off _ _ hrow1, hx1, fun o h e => hv (by rw [h, e]), by have := ho'.size; omega, by unfold maxLen; omega, ?_, ?_⟩
   · calc (l.length + 1) * bytes ≤ 100001 * 1000 := Nat.mul_le_mul (by omega) hby
       _ ≤ 140737488355328 := by decide
   intro v' w2 ho2 hg2 hlies _ q
   have hsz : w1.heap.size + 1 ≤ w2.heap.size := by have := hg2.size; simpa using this
   have hs1 := ho'.size
   have hown : ∀ o, v.ownBlock = some o → n0 ≤ o ∧ o < w.heap.size := own_lt hx
   have hkeep : ∀ i, i < w1.heap.size → v.ownBlock ≠ some i → w2.heap[i]? = w1.heap[i]? := fun i hi hne => (hg2.block i (by simp; omega) (fun e => hne e.symm)).trans (Below.heap_alloc w1 _ i hi)
   have hkeep2 : ∀ i, i ≠ nb → (w2.setCell ⟨nb, off, none⟩ v').heap[i]? = w2.heap[i]? := fun i hi => Below.heap_setCell w2 _ _ i hi
   have hkeep3 : ∀ i, i < w.heap.size → i ≠ g → i ≠ nb → v.ownBlock ≠ some i → (w2.setCell ⟨nb, off, none⟩ v').heap[i]? = w.heap[i]? := fun i hi h1 h2 h3 => (hkeep2 i h2).trans ((hkeep i (by omega) h3).trans (ho'.block i hi h1))
   have hrow2 : w2.heap[nb]? = some (.cells cs T (0, 0)) := (hkeep nb (by omega) hv).trans hrow1
   have hvn : v'.ownBlock ≠ some nb := fun e => by
     rcases hlies nb e with h | h
     · exact hv h
     · omega
   have hsz3 : (w2.setCell ⟨nb, off, none⟩ v').heap.size = w2.heap.size := by simp [World.setCell]
   refine hok x us rfl (w2.setCell ⟨nb, off, none⟩ v') v' (fun b => bz b ∨ v'.ownBlock = some b) u _ q ⟨?_⟩ ⟨⟨⟨xs ++ cells.toList, ?_, ?_⟩, fun o h => .inr h⟩⟩ ⟨?_⟩ (fun b h => .inl h) (fun b hb h => ?_) (fun b h => ?_) ⟨?_⟩ (fun o h => ?_)
   · have := heap_setCell_same w2 nb off _ _ v' hrow2
     simpa using this
   · rw [List.length_append]
     exact own_keep ho2 fun o h => hkeep2 o fun e => hvn (by rw [h, e])
   · refine S.app (S.same (fun b hP hl => ?_) (by omega) hxc) (S.same (fun b hP hl => ?_) (by omega) h4)
     · have hb2 : v.ownBlock ≠ some b := fun e => hP.2 (hbz b e)
       refine ⟨⟨hP.1, fun h => ?_⟩, hkeep3 b hl (by have := hP.1; omega) (by have := hP.1; omega) hb2⟩
       rcases h with h | h
       · exact hP.2 h
       · rcases hlies b h with h | h
         · exact hb2 h
         · omega
     · have hP : w.heap.size ≤ b := hP
       have hb2 : v.ownBlock ≠ some b := fun e => by have := hown b e; omega
       refine ⟨⟨by omega, fun h => ?_⟩, (hkeep2 b (by omega)).trans (hkeep b hl hb2)⟩
       rcases h with h | h
       · have := hzl b h; omega
       · rcases hlies b h with h | h
         · exact hb2 h
         · omega
   · exact hpm.out.low (fun i hi hl => (hkeep2 i (by omega)).trans (hkeep i hl fun e => by have := hown i e; omega)) (by omega)
   · rcases h with h | h
     · exact h
     · rcases hlies b h with h | h
       · exact hbz b h
       · omega
   · rw [hsz3]
     rcases h with h | h
     · have := hzl b h; omega
     · exact (own_lt ho2 b h).2
   · refine ⟨?_, ?_, ?_, by omega, fun i hi hn => hkeep3 i hi (fun e => hn (.inl e)) (fun e => hn (.inr (.inl e))) (fun e => hn (.inr (.inr e)))⟩
     · exact (show _ = _ from hg2.os).trans ho'.os
     · exact (show _ = _ from hg2.tape).trans ho'.tape
     · exact (show _ = _ from hg2.output).trans ho'.output
   · rcases hlies o h with h | h
     · exact .inl h
     · exact .inr (by omega)
end Sy
end
end Go.Proofs.YtahjonfmhejoeaaGreatDoor
