/-
  Parts of the proof, merged.
-/
import Derived.Test.YtahjonfmhejoeaaGreatDoorVa30
import Derived.Test.YtahjonfmhejoeaaGreatDoorVa33
namespace Go.Proofs.YtahjonfmhejoeaaGreatDoor
section
namespace App2
open App (dat ev_same ev_other put_size put_defers ex_fa ex_mv ex_ld ex_bs ex_st)
variable {P : Program} {Q : Exit → Act → World → Prop}
theorem ex_mk {ev : Operand → Value} {o : Oper} {fn : FuncId} {x : Operand} {u : Value} {w : World} (ho : o.op = .makeFunc (.func fn) #[x] #[]) (hx : ev x = u) : (execOp ev o).run P w = .ok (.value (.func (.func fn) #[u] #[])) w := by
 unfold execOp
 simp only [ho, List.map_toArray, List.map_cons, List.map_nil, hx, Sem.run_bind, Sem.run_pure]
 rfl
theorem ex_call2 {ev : Operand → Value} {o : Oper} {f : FuncId} {x y : Operand} {ty ty2 : TypeId} {u u2 : Value} {w : World} (ho : o.op = .call { callee := .value (.func f), args := #[x, y], argTypes := #[ty, ty2] }) (hx : ev x = u) (hy : ev y = u2) (hf : ev (.func f) = .func (.func f) #[] #[]) (h : (callFunc f #[u, u2]).run P w = .ok (.enter f #[u, u2]) w) : (execOp ev o).run P w = .ok (.enter f #[u, u2]) w := by
 unfold execOp
 simp only [ho, resolve, hf, Deferred.ofValue, List.map_toArray, List.map_cons, List.map_nil, hx, hy, Sem.run_bind, Result.andThen_ok, Sem.run_pure, invoke]
 simpa using h
@[reducible] def o0 (n t fo : Nat) (nt : TypeId) (pos : String) : Oper := { dst := some t, op := .fieldAddr nt (.tmp n) fo, type := 0, pos := pos, after := #[], guard := none }
@[reducible] def o1 (t : Nat) (lt : TypeId) (pos : String) : Oper := { dst := some (t + 1), op := .load lt (.tmp t), type := lt, pos := pos, after := #[dat 0], guard := none }
@[reducible] def o2 (p t : Nat) (pt : TypeId) (pos : String) : Oper := { dst := some (t + 2), op := .move (.tmp p), type := pt, pos := pos, after := #[], guard := none }
@[reducible] def om (p t : Nat) (pt : TypeId) (pos : String) : Oper := { dst := some (t + 3), op := .move (.tmp p), type := pt, pos := pos, after := #[], guard := none }
@[reducible] def ok (t : Nat) (ft : TypeId) (fn : FuncId) (pos : String) : Oper := { dst := some (t + 4), op := .makeFunc (.func fn) #[.tmp (t + 3)] #[], type := ft, pos := pos, after := #[dat 3], guard := none }
@[reducible] def o3 (t : Nat) (pt ft rt : TypeId) (f : FuncId) (pos : String) : Oper := { dst := some (t + 5), op := .call { callee := .value (.func f), args := #[.tmp (t + 2), .tmp (t + 4)], argTypes := #[pt, ft] }, type := rt, pos := pos, after := #[dat 2, dat 4], guard := none }
@[reducible] def o4 (t : Nat) (lt : TypeId) (pos : String) : Oper := { dst := some (t + 6), op := .buildSlice lt 1 #[(0, .tmp (t + 5))], type := lt, pos := pos, after := #[dat 5], guard := none }
@[reducible] def o5 (t : Nat) (lt : TypeId) (pos : String) : Oper := { dst := some (t + 7), op := .call { callee := .builtin .append, args := #[.tmp (t + 1), .tmp (t + 6)], argTypes := #[lt, lt] }, type := lt, pos := pos, after := #[dat 1, dat 6, { on := 5, ground := .chain }], guard := none }
@[reducible] def o6 (n t : Nat) (fo : Nat) (nt : TypeId) (pos : String) : Oper := { dst := some (t + 8), op := .fieldAddr nt (.tmp n) fo, type := 0, pos := pos, after := #[{ on := 0, ground := .phase }, { on := 1, ground := .phase }, { on := 2, ground := .phase }, { on := 3, ground := .phase }, { on := 4, ground := .phase }, { on := 5, ground := .phase }, { on := 6, ground := .phase }, { on := 7, ground := .phase }], guard := none }
@[reducible] def o7 (t : Nat) (lt : TypeId) (pos : String) : Oper := { dst := none, op := .store lt (.tmp (t + 8)) (.tmp (t + 7)), type := 0, pos := pos, after := #[dat 8, dat 7, { on := 7, ground := .chain }, { on := 0, ground := .phase }, { on := 1, ground := .phase }, { on := 2, ground := .phase }, { on := 3, ground := .phase }, { on := 4, ground := .phase }, { on := 5, ground := .phase }, { on := 6, ground := .phase }, { on := 7, ground := .phase }], guard := none }
@[reducible] def ops (n p t : Nat) (fo : Nat) (nt lt pt ft rt : TypeId) (f fn : FuncId) (pos : String) : Array Oper :=
 #[o0 n t fo nt pos, o1 t lt pos, o2 p t pt pos, om p t pt pos, ok t ft fn pos, o3 t pt ft rt f pos, o4 t lt pos, o5 t lt pos, o6 n t fo nt pos, o7 t lt pos]
set_option maxHeartbeats 1000000 in
theorem tail {n p t fo off : Nat} {nt lt et pt ft rt : TypeId} {f fn f0n : FuncId} {pos : String} {A : Act} {w1 : World} {nb : Nat} {ti : TypeInfo} {z : Value} {size bytes : Nat} {pv v : Value} {base len : Nat} {xs : List Value} {cs : Array Value} {listed : Array Bool}
   (F : App.Fits P nt lt et pt fo off f0n nb ti z size bytes pv)
   (h5 : Region.ready .any (ops n p t fo nt lt pt ft rt f fn pos) listed = [7]) (h6 : Region.ready .any (ops n p t fo nt lt pt ft rt f fn pos) (listed.setIfInBounds 7 true) = [8])
   (h7 : Region.ready .any (ops n p t fo nt lt pt ft rt f fn pos) ((listed.setIfInBounds 7 true).setIfInBounds 8 true) = [9]) (h8 : Region.ready .any (ops n p t fo nt lt pt ft rt f fn pos) (((listed.setIfInBounds 7 true).setIfInBounds 8 true).setIfInBounds 9 true) = [])
   (hnt : n < t) (hts : t + 8 < A.tmps.size)
   (hn : A.eval (.tmp n) = .pointer (some ⟨nb, 0, none⟩)) (h1 : A.eval (.tmp (t + 1)) = v) (h4 : A.eval (.tmp (t + 6)) = .slice (some ⟨w1.heap.size, 0, none⟩) 1 1)
   (hcs : cs.size = size) (hone : ∀ x ∈ cs.toList, x.oneCell' = true)
   (hc1 : w1.cell? ⟨nb, off, none⟩ = some v) (hf1 : w1.frozen? ⟨nb, off, none⟩ = false) (hown : w1.ownsRow base et size v len xs) (hne : ∀ g, v.ownBlock = some g → g ≠ nb) (hbase : base ≤ w1.heap.size) (hml : len + 1 ≤ maxLen) (hby : (len + 1) * bytes ≤ 140737488355328)
   (hgo : ∀ v' w2, w2.ownsRow base et size v' (len + 1) (xs ++ cs.toList) → (w1.alloc (.cells cs et)).grownBy w2 v.ownBlock → (∀ o, v'.ownBlock = some o → v.ownBlock = some o ∨ o = w1.heap.size + 1) → (w2.cell? ⟨nb, off, none⟩).isSome = true → ∀ q, Q .normal ((A.put (some (t + 7)) v').put (some (t + 8)) q) (w2.setCell ⟨nb, off, none⟩ v')) :
   wpAny P .any (ops n p t fo nt lt pt ft rt f fn pos) Q 3 listed A (w1.alloc (.cells cs et)) := by
 have hc2 : (w1.alloc (.cells cs et)).cell? ⟨nb, off, none⟩ = some v := by rw [World.cell?_alloc_some _ _ _ (by rw [hc1]; rfl)]; exact hc1
 refine wpAny_ready h5 (by simp) ?_
 refine AllReady.cons (o := o5 t lt pos) rfl (fun K hK => ?_) AllReady.nil
 rw [if_pos (by kernel_rfl)]
 have hlt : nb < w1.heap.size := World.block_lt_of_cell? w1 _ hc1
 have hown2 : (w1.alloc (.cells cs et)).ownsRow base et size v len xs := by
   refine ⟨hown.1, ?_⟩
   rcases hown.2 with h0 | ⟨g, cap, cur, rfl, hB, hg, r⟩
   · exact .inl h0
   · exact .inr ⟨g, cap, cur, rfl, hB, (Go.RowKit.Below.heap_alloc w1 _ g (Array.getElem?_eq_some_iff.1 hg).1).trans hg, r⟩
 refine wp_append_lies (w1.alloc (.cells cs et)) (Operand.tmp (t + 1)) (Operand.tmp (t + 6)) lt rfl base et ti z size bytes F.un F.inf F.zero F.sz F.by_ F.zs F.pos v len xs h1 hown2 ⟨w1.heap.size, 0, none⟩ 1 1 cs.toList h4 (by simp [hcs]) ?_ hone (by omega) hml hby (by simp; omega) (w1.heap.size + 1) (by simp) ?_
 · intro j x hx
   have : (⟨w1.heap.size, 0, none⟩ : Addr).add j = ⟨w1.heap.size, j, none⟩ := by unfold Addr.add; split <;> simp_all
   rw [this, cell_of_row _ _ j _ _ (0, 0) (heap_alloc_new w1 _)]
   simpa using hx
 intro gg cap w2 ho2 hg2 hlies _
 obtain ⟨v', hv'e⟩ : ∃ v', v' = Value.slice (some ⟨gg, 0, none⟩) (len + 1) cap := ⟨_, rfl⟩
 have hl' : ∀ o, v'.ownBlock = some o → v.ownBlock = some o ∨ o = w1.heap.size + 1 := fun o h => by
   rw [hv'e] at h
   injection h with h
   have h : gg = o := h
   rw [← h]; exact hlies
 rw [← hv'e] at ho2 ⊢
 have hb2 : w2.heap[nb]? = (w1.alloc (.cells cs et)).heap[nb]? := hg2.block nb (by simp; omega) (fun e => hne _ e.symm rfl)
 have hc3 : w2.cell? ⟨nb, off, none⟩ = some v := (World.cell?_of_block (w := w1.alloc (.cells cs et)) (a := ⟨nb, off, none⟩) hb2).trans hc2
 have hf3 : w2.frozen? ⟨nb, off, none⟩ = false := by
   rw [show w2.frozen? ⟨nb, off, none⟩ = w1.frozen? ⟨nb, off, none⟩ from ?_]
   · exact hf1
   · have : w2.heap[nb]? = w1.heap[nb]? := hb2.trans (Go.RowKit.Below.heap_alloc w1 _ nb hlt)
     simp only [World.frozen?, this]
 refine hK _ _ ?_
 clear hK
 refine wpAny_ready h6 (by simp) ?_
 refine AllReady.cons (o := o6 n t fo nt pos) rfl (fun K hK => ?_) AllReady.nil
 rw [if_pos (by kernel_rfl)]
 unfold Oper.wp
 rw [ex_fa (u := .pointer (some ⟨nb, 0, none⟩)) rfl (by rw [ev_other (by omega)]; exact hn) (F.fa _), Oper.upon_value]
 refine hK _ _ ?_
 clear hK
 refine wpAny_ready h7 (by simp) ?_
 refine AllReady.cons (o := o7 t lt pos) rfl (fun K hK => ?_) AllReady.nil
 rw [if_pos (by kernel_rfl)]
 unfold Oper.wp
 rw [ex_st (u := .pointer (some ⟨nb, off, none⟩)) (v := v') rfl (by rw [ev_same (by simp only [put_size]; omega)]) (by rw [ev_other (by omega), ev_same (by omega)]) (by rw [hv'e]; exact F.st _ _ _ _ _ hc3 hf3), Oper.upon_skip, ← hv'e]
 refine hK _ _ ?_
 exact wpAny_done h8 (hgo v' w2 ho2 hg2 hl' (by rw [hc3]; rfl) _) _
set_option maxHeartbeats 2000000 in
theorem region {n p t fo off : Nat} {nt lt et pt ft rt : TypeId} {f fn f0n : FuncId} {pos : String} {id : Nat} {a : Act} {w : World} {nb : Nat} {ti : TypeInfo} {z : Value} {size bytes : Nat} {pv v : Value} {base len : Nat} {xs : List Value}
   (hQ : ∀ (d : Option Nat) (x : Value) (c : List PanicEntry) (a : Act) (w : World), Q (.panic c) (a.put d x) w → Q (.panic c) a w) (hm : P.follows .mixedOrders = true) (F : App.Fits P nt lt et pt fo off f0n nb ti z size bytes pv)
   (f0 : Region.free .any (ops n p t fo nt lt pt ft rt f fn pos) (Array.replicate 10 false) 0 = true)
   (f2 : Region.free .any (ops n p t fo nt lt pt ft rt f fn pos) ((Array.replicate 10 false).setIfInBounds 0 true) 2 = true)
   (f3 : Region.free .any (ops n p t fo nt lt pt ft rt f fn pos) (((Array.replicate 10 false).setIfInBounds 0 true).setIfInBounds 2 true) 3 = true)
   (f4 : Region.free .any (ops n p t fo nt lt pt ft rt f fn pos) ((((Array.replicate 10 false).setIfInBounds 0 true).setIfInBounds 2 true).setIfInBounds 3 true) 4 = true)
   (hcf : ∀ W, (callFunc f #[pv, .func (.func fn) #[pv] #[]]).run P W = .ok (.enter f #[pv, .func (.func fn) #[pv] #[]]) W)
   (hnt : n < t) (hpt : p < t) (hts : t + 8 < a.tmps.size)
   (hn : a.eval (.tmp n) = .pointer (some ⟨nb, 0, none⟩)) (hp : a.eval (.tmp p) = pv)
   (hc : w.cell? ⟨nb, off, none⟩ = some v)
   (call : Calls P f #[pv, .func (.func fn) #[pv] #[]] w.drew fun e w1 =>
     (∃ u cs, e = .returned u ∧ (∀ W, (Instr.buildSlice lt 1 #[(0, u)]).run P W = .ok (.slice (some ⟨W.heap.size, 0, none⟩) 1 1) (W.alloc (.cells cs et))) ∧ cs.size = size ∧ (∀ x ∈ cs.toList, x.oneCell' = true) ∧
       w1.cell? ⟨nb, off, none⟩ = some v ∧ w1.frozen? ⟨nb, off, none⟩ = false ∧ w1.ownsRow base et size v len xs ∧ (∀ g, v.ownBlock = some g → g ≠ nb) ∧ base ≤ w1.heap.size ∧ len + 1 ≤ maxLen ∧ (len + 1) * bytes ≤ 140737488355328 ∧
       ∀ v' w2, w2.ownsRow base et size v' (len + 1) (xs ++ cs.toList) → (w1.alloc (.cells cs et)).grownBy w2 v.ownBlock → (∀ o, v'.ownBlock = some o → v.ownBlock = some o ∨ o = w1.heap.size + 1) → (w2.cell? ⟨nb, off, none⟩).isSome = true → ∀ q, Q .normal (((((((((a.put (some t) (.pointer (some ⟨nb, off, none⟩))).put (some (t + 2)) pv).put (some (t + 3)) pv).put (some (t + 4)) (.func (.func fn) #[pv] #[])).put (some (t + 1)) v).put (some (t + 5)) u).put (some (t + 6)) (.slice (some ⟨w1.heap.size, 0, none⟩) 1 1)).put (some (t + 7)) v').put (some (t + 8)) q) (w2.setCell ⟨nb, off, none⟩ v')) ∨
     (∃ c, e = .panicked c ∧ ∀ a' : Act, a'.defers = a.defers → Q (.panic c) a' w1)) :
   (Code.region id (ops n p t fo nt lt pt ft rt f fn pos) true).wp P Q a w := by
 refine wp_region_any hm ?_
 change wpAny P .any _ Q _ _ a w.drew
 have hc' : w.drew.cell? ⟨nb, off, none⟩ = some v := hc
 refine wpAny_take (i := 0) (oi := o0 n t fo nt pos) (v := .pointer (some ⟨nb, off, none⟩)) rfl (by kernel_rfl) f0 (by kernel_rfl) (fun c a w h => hQ _ _ c a w h) (.inl ⟨by kernel_rfl, fun w' => ex_fa rfl hn (F.fa w')⟩) ?_
 refine wpAny_take (i := 2) (oi := o2 p t pt pos) (v := pv) rfl (by kernel_rfl) f2 (by kernel_rfl) (fun c a w h => hQ _ _ c a w h) (.inl ⟨by kernel_rfl, fun w' => ex_mv rfl (by rw [ev_other (by omega)]; exact hp)⟩) ?_
 refine wpAny_take (i := 3) (oi := om p t pt pos) (v := pv) rfl (by kernel_rfl) f3 (by kernel_rfl) (fun c a w h => hQ _ _ c a w h) (.inl ⟨by kernel_rfl, fun w' => ex_mv rfl (by rw [ev_other (by omega), ev_other (by omega)]; exact hp)⟩) ?_
 refine wpAny_take (i := 4) (oi := ok t ft fn pos) (v := .func (.func fn) #[pv] #[]) rfl (by kernel_rfl) f4 (by kernel_rfl) (fun c a w h => hQ _ _ c a w h) (.inl ⟨by kernel_rfl, fun w' => ex_mk rfl (ev_same (by simp only [put_size]; omega))⟩) ?_
 refine wpAny_ready (rs := [1, 5]) (by kernel_rfl) (by simp) ?_
 refine AllReady.cons (o := o1 t lt pos) rfl (fun K hK => ?_) (AllReady.cons (o := o3 t pt ft rt f pos) rfl (fun K hK => ?_) AllReady.nil)
 · rw [if_pos (by kernel_rfl)]
   unfold Oper.wp
   rw [ex_ld (u := .pointer (some ⟨nb, off, none⟩)) rfl (by simp only [ev_other (show t ≠ t + 2 by omega), ev_other (show t ≠ t + 3 by omega), ev_other (show t ≠ t + 4 by omega)]; exact ev_same (by omega)) (F.ld _ _ hc'), Oper.upon_value]
   refine hK _ _ ?_
   clear hK
   refine wpAny_ready (rs := [5]) (by kernel_rfl) (by simp) ?_
   refine AllReady.cons (o := o3 t pt ft rt f pos) rfl (fun K hK => ?_) AllReady.nil
   rw [if_pos (by kernel_rfl)]
   unfold Oper.wp
   rw [ex_call2 (u := pv) (u2 := .func (.func fn) #[pv] #[]) rfl (by simp only [ev_other (show t + 2 ≠ t + 1 by omega), ev_other (show t + 2 ≠ t + 3 by omega), ev_other (show t + 2 ≠ t + 4 by omega)]; exact ev_same (by rw [put_size]; omega)) (by simp only [ev_other (show t + 4 ≠ t + 1 by omega)]; exact ev_same (by simp only [put_size]; omega)) rfl (hcf _), Oper.upon_enter]
   refine call.mono ?_
   rintro e w1 (⟨u, cs, rfl, hbs, hcs, hone, hc1, hf1, hown, hne, hbase, hml, hby, hgo⟩ | ⟨c, rfl, hc⟩)
   · refine hK _ _ ?_
     clear hK
     refine wpAny_ready (rs := [6]) (by kernel_rfl) (by simp) ?_
     refine AllReady.cons (o := o4 t lt pos) rfl (fun K hK => ?_) AllReady.nil
     rw [if_pos (by kernel_rfl)]
     unfold Oper.wp
     rw [ex_bs (u := u) rfl (by rw [ev_same (by simp only [put_size]; omega)]) (hbs _), Oper.upon_value]
     refine hK _ _ ?_
     exact tail F (by kernel_rfl) (by kernel_rfl) (by kernel_rfl) (by kernel_rfl) hnt (by simp only [put_size]; omega) (by simp only [ev_other (show n ≠ t by omega), ev_other (show n ≠ t + 1 by omega), ev_other (show n ≠ t + 2 by omega), ev_other (show n ≠ t + 3 by omega), ev_other (show n ≠ t + 4 by omega), ev_other (show n ≠ t + 5 by omega), ev_other (show n ≠ t + 6 by omega)]; exact hn) (by rw [ev_other (by omega), ev_other (by omega), ev_same (by simp only [put_size]; omega)]) (by rw [ev_same (by simp only [put_size]; omega)]) hcs hone hc1 hf1 hown hne hbase hml hby hgo
   · exact hc _ (by simp only [put_defers])
 · rw [if_pos (by kernel_rfl)]
   unfold Oper.wp
   rw [ex_call2 (u := pv) (u2 := .func (.func fn) #[pv] #[]) rfl (by simp only [ev_other (show t + 2 ≠ t + 3 by omega), ev_other (show t + 2 ≠ t + 4 by omega)]; exact ev_same (by rw [put_size]; omega)) (ev_same (by simp only [put_size]; omega)) rfl (hcf _), Oper.upon_enter]
   refine call.mono ?_
   rintro e w1 (⟨u, cs, rfl, hbs, hcs, hone, hc1, hf1, hown, hne, hbase, hml, hby, hgo⟩ | ⟨c, rfl, hc⟩)
   · refine hK _ _ ?_
     clear hK
     rw [Act.put_comm ((((a.put (some t) (.pointer (some ⟨nb, off, none⟩))).put (some (t + 2)) pv).put (some (t + 3)) pv).put (some (t + 4)) (.func (.func fn) #[pv] #[])) (x := some (t + 1)) (y := some (t + 5)) v u (by simp)] at hgo
     refine wpAny_ready (rs := [1, 6]) (by kernel_rfl) (by simp) ?_
     refine AllReady.cons (o := o1 t lt pos) rfl (fun K hK => ?_) (AllReady.cons (o := o4 t lt pos) rfl (fun K hK => ?_) AllReady.nil)
     · rw [if_pos (by kernel_rfl)]
       unfold Oper.wp
       rw [ex_ld (u := .pointer (some ⟨nb, off, none⟩)) rfl (by simp only [ev_other (show t ≠ t + 2 by omega), ev_other (show t ≠ t + 3 by omega), ev_other (show t ≠ t + 4 by omega), ev_other (show t ≠ t + 5 by omega)]; exact ev_same (by omega)) (F.ld _ _ hc1), Oper.upon_value]
       refine hK _ _ ?_
       clear hK
       refine wpAny_ready (rs := [6]) (by kernel_rfl) (by simp) ?_
       refine AllReady.cons (o := o4 t lt pos) rfl (fun K hK => ?_) AllReady.nil
       rw [if_pos (by kernel_rfl)]
       unfold Oper.wp
       rw [ex_bs (u := u) rfl (by rw [ev_other (by omega), ev_same (by simp only [put_size]; omega)]) (hbs _), Oper.upon_value]
       refine hK _ _ ?_
       exact tail F (by kernel_rfl) (by kernel_rfl) (by kernel_rfl) (by kernel_rfl) hnt (by simp only [put_size]; omega) (by simp only [ev_other (show n ≠ t by omega), ev_other (show n ≠ t + 1 by omega), ev_other (show n ≠ t + 2 by omega), ev_other (show n ≠ t + 3 by omega), ev_other (show n ≠ t + 4 by omega), ev_other (show n ≠ t + 5 by omega), ev_other (show n ≠ t + 6 by omega)]; exact hn) (by rw [ev_other (by omega), ev_same (by simp only [put_size]; omega)]) (by rw [ev_same (by simp only [put_size]; omega)]) hcs hone hc1 hf1 hown hne hbase hml hby hgo
     · rw [if_pos (by kernel_rfl)]
       unfold Oper.wp
       rw [ex_bs (u := u) rfl (by rw [ev_same (by simp only [put_size]; omega)]) (hbs _), Oper.upon_value]
       refine hK _ _ ?_
       clear hK
       have hc2 : (w1.alloc (.cells cs et)).cell? ⟨nb, off, none⟩ = some v := by rw [World.cell?_alloc_some _ _ _ (by rw [hc1]; rfl)]; exact hc1
       rw [Act.put_comm _ (x := some (t + 1)) (y := some (t + 6)) v _ (by simp)] at hgo
       refine wpAny_ready (rs := [1]) (by kernel_rfl) (by simp) ?_
       refine AllReady.cons (o := o1 t lt pos) rfl (fun K hK => ?_) AllReady.nil
       rw [if_pos (by kernel_rfl)]
       unfold Oper.wp
       rw [ex_ld (u := .pointer (some ⟨nb, off, none⟩)) rfl (by simp only [ev_other (show t ≠ t + 2 by omega), ev_other (show t ≠ t + 3 by omega), ev_other (show t ≠ t + 4 by omega), ev_other (show t ≠ t + 5 by omega), ev_other (show t ≠ t + 6 by omega)]; exact ev_same (by omega)) (F.ld _ _ hc2), Oper.upon_value]
       refine hK _ _ ?_
       exact tail F (by kernel_rfl) (by kernel_rfl) (by kernel_rfl) (by kernel_rfl) hnt (by simp only [put_size]; omega) (by simp only [ev_other (show n ≠ t by omega), ev_other (show n ≠ t + 1 by omega), ev_other (show n ≠ t + 2 by omega), ev_other (show n ≠ t + 3 by omega), ev_other (show n ≠ t + 4 by omega), ev_other (show n ≠ t + 5 by omega), ev_other (show n ≠ t + 6 by omega)]; exact hn) (by rw [ev_same (by simp only [put_size]; omega)]) (by rw [ev_other (by omega), ev_same (by simp only [put_size]; omega)]) hcs hone hc1 hf1 hown hne hbase hml hby hgo
   · exact hc _ (by simp only [put_defers])
end App2
end
section
open Go.RowKit Tx
namespace Sy
open Lx (Tok tv tvs tvs_at Qt pan)
open Wx (Pt LV Nw parts)
set_option maxHeartbeats 2000000 in
theorem grow2 {α : Type} {C : CellsOf α} (S : Stable C) {Q : Exit → Act → World → Prop} {n p t fo off : Nat} {nt lt et pt ft rt : TypeId} {f fn f0n : FuncId} {pos : String} {id : Nat} {a : Act} {w : World} {nb g n0 d : Nat} {ts : List Tok} {ti : TypeInfo} {z v : Value} {size bytes : Nat} {cs : Array Value} {l : List α} {bz : Nat → Prop} {T : TypeId} {val : World → World → Value → α → Prop} {r : R α}
   (hQ : ∀ (d : Option Nat) (x : Value) (c : List PanicEntry) (a : Act) (w : World), Q (.panic c) (a.put d x) w → Q (.panic c) a w)
   (F : App.Fits Tryz.prog nt lt et pt fo off f0n nb ti z size bytes (.pointer (some ⟨g, 0, none⟩)))
   (f0 : Region.free .any (App2.ops n p t fo nt lt pt ft rt f fn pos) (Array.replicate 10 false) 0 = true)
   (f2 : Region.free .any (App2.ops n p t fo nt lt pt ft rt f fn pos) ((Array.replicate 10 false).setIfInBounds 0 true) 2 = true)
   (f3 : Region.free .any (App2.ops n p t fo nt lt pt ft rt f fn pos) (((Array.replicate 10 false).setIfInBounds 0 true).setIfInBounds 2 true) 3 = true)
   (f4 : Region.free .any (App2.ops n p t fo nt lt pt ft rt f fn pos) ((((Array.replicate 10 false).setIfInBounds 0 true).setIfInBounds 2 true).setIfInBounds 3 true) 4 = true)
   (hcf : ∀ W, (callFunc f #[.pointer (some ⟨g, 0, none⟩), .func (.func fn) #[.pointer (some ⟨g, 0, none⟩)] #[]]).run Tryz.prog W = .ok (.enter f #[.pointer (some ⟨g, 0, none⟩), .func (.func fn) #[.pointer (some ⟨g, 0, none⟩)] #[]]) W)
   (hnt : n < t) (hpt : p < t) (hts : t + 8 < a.tmps.size)
   (hn : a.eval (.tmp n) = .pointer (some ⟨nb, 0, none⟩)) (hp : a.eval (.tmp p) = .pointer (some ⟨g, 0, none⟩))
   (row : w.heap[nb]? = some (.cells cs T (0, 0))) (hc : cs[off]? = some v) (HG : Gr bz w n0 et size C v l) (HP : PM w g d ts) (hzl : ∀ b, bz b → b < w.heap.size) (hn0 : n0 = nb + 1) (hg0 : g < nb) (hl : l.length ≤ 100000) (hby : bytes ≤ 1000)
   (call : ∀ W, PM W g d ts → Calls Tryz.prog f #[.pointer (some ⟨g, 0, none⟩), .func (.func fn) #[.pointer (some ⟨g, 0, none⟩)] #[]] W (RE W g d (val W) r))
   (hval : ∀ W w' u x, W.heap.size ≤ w'.heap.size → val W w' u x → ∃ cells : Array Value, (∀ W2, (Instr.buildSlice lt 1 #[(0, u)]).run Tryz.prog W2 = .ok (.slice (some ⟨W2.heap.size, 0, none⟩) 1 1) (W2.alloc (.cells cells et))) ∧ cells.size = size ∧ (∀ y ∈ cells.toList, y.oneCell' = true) ∧ C (Nw W.heap.size) w' cells.toList [x])
   (hno : ∀ c w2, r = .error c → Kept (Only (· = g) w w2) → ∀ a' : Act, a'.defers = a.defers → Q (.panic (pan c)) a' w2)
   (hok : ∀ x us, r = .ok (x, us) → ∀ (w2 : World) (v' : Value) (bz' : Nat → Prop) (u s q : Value), Kept (w2.heap[nb]? = some (.cells (cs.setIfInBounds off v') T (0, 0))) → Kept (Gr bz' w2 n0 et size C v' (l ++ [x])) → Kept (PM w2 g d us) → (∀ b, bz b → bz' b) → (∀ b, b < w.heap.size → bz' b → bz b) → (∀ b, bz' b → b < w2.heap.size) →
     Kept (Only (fun b => b = g ∨ b = nb ∨ v.ownBlock = some b) w w2) → (∀ o, v'.ownBlock = some o → v.ownBlock = some o ∨ w.heap.size ≤ o) →
     Q .normal (((((((((a.put (some t) (.pointer (some ⟨nb, off, none⟩))).put (some (t + 2)) (.pointer (some ⟨g, 0, none⟩))).put (some (t + 3)) (.pointer (some ⟨g, 0, none⟩))).put (some (t + 4)) (.func (.func fn) #[.pointer (some ⟨g, 0, none⟩)] #[])).put (some (t + 1)) v).put (some (t + 5)) u).put (some (t + 6)) s).put (some (t + 7)) v').put (some (t + 8)) q) w2) :
   (Code.region id (App2.ops n p t fo nt lt pt ft rt f fn pos) true).wp Tryz.prog Q a w := by
 have hcell : w.cell? ⟨nb, off, none⟩ = some v := by rw [cell_of_row _ _ off _ _ _ row]; exact hc
 have hlt : nb < w.heap.size := (Array.getElem?_eq_some_iff.1 row).1
 have hgn : nb ≠ g := by omega
 obtain ⟨⟨xs, hx, hxc⟩, hbz⟩ := HG
 have hv : v.ownBlock ≠ some nb := fun e => by have := (own_lt hx nb e).1; omega
 refine App2.region (base := n0) (len := l.length) (xs := xs) hQ (by kernel_rfl) F f0 f2 f3 f4 hcf hnt hpt hts hn hp hcell ?_
 refine (call w.drew HP.drew).mono ?_
 intro e w1 hE
 cases r with
 | error c =>
   obtain ⟨rfl, ho⟩ := hE
   exact .inr ⟨_, rfl, hno c w1 rfl ⟨⟨ho.out.os, ho.out.tape, ho.out.output, ho.out.size, ho.out.block⟩⟩⟩
 | ok y =>
   obtain ⟨x, us⟩ := y
   obtain ⟨u, rfl, hvl, hpm, ho⟩ := hE
   have ho' : Only (· = g) w w1 := ⟨ho.out.os, ho.out.tape, ho.out.output, ho.out.size, ho.out.block⟩
   obtain ⟨cells, h1, h2, h3, h4⟩ := hval w.drew w1 u x ho.out.size hvl.out
   have hrow1 : w1.heap[nb]? = some (.cells cs T (0, 0)) := (ho'.block nb hlt hgn).trans row
   have hx1 : w1.ownsRow n0 et size v l.length xs := own_keep hx fun o h => ho'.block o (own_lt hx o h).2 (by have := (own_lt hx o h).1; omega)
   refine .inl ⟨u, cells, rfl, h1, h2, h3, by rw [cell_of_row _ _ off _ _ _ hrow1]; exact hc, frozen_of_row _ _ off _ _ hrow1, hx1, fun o h e => hv (by rw [h, e]), by have := ho'.size; omega, by unfold maxLen; omega, ?_, ?_⟩
   · calc (l.length + 1) * bytes ≤ 100001 * 1000 := Nat.mul_le_mul (by omega) hby
       _ ≤ 140737488355328 := by decide
   intro v' w2 ho2 hg2 hlies _ q
   have hsz : w1.heap.size + 1 ≤ w2.heap.size := by have := hg2.size; simpa using this
   have hs1 := ho'.size
   have hown : ∀ o, v.ownBlock = some o → n0 ≤ o ∧ o < w.heap.size := own_lt hx
   have hkeep : ∀ i, i < w1.heap.size → v.ownBlock ≠ some i → w2.heap[i]? = w1.heap[i]? := fun i hi hne => (hg2.block i (by simp; omega) (fun e => hne e.symm)).trans (Below.heap_alloc w1 _ i hi)
   have hkeep2 : ∀ i, i ≠ nb → (w2.setCell ⟨nb, off, none⟩ v').heap[i]? = w2.heap[i]? := fun i hi => Below.heap_setCell w2 _ _ i hi
   have hkeep3 : ∀ i, i < w.heap.size → i ≠ g → i ≠ nb → v.ownBlock ≠ some i → (w2.setCell ⟨nb, off, none⟩ v').heap[i]? = w.heap[i]? := fun i hi h1 h2 h3 => (hkeep2 i h2).trans ((hkeep i (by omega) h3).trans (ho'.block i hi h1))
   have hrow2 : w2.heap[nb]? = some (.cells cs T (0, 0)) := (hkeep nb (by omega) hv).trans hrow1
   have hvn : v'.ownBlock ≠ some nb := fun e => by
     rcases hlies nb e with h | h
     · exact hv h
     · omega
   have hsz3 : (w2.setCell ⟨nb, off, none⟩ v').heap.size = w2.heap.size := by simp [World.setCell]
   refine hok x us rfl (w2.setCell ⟨nb, off, none⟩ v') v' (fun b => bz b ∨ v'.ownBlock = some b) u _ q ⟨?_⟩ ⟨⟨⟨xs ++ cells.toList, ?_, ?_⟩, fun o h => .inr h⟩⟩ ⟨?_⟩ (fun b h => .inl h) (fun b hb h => ?_) (fun b h => ?_) ⟨?_⟩ (fun o h => ?_)
   · have := heap_setCell_same w2 nb off _ _ v' hrow2
     simpa using this
   · rw [List.length_append]
     exact own_keep ho2 fun o h => hkeep2 o fun e => hvn (by rw [h, e])
   · refine S.app (S.same (fun b hP hl => ?_) (by omega) hxc) (S.same (fun b hP hl => ?_) (by omega) h4)
     · have hb2 : v.ownBlock ≠ some b := fun e => hP.2 (hbz b e)
       refine ⟨⟨hP.1, fun h => ?_⟩, hkeep3 b hl (by have := hP.1; omega) (by have := hP.1; omega) hb2⟩
       rcases h with h | h
       · exact hP.2 h
       · rcases hlies b h with h | h
         · exact hb2 h
         · omega
     · have hP : w.heap.size ≤ b := hP
       have hb2 : v.ownBlock ≠ some b := fun e => by have := hown b e; omega
       refine ⟨⟨by omega, fun h => ?_⟩, (hkeep2 b (by omega)).trans (hkeep b hl hb2)⟩
       rcases h with h | h
       · have := hzl b h; omega
       · rcases hlies b h with h | h
         · exact hb2 h
         · omega
   · exact hpm.out.low (fun i hi hl => (hkeep2 i (by omega)).trans (hkeep i hl fun e => by have := hown i e; omega)) (by omega)
   · rcases h with h | h
     · exact h
     · rcases hlies b h with h | h
       · exact hbz b h
       · omega
   · rw [hsz3]
     rcases h with h | h
     · have := hzl b h; omega
     · exact (own_lt ho2 b h).2
   · refine ⟨?_, ?_, ?_, by omega, fun i hi hn => hkeep3 i hi (fun e => hn (.inl e)) (fun e => hn (.inr (.inl e))) (fun e => hn (.inr (.inr e)))⟩
     · exact (show _ = _ from hg2.os).trans ho'.os
     · exact (show _ = _ from hg2.tape).trans ho'.tape
     · exact (show _ = _ from hg2.output).trans ho'.output
   · rcases hlies o h with h | h
     · exact .inl h
     · exact .inr (by omega)
end Sy
end
end Go.Proofs.YtahjonfmhejoeaaGreatDoor
