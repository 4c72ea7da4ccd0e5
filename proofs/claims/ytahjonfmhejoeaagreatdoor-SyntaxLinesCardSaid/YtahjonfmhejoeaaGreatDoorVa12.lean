/-
  Parts of the proof, merged.
-/
import Derived.BigRegion
import Derived.Laws.DeepStrings4
import Derived.Test.YtahjonfmhejoeaaGreatDoorVa11
namespace Go.Proofs.YtahjonfmhejoeaaGreatDoor
section
open Go.RowKit Tx
namespace Lx
def tv (t : Tok) : List Value := [.int .i64 t.kind, .string (bs t.text)]
def tvs (l : List Tok) : List Value := l.flatMap tv
theorem tvs_cons (p : Tok) (t : List Tok) : tvs (p :: t) = tv p ++ tvs t := rfl
theorem tvs_snoc (l : List Tok) (x : Tok) : tvs (l ++ [x]) = tvs l ++ tv x := by simp [tvs]
theorem tvs_length (t : List Tok) : (tvs t).length = t.length * 2 := by
 induction t with
 | nil => rfl
 | cons p t ih => rw [tvs_cons, List.length_append, ih]; simp [tv]; omega
theorem tvs_at {l : List Tok} {j : Nat} (hj : j < l.length) : (tvs l)[j * 2]? = some (.int .i64 l[j].kind) ∧ (tvs l)[j * 2 + 1]? = some (.string (bs l[j].text)) := by
 induction l generalizing j with
 | nil => simp at hj
 | cons p t ih =>
   cases j with
   | zero => exact ⟨rfl, rfl⟩
   | succ j =>
     rw [tvs_cons]
     have h2 : (tv p).length = 2 := rfl
     have := ih (j := j) (by simpa using hj)
     rw [List.getElem?_append_right (by omega), List.getElem?_append_right (by omega), h2]
     rw [show (j + 1) * 2 - 2 = j * 2 by omega, show (j + 1) * 2 + 1 - 2 = j * 2 + 1 by omega]
     exact this
theorem tv_one (x : Tok) : ∀ u ∈ tv x, u.oneCell' = true := by
 intro u hp
 simp only [tv, List.mem_cons, List.not_mem_nil, or_false] at hp
 rcases hp with rfl | rfl <;> rfl
theorem tokInfo : (Tryz.prog.info? 92).map (fun i => (i.zero, i.size, i.bytes)) = some (some (.agg #[.int .i64 0, .string ⟨#[]⟩]), 2, 24) := by kernel_rfl
structure TM (w : World) (b : Nat) (s : ByteArray) (p : Nat) (v : Value) (ts : List Tok) : Prop where
 rm : RM w b s p v
 own : w.ownsRow (b + 1) 92 2 v ts.length (tvs ts)
theorem own_keep {w w' : World} {B n size : Nat} {e : TypeId} {v : Value} {xs : List Value} (h : w.ownsRow B e size v n xs) (hb : ∀ g, B ≤ g → g < w.heap.size → w'.heap[g]? = w.heap[g]?) : w'.ownsRow B e size v n xs := by
 refine ⟨h.1, ?_⟩
 rcases h.2 with h0 | ⟨g, cap, cur, rfl, hB, hg, r⟩
 · exact .inl h0
 · exact .inr ⟨g, cap, cur, rfl, hB, (hb g hB (Array.getElem?_eq_some_iff.1 hg).1).trans hg, r⟩
section
variable {w w' : World} {b p q : Nat} {s : ByteArray} {v : Value} {ts : List Tok}
theorem TM.mv (h : TM w b s p v ts) (hm : Kept (RD w' b s q v) ∧ Kept (Only (· = b) w w')) : TM w' b s q v ts :=
 ⟨h.rm.mv hm, own_keep h.own fun g h1 h2 => hm.2.out.block g h2 (by omega)⟩
theorem TM.qt (h : TM w b s p v ts) (hq : Qt w w') : TM w' b s p v ts := h.mv ⟨⟨hq.rd h.rm.rd⟩, ⟨hq.only _⟩⟩
theorem own_ne (h : w.ownsRow (b + 1) 92 2 v ts.length (tvs ts)) : ∀ g, v.ownBlock = some g → b < g := by
 intro g hg
 rcases h.2 with ⟨rfl, _⟩ | ⟨k, cap, cur, rfl, hB, _⟩
 · cases hg
 · injection hg with hg
   have : k = g := hg
   omega
end
theorem own_slice {w : World} {B n size : Nat} {e : TypeId} {v : Value} {xs : List Value} (h : w.ownsRow B e size v n xs) : ∃ A k, v = .slice A n k := by
 rcases h.2 with ⟨rfl, rfl⟩ | ⟨g, cap, cur, rfl, _⟩
 · exact ⟨_, _, rfl⟩
 · exact ⟨_, _, rfl⟩
def Up (b : Nat) (w w' : World) : Prop := Below b w w'
theorem Up.refl (b : Nat) (w : World) : Up b w w := Below.refl _ _
theorem Up.trans {b : Nat} {w w1 w2 : World} (h : Up b w w1) (k : Up b w1 w2) : Up b w w2 := Below.trans h k
theorem Up.only {b : Nat} {w w' : World} (h : Only (· = b) w w') (hb : b ≤ w.heap.size) : Up b w w' := h.toBelow (fun k hk e => by omega) hb
def Added (w : World) (b : Nat) (s : ByteArray) (p : Nat) (ts : List Tok) (e : Ending) (w' : World) : Prop :=
 e = .returned (.tuple #[]) ∧ ∃ v, Kept (TM w' b s p v ts) ∧ Kept (Up b w w')
theorem step_append_own {P : Program} {w : World} {ops : Array Oper} {o : Oper} {a : Go.Act} {K : Go.Act → World → Prop} {Q : Exit → Go.Act → World → Prop} {R : Prop} (hgd : o.guard = none) (s x : Operand) (t : TypeId)
   (ho : o.op = .call { callee := .builtin .append, args := #[s, x], argTypes := #[t, t] })
   (base : Nat) (e : TypeId) (i : TypeInfo) (z : Value) (size bytes : Nat) (ht : P.underlying t = some (.slice e)) (hi : P.info? e = some i) (hz : i.zero = some z)
   (hsize : i.size = size) (hby : i.bytes = bytes) (hzs : z.cells.size = size) (hsz : 0 < size)
   (v : Value) (n : Nat) (xs : List Value) (hs : a.eval s = v) (hown : w.ownsRow base e size v n xs)
   (ad : Addr) (m c : Nat) (news : List Value) (hx : a.eval x = .slice (some ad) m c) (hl : news.length = m * size) (hnews : ∀ j u, news[j]? = some u → w.cell? (ad.add j) = some u) (h1 : ∀ u ∈ news, u.oneCell' = true)
   (h63 : n + m ≤ maxLen) (hbytes : (n + m) * bytes ≤ 140737488355328) (hbase : base ≤ w.heap.size)
   (h : ∀ v' w', w'.ownsRow base e size v' (n + m) (xs ++ news) → w.grownBy w' v.ownBlock → (v' = .slice none 0 0 ↔ v = .slice none 0 0 ∧ m = 0) → K (a.put o.dst v') w') : if Region.wanted o (yielded ops a.tmps) = true then Oper.wp P o a w K Q else R := by
 rw [if_pos (by simp [Region.wanted, hgd])]
 exact wp_append_own w s x t ho base e i z size bytes ht hi hz hsize hby hzs hsz v n xs hs hown ad m c news hx hl hnews h1 h63 hbytes hbase h
theorem grown_rm {w w2 : World} {b p : Nat} {s : ByteArray} {v : Value} {ts : List Tok} {o : Obj} (h : TM w b s p v ts) (hg : (w.alloc o).drew.grownBy w2 v.ownBlock) : RM w2 b s p v := by
 have hk : ∀ i, i ≤ b → i < w.heap.size → w2.heap[i]? = w.heap[i]? := fun i hi hl => by
   refine (hg.block i (by simp; omega) (fun e => ?_)).trans (Below.heap_alloc w o i hl)
   have := own_ne h.own i e.symm
   omega
 have hlt := h.rm.kit.lt
 have hb := h.rm.rd.lt
 exact ⟨h.rm.rd.keep (hk b (Nat.le_refl _) hb), h.rm.kit.keep (hk _ (Nat.le_of_lt h.rm.n0) hlt.1) (hk _ (Nat.le_of_lt h.rm.n1) hlt.2), h.rm.n0, h.rm.n1⟩
theorem added_of {w w2 : World} {b p : Nat} {s : ByteArray} {v v2 : Value} {ts : List Tok} {x : Tok} {o : Obj} (h : TM w b s p v ts) (hg : (w.alloc o).drew.grownBy w2 v.ownBlock) (ho : w2.ownsRow (b + 1) 92 2 v2 (ts.length + 1) (tvs ts ++ tv x)) :
   TM (w2.setCell ⟨b, 2, none⟩ v2) b s p v2 (ts ++ [x]) ∧ Up b w (w2.setCell ⟨b, 2, none⟩ v2) := by
 have hr := grown_rm h hg
 have hb := h.rm.rd.lt
 have hd : ∀ i, i ≠ b → (w2.setCell ⟨b, 2, none⟩ v2).heap[i]? = w2.heap[i]? := fun i hi => Below.heap_setCell w2 _ _ i hi
 refine ⟨⟨⟨⟨?_, hr.rd.le, hr.rd.sz⟩, hr.kit.keep (hd _ (Nat.ne_of_lt hr.n0)) (hd _ (Nat.ne_of_lt hr.n1)), hr.n0, hr.n1⟩, ?_⟩, ?_⟩
 · have := heap_setCell_same w2 b 2 _ _ v2 hr.rd.row; simpa using this
 · rw [List.length_append, tvs_snoc]
   exact own_keep ho fun g h1 _ => hd g (by omega)
 · have hs := hg.size
   simp only [World.size_drew, World.size_alloc] at hs
   refine ⟨hg.os, hg.tape, hg.output, by simp [World.setCell]; omega, fun i hi => ?_⟩
   refine (hd i (by omega)).trans ((hg.block i (by simp; omega) (fun e => ?_)).trans (Below.heap_alloc w o i (by omega)))
   have := own_ne h.own i e.symm
   omega
theorem two_new (w : World) (a c : Value) (ty : TypeId) : ∀ j u, [a, c][j]? = some u → (w.alloc (.cells #[a, c] ty)).drew.cell? ((⟨w.heap.size, 0, none⟩ : Addr).add j) = some u := by
 intro j u hu
 have : (⟨w.heap.size, 0, none⟩ : Addr).add j = ⟨w.heap.size, 0 + j, none⟩ := by unfold Addr.add; split <;> simp_all
 rw [this, Nat.zero_add]
 change (w.alloc (.cells #[a, c] ty)).cell? _ = _
 rw [cell_of_row _ _ j _ _ (0, 0) (heap_alloc_new w _)]
 simpa using hu
set_option maxHeartbeats 4000000 in
set_option maxRecDepth 100000 in
theorem add_any (w : World) (b : Nat) (s : ByteArray) (p0 p : Nat) (v : Value) (ts : List Tok) (k : Int) (h : TM w b s p v ts) (hp : p0 ≤ p) (hl : ts.length ≤ 20000) (x : Tok) (hx : x = ⟨k, ((toL s).drop p0).take (p - p0)⟩) :
   Calls Tryz.prog 88 #[.pointer (some ⟨b, 0, none⟩), .int .i64 k, .int .i64 (p0 : Int)] w (Added w b s p (ts ++ [x])) := by
 obtain ⟨i0, hi, hz0, hz1, hz2⟩ := info_parts tokInfo
 have H := Kept.mk h
 have HO := Kept.mk h.own
 have c0 := h.rm.rd.c0
 have c1 := h.rm.rd.c1
 have c2 := h.rm.rd.c2
 have f2 := h.rm.rd.f2
 have hle := h.rm.rd.le
 have HL := Kept.mk hl
 have HBs := Kept.mk h.rm.rd.lt
 have hsl : ∀ W : World, (Instr.slice 9 (.string s) (some (.int .i64 (p0 : Int))) (some (.int .i64 (p : Int))) none).run Tryz.prog W = .ok (.string (s.extract p0 p)) W := fun W => by
   rw [run_slice_string_if W 9 s .i64 .i64 _ _ Tryz.underlying9, if_pos ⟨by omega, by omega⟩, if_pos ⟨by omega, by omega⟩, Int.toNat_natCast, Int.toNat_natCast]
 have HX : Kept (tv x = [.int .i64 k, .string (s.extract p0 p)]) := ⟨by rw [hx]; unfold tv; rw [← toL_extract, bs_toL]⟩
 clear h hx hle
 go_enter Tryz.func88, Tryz.ntmps88
 go_wp2
 have HOd : Kept ((w.alloc (.cells #[.int .i64 k, .string (s.extract p0 p)] 92)).drew.ownsRow (b + 1) 92 2 v ts.length (tvs ts)) := ⟨own_keep (w := w) (w' := (w.alloc (.cells #[.int .i64 k, .string (s.extract p0 p)] 92)).drew) HO.out fun g _ h2 => Below.heap_alloc w _ g h2⟩
 have c2a : (w.alloc (.cells #[.int .i64 k, .string (s.extract p0 p)] 92)).cell? ⟨b, 2, none⟩ = some v := (World.cell?_of_block (a := ⟨b, 2, none⟩) (Below.heap_alloc w _ b HBs.out)).trans c2
 have c2b : (w.alloc (.cells #[.int .i64 k, .string (s.extract p0 p)] 92)).drew.cell? ⟨b, 2, none⟩ = some v := c2a
 go_region_law (first
   | (refine step_append_own rfl _ _ 46 rfl (b + 1) 92 i0 _ 2 24 Tryz.underlying46 hi hz0 hz1 hz2 rfl (by decide) _ _ _ rfl HOd.out ⟨w.heap.size, 0, none⟩ 1 1 (tv x) rfl rfl (by rw [HX.out]; exact two_new w _ _ _) (tv_one _) (by unfold maxLen; have := HL.out; omega) (by have := HL.out; omega) (by have := HBs.out; simp; omega) ?_
      intro v2 w2 ho2 hg2 hnn
      clear hnn
      obtain ⟨A2, q2, rfl⟩ := own_slice ho2
      have HA : Kept (TM (w2.setCell ⟨b, 2, none⟩ (.slice A2 (ts.length + 1) q2)) b s p (.slice A2 (ts.length + 1) q2) (ts ++ [x]) ∧ Up b w (w2.setCell ⟨b, 2, none⟩ (.slice A2 (ts.length + 1) q2))) := ⟨added_of H.out hg2 ho2⟩
      have HR2 : Kept (RM w2 b s p v) := ⟨grown_rm H.out hg2⟩
      have c2' := HR2.out.rd.c2
      have f2' := HR2.out.rd.f2
      clear ho2 hg2)
   | go_simp)
 all_goals
   refine bodyPost_end (results_none rfl _ _ _) rfl ?_
   exact ⟨rfl, _, ⟨HA.out.1⟩, ⟨HA.out.2⟩⟩
end Lx
end
section
open Go.RowKit Tx
namespace Lx
inductive RE (w : World) (b : Nat) (s : ByteArray) (p : Nat) : Ending → World → Prop
 | on (w' : World) (v : Value) (q : Nat) (ts : List Tok) (ht : Kept (TM w' b s q v ts)) (hp : p < q) (hL : Left (toL s) ts ((toL s).drop q)) (hu : Up b w w') : RE w b s p (.returned (.tuple #[])) w'
 | bad (w' : World) (hn : toks (toL s) = none) (hu : Up b w w') : RE w b s p (.panicked (pan 80)) w'
theorem lead_no (r : ByteArray) (l : List UInt8) (w : World) (hr : Kept (toL r = l)) (hK : Kit w) (h : Kept (lead l = none)) : Calls Tryz.prog 83 #[.string r] w fun e w' => e = .returned (.string ⟨#[]⟩) ∧ w' = w := by
 have := leading_any r w hK
 rw [hr.out, leadS_none h.out] at this
 exact this
theorem lead_yes (r : ByteArray) (l o : List UInt8) (w : World) (hr : Kept (toL r = l)) (hK : Kit w) (h : Kept (lead l = some o)) : Calls Tryz.prog 83 #[.string r] w fun e w' => ∃ x : ByteArray, e = .returned (.string x) ∧ Kept (x = bs o) ∧ x.size = o.length ∧ (x.toList == ([] : List UInt8)) = false ∧ (x.toList != ([] : List UInt8)) = true ∧ w' = w := by
 have := leading_any r w hK
 rw [hr.out, leadS_some h.out] at this
 refine this.mono ?_
 rintro e w' ⟨rfl, rfl⟩
 have hne : ((bs o).toList == ([] : List UInt8)) = false := by
   have h1 := (lead_some h.out).1
   rw [ByteArray.toList_eq]
   cases o with
   | nil => simp at h1
   | cons c o => rfl
 exact ⟨_, rfl, ⟨rfl⟩, bs_size o, hne, by unfold bne; rw [hne]; rfl, rfl⟩
theorem blank35 (w : World) : Calls Tryz.prog 85 #[.int .u8 35] w fun e w' => e = .returned (.bool false) ∧ w' = w := blank_any 35 w false rfl
theorem blank10 (w : World) : Calls Tryz.prog 85 #[.int .u8 10] w fun e w' => e = .returned (.bool false) ∧ w' = w := blank_any 10 w false rfl
theorem plain_of {c : UInt8} (h1 : ¬ (c = 32 ∨ c = 9)) (h2 : c ≠ 35) (h3 : c ≠ 10) : plain c := ⟨fun e => h1 (.inl e), fun e => h1 (.inr e), h2, h3⟩
theorem left_len {s : ByteArray} {p : Nat} {ts : List Tok} (h : Left (toL s) ts ((toL s).drop p)) (hs : s.size ≤ 20000) : ts.length ≤ 20000 := by
 have := h.len
 rw [toL_length] at this
 omega
theorem up_mv {w w' : World} {b p : Nat} {s : ByteArray} {v : Value} {ts : List Tok} (h : TM w b s p v ts) (ho : Only (· = b) w w') : Up b w w' := Up.only ho (Nat.le_of_lt h.rm.rd.lt)
set_option maxHeartbeats 2000000 in
set_option maxRecDepth 100000 in
theorem read_blank (w : World) (b : Nat) (s : ByteArray) (p : Nat) (v : Value) (ts : List Tok) (H : Kept (TM w b s p v ts)) (HL : Kept (Left (toL s) ts ((toL s).drop p))) (hp : p < s.size) (hb : s[p]'hp = 32 ∨ s[p]'hp = 9) :
   Calls Tryz.prog 48 #[.pointer (some ⟨b, 0, none⟩)] w (RE w b s p) := by
 have HP := Kept.mk hp
 have c0 := H.out.rm.rd.c0
 have c1 := H.out.rm.rd.c1
 have z : (p : Int) < s.size := by omega
 have hsz := H.out.rm.rd.sz
 have HB : Kept (true = ((s[p]'hp) == 32 || (s[p]'hp) == 9)) := ⟨by rcases hb with e | e <;> rw [e] <;> rfl⟩
 have HN : Kept (Left (toL s) ts ((toL s).drop (p + 1))) := ⟨Left.blank (c := s[p]'hp) (by rw [← drop_at hp]; exact HL.out) hb⟩
 have HS : Kept (some (p + 1) = if p + 1 ≤ s.size then some (p + 1) else none) := ⟨(if_pos hp).symm⟩
 clear hb
 go_enter Tryz.func48, Tryz.ntmps48
 go_wp2_with fail
 go_quiet (fail)
 generalize hW0 : w.drewN nq = w0
 have H0 : Kept (TM w0 b s p v ts) := ⟨H.out.qt ⟨nq, hW0.symm⟩⟩
 have HU0 : Kept (Up b w w0) := ⟨up_mv H.out (Qt.only ⟨nq, hW0.symm⟩ _)⟩
 clear hW0 c0 c1
 go_wp2_with (first
   | (go_at_call 84; refine (rest_first w0 b s p v H0.out.rm.rd HP.out).mono ?_; rintro e0 w1 ⟨r, rfl, hq, hr, hz, hc0⟩; have H1 := Kept.mk (H0.out.qt hq); have HU1 : Kept (Up b w w1) := ⟨HU0.out.trans (up_mv H0.out (hq.only _))⟩; clear hq hz hc0)
   | (go_at_call 83; refine (leading_any r w1 H1.out.rm.kit).mono ?_; rintro e1 w2 ⟨rfl, rfl⟩; generalize leadS (toL r) = x0)
   | (go_at_call 85; refine (blank_any _ _ true HB.out).mono ?_; rintro e1 w3 ⟨rfl, rfl⟩))
 refine (skip_any _ b s p 1 v H1.out.rm.rd _ HS.out _ rfl).mono ?_
 rintro e1 w3 ⟨rfl, h3, ho3⟩
 have H3 := Kept.mk (H1.out.mv ⟨h3, ho3⟩)
 have HU3 : Kept (Up b w w3) := ⟨HU1.out.trans (up_mv H1.out ho3.out)⟩
 clear h3 ho3
 go_wp2_with fail
 refine bodyPost_end (results_none rfl _ _ _) rfl ?_
 exact .on _ v (p + 1) ts H3 (Nat.lt_succ_self p) HN.out HU3.out
set_option maxHeartbeats 2000000 in
set_option maxRecDepth 100000 in
theorem read_comment (w : World) (b : Nat) (s : ByteArray) (p : Nat) (v : Value) (ts : List Tok) (H : Kept (TM w b s p v ts)) (HL : Kept (Left (toL s) ts ((toL s).drop p))) (hp : p < s.size) (hc : s[p]'hp = 35) :
   Calls Tryz.prog 48 #[.pointer (some ⟨b, 0, none⟩)] w (RE w b s p) := by
 have HP := Kept.mk hp
 have c0 := H.out.rm.rd.c0
 have c1 := H.out.rm.rd.c1
 have z : (p : Int) < s.size := by omega
 have hsz := H.out.rm.rd.sz
 have HB : Kept (false = ((s[p]'hp) == 32 || (s[p]'hp) == 9)) := ⟨by rw [hc]; rfl⟩
 have z35 : (((s[p]'hp).toNat : Nat) : Int) = 35 := nat_byte (k := 35) hc (by omega)
 have ha : ahead 10 ((toL s).drop p) = ahead 10 ((toL s).drop (p + 1)) + 1 := by rw [drop_at hp, hc]; exact ahead_other (by decide) _
 have HN : Kept (Left (toL s) ts ((toL s).drop (p + ahead 10 ((toL s).drop p)))) := ⟨by
   have h1 : Left (toL s) ts (35 :: (toL s).drop (p + 1)) := by rw [← hc, ← drop_at hp]; exact HL.out
   have h2 := h1.comment
   rw [dropW_is, List.drop_drop] at h2
   rw [ha, show p + (ahead 10 ((toL s).drop (p + 1)) + 1) = p + 1 + ahead 10 ((toL s).drop (p + 1)) by omega]
   exact h2⟩
 have HA : Kept (p < p + ahead 10 ((toL s).drop p)) := ⟨by omega⟩
 clear hc ha
 go_enter Tryz.func48, Tryz.ntmps48
 go_wp2_with fail
 go_quiet (fail)
 generalize hW0 : w.drewN nq = w0
 have H0 : Kept (TM w0 b s p v ts) := ⟨H.out.qt ⟨nq, hW0.symm⟩⟩
 have HU0 : Kept (Up b w w0) := ⟨up_mv H.out (Qt.only ⟨nq, hW0.symm⟩ _)⟩
 clear hW0 c0 c1
 go_wp2_with (first
   | (go_at_call 84; refine (rest_first w0 b s p v H0.out.rm.rd HP.out).mono ?_; rintro e0 w1 ⟨r, rfl, hq, hr, hz, hc0⟩; have H1 := Kept.mk (H0.out.qt hq); have HU1 : Kept (Up b w w1) := ⟨HU0.out.trans (up_mv H0.out (hq.only _))⟩; clear hq hz hc0)
   | (go_at_call 83; refine (leading_any r w1 H1.out.rm.kit).mono ?_; rintro e1 w2 ⟨rfl, rfl⟩; generalize leadS (toL r) = x0)
   | (go_at_call 85; refine (blank35 _).mono ?_; rintro e1 w3 ⟨rfl, rfl⟩))
 refine (comment_any _ b s p v H1.out.rm _ rfl).mono ?_
 rintro e1 w3 ⟨rfl, h3, ho3⟩
 have H3 := Kept.mk (H1.out.mv ⟨h3, ho3⟩)
 have HU3 : Kept (Up b w w3) := ⟨HU1.out.trans (up_mv H1.out ho3.out)⟩
 clear h3 ho3
 go_wp2_with fail
 refine bodyPost_end (results_none rfl _ _ _) rfl ?_
 exact .on _ v _ ts H3 HA.out HN.out HU3.out
set_option maxHeartbeats 2000000 in
set_option maxRecDepth 100000 in
theorem read_line (w : World) (b : Nat) (s : ByteArray) (p : Nat) (v : Value) (ts : List Tok) (H : Kept (TM w b s p v ts)) (HL : Kept (Left (toL s) ts ((toL s).drop p))) (hp : p < s.size) (hc : s[p]'hp = 10) :
   Calls Tryz.prog 48 #[.pointer (some ⟨b, 0, none⟩)] w (RE w b s p) := by
 have HP := Kept.mk hp
 have c0 := H.out.rm.rd.c0
 have c1 := H.out.rm.rd.c1
 have z : (p : Int) < s.size := by omega
 have hsz := H.out.rm.rd.sz
 have HB : Kept (false = ((s[p]'hp) == 32 || (s[p]'hp) == 9)) := ⟨by rw [hc]; rfl⟩
 have z10 : (((s[p]'hp).toNat : Nat) : Int) = 10 := nat_byte (k := 10) hc (by omega)
 have HN : Kept (Left (toL s) (ts ++ [⟨2, ((toL s).drop p).take (p + 1 - p)⟩]) ((toL s).drop (p + 1))) := ⟨by
   have h1 : Left (toL s) ts (10 :: (toL s).drop (p + 1)) := by rw [← hc, ← drop_at hp]; exact HL.out
   have h2 := h1.line
   rw [show p + 1 - p = 1 by omega, drop_at hp, hc]
   exact h2⟩
 have HS : Kept (some (p + 1) = if p + 1 ≤ s.size then some (p + 1) else none) := ⟨(if_pos hp).symm⟩
 clear hc
 go_enter Tryz.func48, Tryz.ntmps48
 go_wp2_with fail
 go_quiet (fail)
 generalize hW0 : w.drewN nq = w0
 have H0 : Kept (TM w0 b s p v ts) := ⟨H.out.qt ⟨nq, hW0.symm⟩⟩
 have HU0 : Kept (Up b w w0) := ⟨up_mv H.out (Qt.only ⟨nq, hW0.symm⟩ _)⟩
 clear hW0 c0 c1
 go_wp2_with (first
   | (go_at_call 84; refine (rest_first w0 b s p v H0.out.rm.rd HP.out).mono ?_; rintro e0 w1 ⟨r, rfl, hq, hr, hz, hc0⟩; have H1 := Kept.mk (H0.out.qt hq); have HU1 : Kept (Up b w w1) := ⟨HU0.out.trans (up_mv H0.out (hq.only _))⟩; clear hq hz hc0)
   | (go_at_call 83; refine (leading_any r w1 H1.out.rm.kit).mono ?_; rintro e1 w2 ⟨rfl, rfl⟩; generalize leadS (toL r) = x0)
   | (go_at_call 85; refine (blank10 _).mono ?_; rintro e1 w3 ⟨rfl, rfl⟩))
 refine (skip_any _ b s p 1 v H1.out.rm.rd _ HS.out _ rfl).mono ?_
 rintro e1 w3 ⟨rfl, h3, ho3⟩
 have H3 := Kept.mk (H1.out.mv ⟨h3, ho3⟩)
 have HU3 : Kept (Up b w w3) := ⟨HU1.out.trans (up_mv H1.out ho3.out)⟩
 clear h3 ho3
 have HTl : Kept (ts.length ≤ 20000) := ⟨left_len HL.out hsz⟩
 go_wp2_with fail
 refine (add_any _ b s p (p + 1) v ts 2 H3.out (Nat.le_succ p) HTl.out _ rfl).mono ?_
 rintro e1 w4 ⟨rfl, v4, h4, hu4⟩
 have HU4 : Kept (Up b w w4) := ⟨HU3.out.trans hu4.out⟩
 have H4 := Kept.mk h4.out
 clear h4 hu4
 go_wp2_with fail
 refine bodyPost_end (results_none rfl _ _ _) rfl ?_
 exact .on _ v4 _ _ H4 (Nat.lt_succ_self p) HN.out HU4.out
set_option maxHeartbeats 2000000 in
set_option maxRecDepth 100000 in
theorem read_op (w : World) (b : Nat) (s : ByteArray) (p : Nat) (v : Value) (ts : List Tok) (H : Kept (TM w b s p v ts)) (HL : Kept (Left (toL s) ts ((toL s).drop p))) (hp : p < s.size) (hb : ¬ (s[p]'hp = 32 ∨ s[p]'hp = 9)) (h35 : s[p]'hp ≠ 35) (h10 : s[p]'hp ≠ 10) (o : List UInt8) (HLd : Kept (lead ((toL s).drop p) = some o)) :
   Calls Tryz.prog 48 #[.pointer (some ⟨b, 0, none⟩)] w (RE w b s p) := by
 have HP := Kept.mk hp
 have c0 := H.out.rm.rd.c0
 have c1 := H.out.rm.rd.c1
 have z : (p : Int) < s.size := by omega
 have hsz := H.out.rm.rd.sz
 have HB : Kept (false = ((s[p]'hp) == 32 || (s[p]'hp) == 9)) := ⟨by simpa [not_or] using hb⟩
 have z35 : ((((s[p]'hp).toNat : Nat) : Int) == 35) = false := nat_nbyte (k := 35) h35 (by omega)
 have z10 : ((((s[p]'hp).toNat : Nat) : Int) == 10) = false := nat_nbyte (k := 10) h10 (by omega)
 have hls := lead_some HLd.out
 have hlp : o.length + p ≤ s.size := by have := hls.2.1; rw [List.length_drop, toL_length] at this; omega
 have HN : Kept (Left (toL s) (ts ++ [⟨1, ((toL s).drop p).take (p + o.length - p)⟩]) ((toL s).drop (p + o.length))) := ⟨by
   have h1 : Left (toL s) ts (s[p]'hp :: (toL s).drop (p + 1)) := by rw [← drop_at hp]; exact HL.out
   have h2 := h1.op (plain_of hb h35 h10) (by rw [← drop_at hp]; exact HLd.out)
   rw [← drop_at hp, List.drop_drop] at h2
   rw [show p + o.length - p = o.length by omega, ← hls.2.2.2]
   exact h2⟩
 have HS : Kept (some (p + o.length) = if p + o.length ≤ s.size then some (p + o.length) else none) := ⟨(if_pos (by omega)).symm⟩
 have HPo : Kept (p < p + o.length) := ⟨by have := hls.1; omega⟩
 clear hb h35 h10 hls hlp
 go_enter Tryz.func48, Tryz.ntmps48
 go_wp2_with fail
 go_quiet (fail)
 generalize hW0 : w.drewN nq = w0
 have H0 : Kept (TM w0 b s p v ts) := ⟨H.out.qt ⟨nq, hW0.symm⟩⟩
 have HU0 : Kept (Up b w w0) := ⟨up_mv H.out (Qt.only ⟨nq, hW0.symm⟩ _)⟩
 clear hW0 c0 c1
 go_wp2_with (first
   | (go_at_call 84; refine (rest_first w0 b s p v H0.out.rm.rd HP.out).mono ?_; rintro e0 w1 ⟨r, rfl, hq, hr, hz, hc0⟩; have H1 := Kept.mk (H0.out.qt hq); have HU1 : Kept (Up b w w1) := ⟨HU0.out.trans (up_mv H0.out (hq.only _))⟩; clear hq hz hc0)
   | (go_at_call 83; refine (lead_yes r _ o w1 hr H1.out.rm.kit HLd).mono ?_; rintro e1 w2 ⟨x, rfl, hx, hxs, x1, x2, rfl⟩)
   | (go_at_call 85; refine (blank_any _ _ false HB.out).mono ?_; rintro e1 w3 ⟨rfl, rfl⟩))
 refine (skip_any _ b s p o.length v H1.out.rm.rd _ HS.out _ (by omega)).mono ?_
 rintro e1 w3 ⟨rfl, h3, ho3⟩
 have H3 := Kept.mk (H1.out.mv ⟨h3, ho3⟩)
 have HU3 : Kept (Up b w w3) := ⟨HU1.out.trans (up_mv H1.out ho3.out)⟩
 clear h3 ho3
 have HTl : Kept (ts.length ≤ 20000) := ⟨left_len HL.out hsz⟩
 go_wp2_with fail
 refine (add_any _ b s p (p + o.length) v ts 1 H3.out (Nat.le_of_lt HPo.out) HTl.out _ rfl).mono ?_
 rintro e1 w4 ⟨rfl, v4, h4, hu4⟩
 have HU4 : Kept (Up b w w4) := ⟨HU3.out.trans hu4.out⟩
 have H4 := Kept.mk h4.out
 clear h4 hu4
 go_wp2_with fail
 refine bodyPost_end (results_none rfl _ _ _) rfl ?_
 exact .on _ v4 _ _ H4 HPo.out HN.out HU4.out
set_option maxHeartbeats 2000000 in
set_option maxRecDepth 100000 in
theorem read_word (w : World) (b : Nat) (s : ByteArray) (p : Nat) (v : Value) (ts : List Tok) (H : Kept (TM w b s p v ts)) (HL : Kept (Left (toL s) ts ((toL s).drop p))) (hp : p < s.size) (hb : ¬ (s[p]'hp = 32 ∨ s[p]'hp = 9)) (h35 : s[p]'hp ≠ 35) (h10 : s[p]'hp ≠ 10) (HLd : Kept (lead ((toL s).drop p) = none)) (k : Nat) (HW : Kept (word ((toL s).drop p) = some k)) :
   Calls Tryz.prog 48 #[.pointer (some ⟨b, 0, none⟩)] w (RE w b s p) := by
 have HP := Kept.mk hp
 have c0 := H.out.rm.rd.c0
 have c1 := H.out.rm.rd.c1
 have z : (p : Int) < s.size := by omega
 have hsz := H.out.rm.rd.sz
 have HB : Kept (false = ((s[p]'hp) == 32 || (s[p]'hp) == 9)) := ⟨by simpa [not_or] using hb⟩
 have z35 : ((((s[p]'hp).toNat : Nat) : Int) == 35) = false := nat_nbyte (k := 35) h35 (by omega)
 have z10 : ((((s[p]'hp).toNat : Nat) : Int) == 10) = false := nat_nbyte (k := 10) h10 (by omega)
 have hk1 : 1 ≤ k := word_pos (c := s[p]'hp) (r := (toL s).drop (p + 1)) (lead_none (by rw [← drop_at hp]; exact HLd.out) (fun e => hb (.inl e)) (fun e => hb (.inr e)) h10) (by rw [← drop_at hp]; exact HW.out)
 have HN : Kept (Left (toL s) (ts ++ [⟨0, ((toL s).drop p).take (p + k - p)⟩]) ((toL s).drop (p + k))) := ⟨by
   have h1 : Left (toL s) ts (s[p]'hp :: (toL s).drop (p + 1)) := by rw [← drop_at hp]; exact HL.out
   have h2 := h1.word (plain_of hb h35 h10) (by rw [← drop_at hp]; exact HLd.out) (by rw [← drop_at hp]; exact HW.out)
   rw [← drop_at hp, List.drop_drop] at h2
   rw [show p + k - p = k by omega]
   exact h2⟩
 have HWa : Kept (some (p + k) = wordAt (toL s) p) := ⟨by unfold wordAt; rw [HW.out]; rfl⟩
 have HPo : Kept (p < p + k) := ⟨by omega⟩
 clear hb h35 h10 hk1
 go_enter Tryz.func48, Tryz.ntmps48
 go_wp2_with fail
 go_quiet (fail)
 generalize hW0 : w.drewN nq = w0
 have H0 : Kept (TM w0 b s p v ts) := ⟨H.out.qt ⟨nq, hW0.symm⟩⟩
 have HU0 : Kept (Up b w w0) := ⟨up_mv H.out (Qt.only ⟨nq, hW0.symm⟩ _)⟩
 clear hW0 c0 c1
 go_wp2_with (first
   | (go_at_call 84; refine (rest_first w0 b s p v H0.out.rm.rd HP.out).mono ?_; rintro e0 w1 ⟨r, rfl, hq, hr, hz, hc0⟩; have H1 := Kept.mk (H0.out.qt hq); have HU1 : Kept (Up b w w1) := ⟨HU0.out.trans (up_mv H0.out (hq.only _))⟩; clear hq hz hc0)
   | (go_at_call 83; refine (lead_no r _ w1 hr H1.out.rm.kit HLd).mono ?_; rintro e1 w2 ⟨rfl, rfl⟩)
   | (go_at_call 85; refine (blank_any _ _ false HB.out).mono ?_; rintro e1 w3 ⟨rfl, rfl⟩))
 refine (word_any _ b s p v H1.out.rm _ HWa).mono ?_
 rintro e1 w3 ⟨rfl, h3, ho3⟩
 have H3 := Kept.mk (H1.out.mv ⟨h3, ho3⟩)
 have HU3 : Kept (Up b w w3) := ⟨HU1.out.trans (up_mv H1.out ho3.out)⟩
 clear h3 ho3
 have HTl : Kept (ts.length ≤ 20000) := ⟨left_len HL.out hsz⟩
 go_wp2_with fail
 refine (add_any _ b s p (p + k) v ts 0 H3.out (Nat.le_of_lt HPo.out) HTl.out _ rfl).mono ?_
 rintro e1 w4 ⟨rfl, v4, h4, hu4⟩
 have HU4 : Kept (Up b w w4) := ⟨HU3.out.trans hu4.out⟩
 have H4 := Kept.mk h4.out
 clear h4 hu4
 go_wp2_with fail
 refine bodyPost_end (results_none rfl _ _ _) rfl ?_
 exact .on _ v4 _ _ H4 HPo.out HN.out HU4.out
set_option maxHeartbeats 2000000 in
set_option maxRecDepth 100000 in
theorem read_bad (w : World) (b : Nat) (s : ByteArray) (p : Nat) (v : Value) (ts : List Tok) (H : Kept (TM w b s p v ts)) (HL : Kept (Left (toL s) ts ((toL s).drop p))) (hp : p < s.size) (hb : ¬ (s[p]'hp = 32 ∨ s[p]'hp = 9)) (h35 : s[p]'hp ≠ 35) (h10 : s[p]'hp ≠ 10) (HLd : Kept (lead ((toL s).drop p) = none)) (HW : Kept (word ((toL s).drop p) = none)) :
   Calls Tryz.prog 48 #[.pointer (some ⟨b, 0, none⟩)] w (RE w b s p) := by
 have HP := Kept.mk hp
 have c0 := H.out.rm.rd.c0
 have c1 := H.out.rm.rd.c1
 have z : (p : Int) < s.size := by omega
 have hsz := H.out.rm.rd.sz
 have HB : Kept (false = ((s[p]'hp) == 32 || (s[p]'hp) == 9)) := ⟨by simpa [not_or] using hb⟩
 have z35 : ((((s[p]'hp).toNat : Nat) : Int) == 35) = false := nat_nbyte (k := 35) h35 (by omega)
 have z10 : ((((s[p]'hp).toNat : Nat) : Int) == 10) = false := nat_nbyte (k := 10) h10 (by omega)
 have HN : Kept (toks (toL s) = none) := ⟨by
   have h1 : Left (toL s) ts (s[p]'hp :: (toL s).drop (p + 1)) := by rw [← drop_at hp]; exact HL.out
   exact h1.bad (plain_of hb h35 h10) (by rw [← drop_at hp]; exact HLd.out) (by rw [← drop_at hp]; exact HW.out)⟩
 have HWa : Kept (none = wordAt (toL s) p) := ⟨by unfold wordAt; rw [HW.out]; rfl⟩
 clear hb h35 h10
 go_enter Tryz.func48, Tryz.ntmps48
 go_wp2_with fail
 go_quiet (fail)
 generalize hW0 : w.drewN nq = w0
 have H0 : Kept (TM w0 b s p v ts) := ⟨H.out.qt ⟨nq, hW0.symm⟩⟩
 have HU0 : Kept (Up b w w0) := ⟨up_mv H.out (Qt.only ⟨nq, hW0.symm⟩ _)⟩
 clear hW0 c0 c1
 go_wp2_with (first
   | (go_at_call 84; refine (rest_first w0 b s p v H0.out.rm.rd HP.out).mono ?_; rintro e0 w1 ⟨r, rfl, hq, hr, hz, hc0⟩; have H1 := Kept.mk (H0.out.qt hq); have HU1 : Kept (Up b w w1) := ⟨HU0.out.trans (up_mv H0.out (hq.only _))⟩; clear hq hz hc0)
   | (go_at_call 83; refine (lead_no r _ w1 hr H1.out.rm.kit HLd).mono ?_; rintro e1 w2 ⟨rfl, rfl⟩)
   | (go_at_call 85; refine (blank_any _ _ false HB.out).mono ?_; rintro e1 w3 ⟨rfl, rfl⟩))
 refine (word_any _ b s p v H1.out.rm _ HWa).mono ?_
 rintro e1 w3 ⟨rfl, ho3⟩
 exact ⟨rfl, .bad _ HN.out (HU1.out.trans (up_mv H1.out ho3.out))⟩
theorem read_any (w : World) (b : Nat) (s : ByteArray) (p : Nat) (v : Value) (ts : List Tok) (H : Kept (TM w b s p v ts)) (HL : Kept (Left (toL s) ts ((toL s).drop p))) (hp : p < s.size) :
   Calls Tryz.prog 48 #[.pointer (some ⟨b, 0, none⟩)] w (RE w b s p) := by
 by_cases hb : s[p]'hp = 32 ∨ s[p]'hp = 9
 · exact read_blank w b s p v ts H HL hp hb
 · by_cases h35 : s[p]'hp = 35
   · exact read_comment w b s p v ts H HL hp h35
   · by_cases h10 : s[p]'hp = 10
     · exact read_line w b s p v ts H HL hp h10
     · cases hl : lead ((toL s).drop p) with
       | some o => exact read_op w b s p v ts H HL hp hb h35 h10 o ⟨hl⟩
       | none =>
         cases hw : word ((toL s).drop p) with
         | none => exact read_bad w b s p v ts H HL hp hb h35 h10 ⟨hl⟩ ⟨hw⟩
         | some k => exact read_word w b s p v ts H HL hp hb h35 h10 ⟨hl⟩ k ⟨hw⟩
end Lx
end
end Go.Proofs.YtahjonfmhejoeaaGreatDoor
