/-
  The program's tokens: one is added, one is read.
-/
import Derived.Test.YtnafecdionhnfaaDoorPl4
import Derived.BigRegion
import Derived.Laws.DeepStrings4
namespace Go.Proofs.YtnafecdionhnfaaDoor
open Go.RowKit Tx
namespace Lx

def tv (t : Tok) : List Value := [.int .i64 t.kind, .string (bs t.text)]
def tvs (l : List Tok) : List Value := l.flatMap tv
theorem tvs_cons (p : Tok) (t : List Tok) : tvs (p :: t) = tv p ++ tvs t := rfl
theorem tvs_snoc (l : List Tok) (x : Tok) : tvs (l ++ [x]) = tvs l ++ tv x := by simp [tvs]
theorem tvs_length (t : List Tok) : (tvs t).length = t.length * 2 := by
  induction t with
  | nil => rfl
  | cons p t ih => rw [tvs_cons, List.length_append, ih]; simp [tv]; omega
theorem tvs_at {l : List Tok} {j : Nat} (hj : j < l.length) : (tvs l)[j * 2]? = some (.int .i64 l[j].kind) ∧ (tvs l)[j * 2 + 1]? = some (.string (bs l[j].text)) := by
  induction l generalizing j with
  | nil => simp at hj
  | cons p t ih =>
    cases j with
    | zero => exact ⟨rfl, rfl⟩
    | succ j =>
      rw [tvs_cons]
      have h2 : (tv p).length = 2 := rfl
      have := ih (j := j) (by simpa using hj)
      rw [List.getElem?_append_right (by omega), List.getElem?_append_right (by omega), h2]
      rw [show (j + 1) * 2 - 2 = j * 2 by omega, show (j + 1) * 2 + 1 - 2 = j * 2 + 1 by omega]
      exact this
theorem tv_new (w : World) (x : Tok) (ty : TypeId) : ∀ j u, (tv x)[j]? = some u → (w.alloc (.cells (tv x).toArray ty)).cell? ((⟨w.heap.size, 0, none⟩ : Addr).add j) = some u := by
  intro j u hu
  have : (⟨w.heap.size, 0, none⟩ : Addr).add j = ⟨w.heap.size, 0 + j, none⟩ := by unfold Addr.add; split <;> simp_all
  rw [this, Nat.zero_add, cell_of_row _ _ j _ _ (0, 0) (heap_alloc_new w _)]
  simpa using hu
theorem tv_one (x : Tok) : ∀ u ∈ tv x, u.oneCell' = true := by
  intro u hp
  simp only [tv, List.mem_cons, List.not_mem_nil, or_false] at hp
  rcases hp with rfl | rfl <;> rfl
theorem tokInfo : (Tryd.prog.info? 35).map (fun i => (i.zero, i.size, i.bytes)) = some (some (.agg #[.int .i64 0, .string ⟨#[]⟩]), 2, 24) := by kernel_rfl

/-- The reader, and what was read. -/
structure TM (w : World) (b : Nat) (s : ByteArray) (p : Nat) (v : Value) (ts : List Tok) : Prop where
  rm : RM w b s p v
  own : w.ownsRow (b + 1) 35 2 v ts.length (tvs ts)
theorem own_keep {w w' : World} {B n size : Nat} {e : TypeId} {v : Value} {xs : List Value} (h : w.ownsRow B e size v n xs) (hb : ∀ g, B ≤ g → g < w.heap.size → w'.heap[g]? = w.heap[g]?) : w'.ownsRow B e size v n xs := by
  refine ⟨h.1, ?_⟩
  rcases h.2 with h0 | ⟨g, cap, cur, rfl, hB, hg, r⟩
  · exact .inl h0
  · exact .inr ⟨g, cap, cur, rfl, hB, (hb g hB (Array.getElem?_eq_some_iff.1 hg).1).trans hg, r⟩
section
variable {w w' : World} {b p q : Nat} {s : ByteArray} {v : Value} {ts : List Tok}
theorem TM.mv (h : TM w b s p v ts) (hm : Kept (RD w' b s q v) ∧ Kept (Only (· = b) w w')) : TM w' b s q v ts :=
  ⟨h.rm.mv hm, own_keep h.own fun g h1 h2 => hm.2.out.block g h2 (by omega)⟩
theorem TM.qt (h : TM w b s p v ts) (hq : Qt w w') : TM w' b s p v ts := h.mv ⟨⟨hq.rd h.rm.rd⟩, ⟨hq.only _⟩⟩
theorem own_ne (h : w.ownsRow (b + 1) 35 2 v ts.length (tvs ts)) : ∀ g, v.ownBlock = some g → b < g := by
  intro g hg
  rcases h.2 with ⟨rfl, _⟩ | ⟨k, cap, cur, rfl, hB, _⟩
  · cases hg
  · injection hg with hg
    have : k = g := hg
    omega
end
theorem own_slice {w : World} {B n size : Nat} {e : TypeId} {v : Value} {xs : List Value} (h : w.ownsRow B e size v n xs) : ∃ A k, v = .slice A n k := by
  rcases h.2 with ⟨rfl, rfl⟩ | ⟨g, cap, cur, rfl, _⟩
  · exact ⟨_, _, rfl⟩
  · exact ⟨_, _, rfl⟩
/-- Below b all stands. -/
def Up (b : Nat) (w w' : World) : Prop := Below b w w'
theorem Up.refl (b : Nat) (w : World) : Up b w w := Below.refl _ _
theorem Up.trans {b : Nat} {w w1 w2 : World} (h : Up b w w1) (k : Up b w1 w2) : Up b w w2 := Below.trans h k
theorem Up.only {b : Nat} {w w' : World} (h : Only (· = b) w w') (hb : b ≤ w.heap.size) : Up b w w' := h.toBelow (fun k hk e => by omega) hb
/-- What a token that is added leaves. -/
def Added (w : World) (b : Nat) (s : ByteArray) (p : Nat) (ts : List Tok) (e : Ending) (w' : World) : Prop :=
  e = .returned (.tuple #[]) ∧ ∃ v, Kept (TM w' b s p v ts) ∧ Kept (Up b w w')

theorem step_append_own {P : Program} {w : World} {ops : Array Oper} {o : Oper} {a : Go.Act} {K : Go.Act → World → Prop} {Q : Exit → Go.Act → World → Prop} {R : Prop} (hgd : o.guard = none) (s x : Operand) (t : TypeId)
    (ho : o.op = .call { callee := .builtin .append, args := #[s, x], argTypes := #[t, t] })
    (base : Nat) (e : TypeId) (i : TypeInfo) (z : Value) (size bytes : Nat) (ht : P.underlying t = some (.slice e)) (hi : P.info? e = some i) (hz : i.zero = some z)
    (hsize : i.size = size) (hby : i.bytes = bytes) (hzs : z.cells.size = size) (hsz : 0 < size)
    (v : Value) (n : Nat) (xs : List Value) (hs : a.eval s = v) (hown : w.ownsRow base e size v n xs)
    (ad : Addr) (m c : Nat) (news : List Value) (hx : a.eval x = .slice (some ad) m c) (hl : news.length = m * size) (hnews : ∀ j u, news[j]? = some u → w.cell? (ad.add j) = some u) (h1 : ∀ u ∈ news, u.oneCell' = true)
    (h63 : n + m ≤ maxLen) (hbytes : (n + m) * bytes ≤ 140737488355328) (hbase : base ≤ w.heap.size)
    (h : ∀ v' w', w'.ownsRow base e size v' (n + m) (xs ++ news) → w.grownBy w' v.ownBlock → (v' = .slice none 0 0 ↔ v = .slice none 0 0 ∧ m = 0) → K (a.put o.dst v') w') : if Region.wanted o (yielded ops a.tmps) = true then Oper.wp P o a w K Q else R := by
  rw [if_pos (by simp [Region.wanted, hgd])]
  exact wp_append_own w s x t ho base e i z size bytes ht hi hz hsize hby hzs hsz v n xs hs hown ad m c news hx hl hnews h1 h63 hbytes hbase h
theorem grown_rm {w w2 : World} {b p : Nat} {s : ByteArray} {v : Value} {ts : List Tok} {o : Obj} (h : TM w b s p v ts) (hg : (w.alloc o).drew.grownBy w2 v.ownBlock) : RM w2 b s p v := by
  have hk : ∀ i, i ≤ b → i < w.heap.size → w2.heap[i]? = w.heap[i]? := fun i hi hl => by
    refine (hg.block i (by simp; omega) (fun e => ?_)).trans (Below.heap_alloc w o i hl)
    have := own_ne h.own i e.symm
    omega
  have hlt := h.rm.kit.lt
  have hb := h.rm.rd.lt
  exact ⟨h.rm.rd.keep (hk b (Nat.le_refl _) hb), h.rm.kit.keep (hk _ (Nat.le_of_lt h.rm.n0) hlt.1) (hk _ (Nat.le_of_lt h.rm.n1) hlt.2), h.rm.n0, h.rm.n1⟩
theorem added_of {w w2 : World} {b p : Nat} {s : ByteArray} {v v2 : Value} {ts : List Tok} {x : Tok} {o : Obj} (h : TM w b s p v ts) (hg : (w.alloc o).drew.grownBy w2 v.ownBlock) (ho : w2.ownsRow (b + 1) 35 2 v2 (ts.length + 1) (tvs ts ++ tv x)) :
    TM (w2.setCell ⟨b, 2, none⟩ v2) b s p v2 (ts ++ [x]) ∧ Up b w (w2.setCell ⟨b, 2, none⟩ v2) := by
  have hr := grown_rm h hg
  have hb := h.rm.rd.lt
  have hd : ∀ i, i ≠ b → (w2.setCell ⟨b, 2, none⟩ v2).heap[i]? = w2.heap[i]? := fun i hi => Below.heap_setCell w2 _ _ i hi
  refine ⟨⟨⟨⟨?_, hr.rd.le, hr.rd.sz⟩, hr.kit.keep (hd _ (Nat.ne_of_lt hr.n0)) (hd _ (Nat.ne_of_lt hr.n1)), hr.n0, hr.n1⟩, ?_⟩, ?_⟩
  · have := heap_setCell_same w2 b 2 _ _ v2 hr.rd.row; simpa using this
  · rw [List.length_append, tvs_snoc]
    exact own_keep ho fun g h1 _ => hd g (by omega)
  · have hs := hg.size
    simp only [World.size_drew, World.size_alloc] at hs
    refine ⟨hg.os, hg.tape, hg.output, by simp [World.setCell]; omega, fun i hi => ?_⟩
    refine (hd i (by omega)).trans ((hg.block i (by simp; omega) (fun e => ?_)).trans (Below.heap_alloc w o i (by omega)))
    have := own_ne h.own i e.symm
    omega
theorem two_new (w : World) (a c : Value) (ty : TypeId) : ∀ j u, [a, c][j]? = some u → (w.alloc (.cells #[a, c] ty)).drew.cell? ((⟨w.heap.size, 0, none⟩ : Addr).add j) = some u := by
  intro j u hu
  have : (⟨w.heap.size, 0, none⟩ : Addr).add j = ⟨w.heap.size, 0 + j, none⟩ := by unfold Addr.add; split <;> simp_all
  rw [this, Nat.zero_add]
  change (w.alloc (.cells #[a, c] ty)).cell? _ = _
  rw [cell_of_row _ _ j _ _ (0, 0) (heap_alloc_new w _)]
  simpa using hu
set_option maxHeartbeats 4000000 in
set_option maxRecDepth 100000 in
theorem add_any (w : World) (b : Nat) (s : ByteArray) (p0 p : Nat) (v : Value) (ts : List Tok) (k : Int) (h : TM w b s p v ts) (hp : p0 ≤ p) (hl : ts.length ≤ 20000) (x : Tok) (hx : x = ⟨k, ((toL s).drop p0).take (p - p0)⟩) :
    Calls Tryd.prog 24 #[.pointer (some ⟨b, 0, none⟩), .int .i64 k, .int .i64 (p0 : Int)] w (Added w b s p (ts ++ [x])) := by
  obtain ⟨i0, hi, hz0, hz1, hz2⟩ := info_parts tokInfo
  have H := Kept.mk h
  have HO := Kept.mk h.own
  have c0 := h.rm.rd.c0
  have c1 := h.rm.rd.c1
  have c2 := h.rm.rd.c2
  have f2 := h.rm.rd.f2
  have hle := h.rm.rd.le
  have HL := Kept.mk hl
  have HBs := Kept.mk h.rm.rd.lt
  have hsl : ∀ W : World, (Instr.slice 9 (.string s) (some (.int .i64 (p0 : Int))) (some (.int .i64 (p : Int))) none).run Tryd.prog W = .ok (.string (s.extract p0 p)) W := fun W => by
    rw [run_slice_string_if W 9 s .i64 .i64 _ _ Tryd.underlying9, if_pos ⟨by omega, by omega⟩, if_pos ⟨by omega, by omega⟩, Int.toNat_natCast, Int.toNat_natCast]
  have HX : Kept (tv x = [.int .i64 k, .string (s.extract p0 p)]) := ⟨by rw [hx]; unfold tv; rw [← toL_extract, bs_toL]⟩
  clear h hx hle
  go_enter Tryd.func24, Tryd.ntmps24
  go_wp2
  have HOd : Kept ((w.alloc (.cells #[.int .i64 k, .string (s.extract p0 p)] 35)).drew.ownsRow (b + 1) 35 2 v ts.length (tvs ts)) := ⟨own_keep (w := w) (w' := (w.alloc (.cells #[.int .i64 k, .string (s.extract p0 p)] 35)).drew) HO.out fun g _ h2 => Below.heap_alloc w _ g h2⟩
  have c2a : (w.alloc (.cells #[.int .i64 k, .string (s.extract p0 p)] 35)).cell? ⟨b, 2, none⟩ = some v := (World.cell?_of_block (a := ⟨b, 2, none⟩) (Below.heap_alloc w _ b HBs.out)).trans c2
  have c2b : (w.alloc (.cells #[.int .i64 k, .string (s.extract p0 p)] 35)).drew.cell? ⟨b, 2, none⟩ = some v := c2a
  go_region_law (first
    | (refine step_append_own rfl _ _ 26 rfl (b + 1) 35 i0 _ 2 24 Tryd.underlying26 hi hz0 hz1 hz2 rfl (by decide) _ _ _ rfl HOd.out ⟨w.heap.size, 0, none⟩ 1 1 (tv x) rfl rfl (by rw [HX.out]; exact two_new w _ _ _) (tv_one _) (by unfold maxLen; have := HL.out; omega) (by have := HL.out; omega) (by have := HBs.out; simp; omega) ?_
       intro v2 w2 ho2 hg2 hnn
       clear hnn
       obtain ⟨A2, q2, rfl⟩ := own_slice ho2
       have HA : Kept (TM (w2.setCell ⟨b, 2, none⟩ (.slice A2 (ts.length + 1) q2)) b s p (.slice A2 (ts.length + 1) q2) (ts ++ [x]) ∧ Up b w (w2.setCell ⟨b, 2, none⟩ (.slice A2 (ts.length + 1) q2))) := ⟨added_of H.out hg2 ho2⟩
       have HR2 : Kept (RM w2 b s p v) := ⟨grown_rm H.out hg2⟩
       have c2' := HR2.out.rd.c2
       have f2' := HR2.out.rd.f2
       clear ho2 hg2)
    | go_simp)
  all_goals
    refine bodyPost_end (results_none rfl _ _ _) rfl ?_
    exact ⟨rfl, _, ⟨HA.out.1⟩, ⟨HA.out.2⟩⟩
end Lx
end Go.Proofs.YtnafecdionhnfaaDoor
