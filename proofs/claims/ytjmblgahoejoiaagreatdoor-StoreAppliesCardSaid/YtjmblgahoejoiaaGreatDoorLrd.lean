/-
  What was read, as a map's key: a place, and whether its names were read.
-/
import Derived.Test.YtjmblgahoejoiaaGreatDoorPsto
import Derived.ChangeKeysEq
import Derived.DeepKeys4
namespace Go.Proofs.YtjmblgahoejoiaaGreatDoor
open Go.RowKit Go.Maps Tx
namespace St

structure Rd where
  path : ByteArray
  names : Bool
deriving DecidableEq, Inhabited
def encRd (x : Rd) : Value := .agg #[.string x.path, .bool x.names]
def rk (x : Rd) : Lit := .string (keyBytes [.string (toL x.path), .bool x.names])
theorem encRd_inj {x y : Rd} (h : encRd x = encRd y) : x = y := by
  obtain ⟨a, b⟩ := x
  obtain ⟨c, d⟩ := y
  simp [encRd] at h
  rw [h.1, h.2]
theorem read_is : ∃ f0 f1 : Field, Tryz.prog.underlying 72 = some (.struct #[f0, f1]) ∧ f0.type = 9 ∧ f1.type = 4 ∧ f0.offset = 0 ∧ f1.offset = 1 ∧ (f0.name != "_") = true ∧ (f1.name != "_") = true :=
  ⟨_, _, Tryz.underlying72, rfl, rfl, rfl, rfl, by kernel_rfl, by kernel_rfl⟩
theorem cellsRd : Tryz.prog.cellsOf 72 = 2 := by kernel_rfl
theorem cellsB : Tryz.prog.cellsOf 4 = 1 := by kernel_rfl
theorem cellsS : Tryz.prog.cellsOf 9 = 1 := by kernel_rfl
theorem keyTRd : Tryz.prog.keyType 72 = true := by kernel_rfl
theorem tsz : ∃ n, Tryz.prog.types.size = n + 1 := by
  have h : decide (1 ≤ Tryz.prog.types.size) = true := by kernel_rfl
  have h := of_decide_eq_true h
  exact ⟨Tryz.prog.types.size - 1, by omega⟩
theorem lits_rd {P : Program} {t ts tb : TypeId} {f0 f1 : Field} (hu : P.underlying t = some (.struct #[f0, f1])) (t0 : f0.type = ts) (t1 : f1.type = tb) (o0 : f0.offset = 0) (o1 : f1.offset = 1) (n0 : (f0.name != "_") = true) (n1 : (f1.name != "_") = true)
    (us : P.underlying ts = some .string) (ub : P.underlying tb = some .bool) (c2 : P.cellsOf t = 2) (cS : P.cellsOf ts = 1) (cB : P.cellsOf tb = 1) {n : Nat} (a b : Value) :
    P.keyLits (n + 2) t [a, b] = match a, b with | .string s, .bool x => if s.size ≤ maxLen then some [.string s.data.toList, .bool x] else none | _, _ => none := by
  unfold Program.keyLits
  rw [hu]
  simp only [c2, List.length_cons, List.length_nil, Nat.reduceAdd, Array.all_eq_true', List.mem_toArray, true_and]
  rw [if_pos (by
    intro f hf
    simp at hf
    rcases hf with rfl | rfl
    · exact n0
    · exact n1)]
  simp only [List.mapM_cons, List.mapM_nil, t0, t1, o0, o1, cS, cB, List.drop_zero, List.take_succ_cons, List.take_zero, List.drop_succ_cons]
  have e1 : P.keyLits (n + 1) ts [a] = match a with | .string s => if s.size ≤ maxLen then some [.string s.data.toList] else none | _ => none := by
    unfold Program.keyLits
    rw [us]
    cases a <;> rfl
  have e2 : P.keyLits (n + 1) tb [b] = match b with | .bool x => some [.bool x] | _ => none := by
    unfold Program.keyLits
    rw [ub]
    cases b <;> rfl
  rw [e1, e2]
  cases a <;> cases b <;> simp
  all_goals (split <;> simp_all)
theorem lits_len {P : Program} {t : TypeId} {fs : Array Field} (hu : P.underlying t = some (.struct fs)) {n k : Nat} (c2 : P.cellsOf t = k) {cs : List Value} {ls : List Lit} (h : P.keyLits (n + 1) t cs = some ls) : cs.length = k := by
  unfold Program.keyLits at h
  rw [hu] at h
  simp only at h
  split at h
  · rename_i hc
    rw [hc.1, c2]
  · cases h
theorem keyRd (x : Rd) (h : x.path.size ≤ maxLen) : keyOf Tryz.prog 72 (encRd x) = some (rk x) := by
  obtain ⟨f0, f1, hu, t0, t1, o0, o1, n0, n1⟩ := read_is
  obtain ⟨n, hn⟩ := tsz
  have hf : (encRd x).formed Tryz.prog 72 = true := by
    unfold encRd Value.formed
    simp [hu, cellsRd]
  have hl := lits_rd hu t0 t1 o0 o1 n0 n1 Tryz.underlying9 Tryz.underlying4 cellsRd cellsS cellsB (n := n) (.string x.path) (.bool x.names)
  simp only [h, if_true] at hl
  unfold keyOf
  rw [hu]
  simp only [keyTRd, hn, hf, Bool.and_self, if_true]
  show Option.map _ (Tryz.prog.keyLits (n + 2) 72 [.string x.path, .bool x.names]) = _
  rw [hl]
  rfl
set_option maxRecDepth 100000 in
theorem keyRd_inv {v : Value} {kl : Lit} (h : keyOf Tryz.prog 72 v = some kl) : ∃ x : Rd, v = encRd x ∧ kl = rk x ∧ x.path.size ≤ maxLen := by
  obtain ⟨f0, f1, hu, t0, t1, o0, o1, n0, n1⟩ := read_is
  obtain ⟨n, hn⟩ := tsz
  unfold keyOf at h
  rw [hu] at h
  simp only [keyTRd, hn, Bool.true_and] at h
  split at h
  · rename_i hf
    obtain ⟨ls, hls, rfl⟩ := Option.map_eq_some_iff.1 h
    have hlen := lits_len hu cellsRd hls
    cases v with
    | agg cs =>
      obtain ⟨l⟩ := cs
      have e : (Value.agg ⟨l⟩).cells.toList = l := rfl
      rw [e] at hls hlen
      match l, hlen with
      | [a, b], _ =>
        rw [lits_rd hu t0 t1 o0 o1 n0 n1 Tryz.underlying9 Tryz.underlying4 cellsRd cellsS cellsB (n := n) a b] at hls
        cases a <;> cases b <;> simp at hls
        rename_i s x _
        obtain ⟨hs, rfl⟩ := hls
        exact ⟨⟨s, x⟩, rfl, rfl, hs⟩
    | _ =>
      unfold Value.formed at hf
      simp [hu] at hf
  · cases h
theorem rdK : Keyed Tryz.prog 72 := Keyed.of_law (deep_law_laid (by kernel_rfl) (m := 2) (by omega) (of_decide_eq_true (by kernel_rfl)) (by kernel_rfl) (by kernel_rfl))
theorem rk_inj {x y : Rd} (hx : x.path.size ≤ maxLen) (hy : y.path.size ≤ maxLen) (h : rk x = rk y) : x = y := encRd_inj (rdK.inj (keyRd x hx) (by rw [keyRd y hy, h]))

/-! ### Elements of no content -/
def unR : Value → Option (DataW Unit × List MemPlace)
  | .agg cs => if cs.size = 0 then some (.agg [], []) else none
  | _ => none
def unD : DataW Unit := .agg []
theorem unR_V : unR (.agg #[]) = some (unD, []) := rfl
theorem unR_inv {v : Value} {y : DataW Unit × List MemPlace} (h : unR v = some y) : v = .agg #[] := by
  cases v <;> simp only [unR, reduceCtorEq] at h
  rename_i cs
  split at h
  · rename_i hc
    rw [Array.eq_empty_of_size_eq_zero hc]
  · cases h
end St
end Go.Proofs.YtjmblgahoejoiaaGreatDoor
