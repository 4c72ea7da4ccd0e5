/-
  Parts of the proof, merged.
-/
import Derived.Lib.ItoaLen
import Derived.Lib.ItoaNum
import Derived.Test.YtlggpefmojacoaaGreatDoorLa24
import Derived.Test.YtlggpefmojacoaaGreatDoorLa25
namespace Go.Proofs.YtlggpefmojacoaaGreatDoor
section
open Go.RowKit Tx
namespace Ar
open Va (Vr getD set Sorted)
def chg (op : Tok) (a : Int) : Int := if op = [45] then wrap64 (-a) else if op = [126] then bits .xor .i64 (-1) a else if op = [33] then bit (a == 0) else a
def digitsOf (n : Int) : ByteArray := bs (Lib.itoa n)
abbrev V := Except Int (Int × List Vr)
def snd (o : Tok) (n : Int) (f : List Vr → V) (l : List Vr) : V :=
 if o = [124, 124] then (if n = 0 then (match f l with | .error c => .error c | .ok (m, l2) => .ok (bit (m != 0), l2)) else .ok (1, l))
 else if o = [38, 38] then (if n = 0 then .ok (0, l) else (match f l with | .error c => .error c | .ok (m, l2) => .ok (bit (m != 0), l2)))
 else match f l with | .error c => .error c | .ok (m, l2) => (match two o n m with | .error c => .error c | .ok r => .ok (r, l2))
def asgV (x o : Tok) (n : Int) (l : List Vr) : Except Int Int :=
 if o = [61] then .ok n else match valV (toL (getD l (bs x)).value) with | none => .error 130 | some a => two o.dropLast a n
def putV (x : Tok) (m : Int) (l : List Vr) : V := match set l (bs x) (digitsOf m) with | .error c => .error c | .ok l2 => .ok (m, l2)
def ev : Ex → List Vr → V
 | .lit n, l => .ok ((n : Int), l)
 | .var x, l => match valV (toL (getD l (bs x)).value) with | some n => .ok (n, l) | none => .error 130
 | .asg x o e, l => match ev e l with | .error c => .error c | .ok (n, l1) => (match asgV x o n l1 with | .error c => .error c | .ok m => putV x m l1)
 | .pre o e, l => match ev e l with | .error c => .error c | .ok (n, l1) => .ok (chg o n, l1)
 | .bin o a b, l => match ev a l with | .error c => .error c | .ok (n, l1) => snd o n (ev b) l1
 | .cho c a b, l => match ev c l with | .error e => .error e | .ok (n, l1) => if n = 0 then ev b l1 else ev a l1
def eval (s : List UInt8) (l : List Vr) : V := if toks s = [] then .ok (0, l) else match whole (toks s) with | .error c => .error c | .ok e => ev e l
def rng (n : Int) : Prop := -9223372036854775808 ≤ n ∧ n ≤ 9223372036854775807
theorem wrap_rng (n : Int) : rng (wrap64 n) := by unfold rng wrap64; omega
theorem bits_rng (op : BinOp) (a b : Int) : rng (bits op .i64 a b) := ⟨bits_lo_i64 op a b, bits_hi_i64 op a b⟩
theorem bit_rng (t : Bool) : rng (bit t) := by unfold rng bit; split <;> omega
theorem shr_rng {a : Int} (h : rng a) (k : Nat) : rng (a / 2 ^ k) := by
 have hp : (0 : Int) < 2 ^ k := Int.pow_pos (by decide)
 obtain ⟨h1, h2⟩ := h
 refine ⟨?_, ?_⟩
 · rw [Int.le_ediv_iff_mul_le hp]
   have : (1 : Int) ≤ 2 ^ k := hp
   have := Int.mul_le_mul_of_nonneg_left this (show (0 : Int) ≤ 9223372036854775808 by decide)
   omega
 · have := Int.ediv_le_self (b := (2 : Int) ^ k) (a := max a 0) (by omega)
   have h3 : a / 2 ^ k ≤ max a 0 / 2 ^ k := Int.ediv_le_ediv hp (by omega)
   omega
theorem tmod_rng {a : Int} (h : rng a) (b : Int) : rng (a.tmod b) := by
 have h1 : (a.tmod b).natAbs ≤ a.natAbs := by rw [Int.natAbs_tmod]; exact Nat.mod_le _ _
 have h2 : 0 ≤ a → 0 ≤ a.tmod b := fun h => Int.tmod_nonneg b h
 have h3 : a ≤ 0 → a.tmod b ≤ 0 := fun h => by have := Int.tmod_nonneg b (show 0 ≤ -a by omega); rw [Int.neg_tmod] at this; omega
 obtain ⟨h4, h5⟩ := h
 unfold rng
 omega
theorem two_rng {op : Tok} {a b m : Int} (h : rng a) (e : two op a b = .ok m) : rng m := by
 unfold two at e
 by_cases h1 : op = [43]
 · rw [if_pos h1] at e; cases e; exact wrap_rng _
 rw [if_neg h1] at e
 by_cases h2 : op = [45]
 · rw [if_pos h2] at e; cases e; exact wrap_rng _
 rw [if_neg h2] at e
 by_cases h3 : op = [42]
 · rw [if_pos h3] at e; cases e; exact wrap_rng _
 rw [if_neg h3] at e
 by_cases h4 : op = [47]
 · rw [if_pos h4] at e
   by_cases hb : b = 0
   · rw [if_pos hb] at e; cases e
   · rw [if_neg hb] at e; cases e; exact wrap_rng _
 rw [if_neg h4] at e
 by_cases h5 : op = [37]
 · rw [if_pos h5] at e
   by_cases hb : b = 0
   · rw [if_pos hb] at e; cases e
   · rw [if_neg hb] at e; cases e; exact tmod_rng h _
 rw [if_neg h5] at e
 by_cases h6 : op = [60, 60]
 · rw [if_pos h6] at e; cases e; exact wrap_rng _
 rw [if_neg h6] at e
 by_cases h7 : op = [62, 62]
 · rw [if_pos h7] at e; cases e; exact shr_rng h _
 rw [if_neg h7] at e
 by_cases h8 : op = [38]
 · rw [if_pos h8] at e; cases e; exact bits_rng _ _ _
 rw [if_neg h8] at e
 by_cases h9 : op = [124]
 · rw [if_pos h9] at e; cases e; exact bits_rng _ _ _
 rw [if_neg h9] at e
 by_cases h10 : op = [94]
 · rw [if_pos h10] at e; cases e; exact bits_rng _ _ _
 rw [if_neg h10] at e
 by_cases h11 : op = [60]
 · rw [if_pos h11] at e; cases e; exact bit_rng _
 rw [if_neg h11] at e
 by_cases h12 : op = [60, 61]
 · rw [if_pos h12] at e; cases e; exact bit_rng _
 rw [if_neg h12] at e
 by_cases h13 : op = [62]
 · rw [if_pos h13] at e; cases e; exact bit_rng _
 rw [if_neg h13] at e
 by_cases h14 : op = [62, 61]
 · rw [if_pos h14] at e; cases e; exact bit_rng _
 rw [if_neg h14] at e
 by_cases h15 : op = [61, 61]
 · rw [if_pos h15] at e; cases e; exact bit_rng _
 rw [if_neg h15] at e
 cases e; exact bit_rng _
theorem chg_rng {op : Tok} {a : Int} (h : rng a) : rng (chg op a) := by
 unfold chg
 split
 · exact wrap_rng _
 · split
   · exact bits_rng _ _ _
   · split
     · exact bit_rng _
     · exact h
theorem lit_map {s : List UInt8} {f : Int → Int} {n : Int} (e : Option.map f (do let a ← litV s; pure (a : Int)) = some n) : ∃ k, litV s = some k ∧ n = f (k : Int) := by
 cases hl : litV s with
 | none => rw [hl] at e; cases e
 | some k => rw [hl] at e; cases e; exact ⟨k, rfl, rfl⟩
theorem val_rng {s : List UInt8} {n : Int} (e : valV s = some n) : rng n := by
 unfold valV at e
 split at e
 · cases e; unfold rng; omega
 · obtain ⟨m, h1, rfl⟩ := lit_map e
   have := litV_le h1
   unfold rng; omega
 · obtain ⟨m, h1, rfl⟩ := lit_map e
   have := litV_le h1
   unfold rng; omega
def sz : Ex → Nat
 | .lit _ => 1
 | .var _ => 1
 | .asg _ _ e => 1 + sz e
 | .pre _ e => 1 + sz e
 | .bin _ a b => 1 + sz a + sz b
 | .cho c a b => 1 + sz c + sz a + sz b
def asgs : List Tok := [[61], [43, 61], [45, 61], [42, 61], [47, 61], [37, 61]]
def Wf : Ex → Prop
 | .lit n => n ≤ 9223372036854775807
 | .var x => x.length ≤ 1000000
 | .asg x o e => x.length ≤ 1000000 ∧ o ∈ asgs ∧ Wf e
 | .pre o e => o ∈ [[45], [43], [126], [33]] ∧ Wf e
 | .bin o a b => (o = [124, 124] ∨ o = [38, 38] ∨ o ∈ op2) ∧ Wf a ∧ Wf b
 | .cho c a b => Wf c ∧ Wf a ∧ Wf b
theorem itoa_len {n : Int} (h : rng n) : (Lib.itoa n).length ≤ 21 := by
 obtain ⟨h1, h2⟩ := h
 unfold Lib.itoa
 split
 · rw [List.length_cons, Lib.decDigits_length]
   have := Lib.nDigits_le20 n.natAbs (by omega)
   omega
 · rw [Lib.decDigits_length]
   have := Lib.nDigits_le20 n.toNat (by omega)
   omega
structure Ok (l : List Vr) : Prop where
 sorted : Sorted l
 small : ∀ v ∈ l, v.value.size ≤ 281474976710656
theorem getD_small {l : List Vr} (h : Ok l) (n : ByteArray) : (getD l n).value.size ≤ 281474976710656 := by
 unfold getD
 cases hg : Va.get? l n with
 | none => exact Nat.zero_le _
 | some v =>
   refine h.small v ?_
   unfold Va.get? at hg
   split at hg
   · cases hg
   · rename_i u t hd
     split at hg
     · cases hg
       exact List.mem_of_mem_drop (by rw [hd]; exact List.mem_cons_self ..)
     · cases hg
theorem set_ok {l m : List Vr} {n x : ByteArray} (h : Ok l) (hx : x.size ≤ 281474976710656) (e : set l n x = .ok m) : Ok m ∧ m.length ≤ l.length + 1 := by
 unfold Va.set at e
 split at e
 · cases e
 · split at e
   · cases e
   · cases e
     refine ⟨⟨Va.put_sorted h.sorted (.inr ⟨_, rfl, rfl⟩), fun v hv => ?_⟩, ?_⟩
     · unfold Va.put Va.before Va.behind at hv
       rw [List.mem_append, List.mem_append] at hv
       rcases hv with (hv | hv) | hv
       · exact h.small v (List.mem_of_mem_take hv)
       · rw [List.mem_singleton] at hv; subst hv; exact hx
       · exact h.small v (List.mem_of_mem_drop hv)
     · unfold Va.put Va.before Va.behind
       rw [List.length_append, List.length_append, List.length_take, List.length_drop, List.length_singleton]
       omega
theorem put_ok {x : Tok} {m n : Int} {l l2 : List Vr} (h : Ok l) (hm : rng m) (e : putV x m l = .ok (n, l2)) : n = m ∧ Ok l2 ∧ l2.length ≤ l.length + 1 := by
 unfold putV at e
 cases hs : set l (bs x) (digitsOf m) with
 | error c => rw [hs] at e; cases e
 | ok q =>
   rw [hs] at e
   cases e
   have := itoa_len hm
   exact ⟨rfl, set_ok h (by unfold digitsOf; rw [bs_size]; omega) hs⟩
theorem asg_rng {x o : Tok} {n m : Int} {l : List Vr} (hn : rng n) (e : asgV x o n l = .ok m) : rng m := by
 unfold asgV at e
 split at e
 · cases e; exact hn
 · split at e
   · cases e
   · rename_i a ha
     exact two_rng (val_rng ha) e
theorem snd_ok {o : Tok} {n m : Int} {f : List Vr → V} {l l2 : List Vr} {k : Nat} (h : Ok l) (hn : rng n) (hf : ∀ m l2, f l = .ok (m, l2) → Ok l2 ∧ rng m ∧ l2.length ≤ l.length + k) (e : snd o n f l = .ok (m, l2)) : Ok l2 ∧ rng m ∧ l2.length ≤ l.length + k := by
 have r1 : rng 1 := by unfold rng; omega
 have r0 : rng 0 := by unfold rng; omega
 unfold snd at e
 repeat' split at e
 all_goals first
   | (cases e; done)
   | (cases e; exact ⟨h, r1, by omega⟩)
   | (cases e; exact ⟨h, r0, by omega⟩)
   | (rename_i hq; cases e; have k := hf _ _ hq; exact ⟨k.1, bit_rng _, k.2.2⟩)
   | (rename_i hq _ _ ht; cases e; have k := hf _ _ hq; exact ⟨k.1, two_rng hn ht, k.2.2⟩)
   | (rename_i hq _ _ _ ht; cases e; have k := hf _ _ hq; exact ⟨k.1, two_rng hn ht, k.2.2⟩)
theorem ev_ok : ∀ {e : Ex} {l l2 : List Vr} {n : Int}, Wf e → Ok l → ev e l = .ok (n, l2) → Ok l2 ∧ rng n ∧ l2.length ≤ l.length + sz e
 | .lit n, l, l2, m, hw, h, e => by cases e; have hw : n ≤ 9223372036854775807 := hw; exact ⟨h, by unfold rng; omega, by omega⟩
 | .var x, l, l2, m, hw, h, e => by
   rw [ev] at e
   split at e
   · rename_i ha; cases e; exact ⟨h, val_rng ha, by omega⟩
   · cases e
 | .asg x o a, l, l2, m, hw, h, e => by
   rw [ev] at e
   cases ha : ev a l with
   | error c => rw [ha] at e; cases e
   | ok z =>
     obtain ⟨n, l1⟩ := z
     rw [ha] at e
     dsimp only at e
     have h1 := ev_ok hw.2.2 h ha
     cases hb : asgV x o n l1 with
     | error c => rw [hb] at e; cases e
     | ok q =>
       rw [hb] at e
       have hq := asg_rng h1.2.1 hb
       obtain ⟨rfl, h2, h3⟩ := put_ok h1.1 hq e
       exact ⟨h2, hq, by rw [sz]; omega⟩
 | .pre o a, l, l2, m, hw, h, e => by
   rw [ev] at e
   cases ha : ev a l with
   | error c => rw [ha] at e; cases e
   | ok z =>
     obtain ⟨n, l1⟩ := z
     rw [ha] at e
     cases e
     have h1 := ev_ok hw.2 h ha
     exact ⟨h1.1, chg_rng h1.2.1, by rw [sz]; omega⟩
 | .bin o a b, l, l2, m, hw, h, e => by
   rw [ev] at e
   cases ha : ev a l with
   | error c => rw [ha] at e; cases e
   | ok z =>
     obtain ⟨n, l1⟩ := z
     rw [ha] at e
     have h1 := ev_ok hw.2.1 h ha
     have h2 := snd_ok (k := sz b) h1.1 h1.2.1 (fun m l2 hb => ev_ok hw.2.2 h1.1 hb) e
     exact ⟨h2.1, h2.2.1, by rw [sz]; omega⟩
 | .cho c a b, l, l2, m, hw, h, e => by
   rw [ev] at e
   cases ha : ev c l with
   | error c => rw [ha] at e; cases e
   | ok z =>
     obtain ⟨n, l1⟩ := z
     rw [ha] at e
     dsimp only at e
     have h1 := ev_ok hw.1 h ha
     split at e
     · have h2 := ev_ok hw.2.2 h1.1 e
       exact ⟨h2.1, h2.2.1, by rw [sz]; omega⟩
     · have h2 := ev_ok hw.2.1 h1.1 e
       exact ⟨h2.1, h2.2.1, by rw [sz]; omega⟩
def Fine (f : P) : Prop := ∀ ts e r, (∀ t ∈ ts, t.length ≤ 1000000) → f ts = .ok (e, r) → Wf e ∧ sz e + r.length ≤ ts.length
theorem mem_suf {r ts : List Tok} (h : r <:+ ts) {t : Tok} (ht : t ∈ r) : t ∈ ts := h.subset ht
theorem bin_ops {t : Tok} (h : levelOf t ≠ 0) : t = [124, 124] ∨ t = [38, 38] ∨ t ∈ op2 := by
 unfold levelOf at h
 repeat' split at h
 all_goals first
   | exact absurd rfl h
   | (rename_i h1; subst h1; simp [op2]; done)
   | (rename_i h1; rcases h1 with h1 | h1 <;> subst h1 <;> simp [op2]; done)
   | (rename_i h1; rcases h1 with h1 | h1 | h1 <;> subst h1 <;> simp [op2]; done)
   | (rename_i h1; rcases h1 with h1 | h1 | h1 | h1 <;> subst h1 <;> simp [op2]; done)
theorem lp_fine {f : P} (hf : Fine f) (hs : ∀ ts e r, f ts = .ok (e, r) → r <:+ ts) {k : Nat} (hk : 1 ≤ k) : ∀ (m : Nat) (e : Ex) (ts : List Tok) (e' : Ex) (r : List Tok), (∀ t ∈ ts, t.length ≤ 1000000) → Wf e → lp f k m e ts = .ok (e', r) → Wf e' ∧ sz e' + r.length ≤ sz e + ts.length
 | 0, e, ts, e', r, _, hw, h => by cases h; exact ⟨hw, Nat.le_refl _⟩
 | m + 1, e, [], e', r, _, hw, h => by cases h; exact ⟨hw, Nat.le_refl _⟩
 | m + 1, e, t :: r0, e', r, hl, hw, h => by
   rw [lp] at h
   split at h
   · rename_i hk2
     cases hb : f r0 with
     | error c => rw [hb] at h; cases h
     | ok z =>
       obtain ⟨b, r1⟩ := z
       rw [hb] at h
       have h1 := hf _ _ _ (fun t ht => hl t (List.mem_cons_of_mem _ ht)) hb
       have h2 := lp_fine hf hs hk m _ _ _ _ (fun t ht => hl t (List.mem_cons_of_mem _ (mem_suf (hs _ _ _ hb) ht))) (show Wf (.bin t e b) from ⟨bin_ops (by omega), hw, h1.1⟩) h
       refine ⟨h2.1, ?_⟩
       have := h2.2
       rw [sz] at this
       rw [List.length_cons]
       omega
   · cases h; exact ⟨hw, Nat.le_refl _⟩
theorem lev_fine {f : P} (hf : Fine f) (hs : ∀ ts e r, f ts = .ok (e, r) → r <:+ ts) : ∀ (j : Nat), j ≤ 10 → Fine (lev f j)
 | 0, _ => hf
 | j + 1, hj => fun ts e r hl h => by
   rw [lev] at h
   cases hb : lev f j ts with
   | error c => rw [hb] at h; cases h
   | ok z =>
     obtain ⟨b, r1⟩ := z
     rw [hb] at h
     have h1 := lev_fine hf hs j (by omega) _ _ _ hl hb
     have h2 := lp_fine (lev_fine hf hs j (by omega)) (lev_suf hs j) (by omega) _ _ _ _ _ (fun t ht => hl t (mem_suf (lev_suf hs j _ _ _ hb) ht)) h1.1 h
     exact ⟨h2.1, by omega⟩
theorem oper_fine {ex op : P} (h1 : Fine ex) (h2 : Fine op) : Fine (operF ex op)
 | [], e, r, hl, h => by cases h
 | t :: r0, e, r, hl, h => by
   have hl2 : ∀ t ∈ r0, t.length ≤ 1000000 := fun t ht => hl t (List.mem_cons_of_mem _ ht)
   rw [operF] at h
   rw [List.length_cons]
   split at h
   · rename_i hp
     cases hb : op r0 with
     | error c => rw [hb] at h; cases h
     | ok z =>
       rw [hb] at h
       cases h
       have k := h2 _ _ _ hl2 hb
       refine ⟨⟨?_, k.1⟩, by rw [sz]; omega⟩
       simpa [isPre] using hp
   · split at h
     · split at h
       · cases h
       · rename_i hb
         cases h
         have k := h1 _ _ _ hl2 hb
         have := k.2
         rw [List.length_cons] at this
         exact ⟨k.1, by omega⟩
       · cases h
     · split at h
       · cases h; exact ⟨hl t (List.mem_cons_self ..), by rw [sz]; omega⟩
       · split at h
         · rename_i hn; cases h; exact ⟨litV_le hn, by rw [sz]; omega⟩
         · cases h
theorem cond_fine {op ex cd : P} (h0 : Fine op) (hs : ∀ ts e r, op ts = .ok (e, r) → r <:+ ts) (h1 : Fine ex) (hx : ∀ ts e r, ex ts = .ok (e, r) → r <:+ ts) (h2 : Fine cd) : Fine (condF op ex cd) := fun ts e r hl h => by
 have hL := lev_fine h0 hs 10 (by omega)
 unfold condF at h
 split at h
 · cases h
 · rename_i c r1 hb
   have k0 := hL _ _ _ hl hb
   have hl1 : ∀ t ∈ r1, t.length ≤ 1000000 := fun t ht => hl t (mem_suf (lev_suf hs 10 _ _ _ hb) (List.mem_cons_of_mem _ ht))
   split at h
   · cases h
   · rename_i a r2 hxr
     have k1 := h1 _ _ _ hl1 hxr
     split at h
     · cases h
     · rename_i b r3 hc
       cases h
       have k2 := h2 _ _ _ (fun t ht => hl1 t (mem_suf (hx _ _ _ hxr) (List.mem_cons_of_mem _ ht))) hc
       have e0 := k0.2
       have e1 := k1.2
       rw [List.length_cons] at e0 e1
       exact ⟨⟨k0.1, k1.1, k2.1⟩, by rw [sz]; omega⟩
   · cases h
 · rename_i hb
   cases h
   exact hL _ _ _ hl hb
theorem expr_fine {cd ex : P} (h1 : Fine cd) (h2 : Fine ex) : Fine (exprF cd ex) := fun ts e r hl h => by
 unfold exprF at h
 split at h
 · rename_i x o r0
   by_cases hp : isNm x = true ∧ assigns o = true
   · rw [if_pos hp] at h
     cases hb : ex r0 with
     | error c => rw [hb] at h; cases h
     | ok z =>
       rw [hb] at h
       cases h
       have k := h2 _ _ _ (fun t ht => hl t (by simp [ht])) hb
       exact ⟨⟨hl x (by simp), by simpa [assigns, asgs] using hp.2, k.1⟩, by rw [sz]; simp only [List.length_cons]; omega⟩
   · rw [if_neg hp] at h
     exact h1 _ _ _ hl h
 · exact h1 _ _ _ hl h
structure FineP (p : Ps) : Prop where
 ex : Fine p.ex
 cd : Fine p.cd
 op : Fine p.op
theorem ps_fine : ∀ n, FineP (ps n)
 | 0 => ⟨fun _ _ _ _ h => (nomatch h), fun _ _ _ _ h => (nomatch h), fun _ _ _ _ h => (nomatch h)⟩
 | n + 1 =>
   have I := ps_fine n
   have o := oper_fine I.ex I.op
   have c := cond_fine o (oper_suf (ps_suf n).ex (ps_suf n).op) I.ex (ps_suf n).ex I.cd
   ⟨expr_fine c I.ex, c, o⟩
theorem whole_fine {ts : List Tok} {e : Ex} (hl : ∀ t ∈ ts, t.length ≤ 1000000) (h : whole ts = .ok e) : Wf e ∧ sz e ≤ ts.length := by
 have k := (ps_fine 30).ex _ _ _ hl (whole_ok.1 h)
 exact ⟨k.1, by have := k.2; simpa using this⟩
end Ar
end
end Go.Proofs.YtlggpefmojacoaaGreatDoor
