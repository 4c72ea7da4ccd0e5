/-
  The program's next token: it is read as the chapter says.
-/
import Derived.Test.YtnafecdionhnfaaDoorPl5
namespace Go.Proofs.YtnafecdionhnfaaDoor
open Go.RowKit Tx
namespace Lx

/-- What the reading of the next token ends in. -/
inductive RE (w : World) (b : Nat) (s : ByteArray) (p : Nat) : Ending → World → Prop
  | on (w' : World) (v : Value) (q : Nat) (ts : List Tok) (ht : Kept (TM w' b s q v ts)) (hp : p < q) (hL : Left (toL s) ts ((toL s).drop q)) (hu : Up b w w') : RE w b s p (.returned (.tuple #[])) w'
  | bad (w' : World) (hn : toks (toL s) = none) (hu : Up b w w') : RE w b s p (.panicked (pan 80)) w'
theorem lead_no (r : ByteArray) (l : List UInt8) (w : World) (hr : Kept (toL r = l)) (hK : Kit w) (h : Kept (lead l = none)) : Calls Tryd.prog 19 #[.string r] w fun e w' => e = .returned (.string ⟨#[]⟩) ∧ w' = w := by
  have := leading_any r w hK
  rw [hr.out, leadS_none h.out] at this
  exact this
theorem lead_yes (r : ByteArray) (l o : List UInt8) (w : World) (hr : Kept (toL r = l)) (hK : Kit w) (h : Kept (lead l = some o)) : Calls Tryd.prog 19 #[.string r] w fun e w' => ∃ x : ByteArray, e = .returned (.string x) ∧ Kept (x = bs o) ∧ x.size = o.length ∧ (x.toList == ([] : List UInt8)) = false ∧ (x.toList != ([] : List UInt8)) = true ∧ w' = w := by
  have := leading_any r w hK
  rw [hr.out, leadS_some h.out] at this
  refine this.mono ?_
  rintro e w' ⟨rfl, rfl⟩
  have hne : ((bs o).toList == ([] : List UInt8)) = false := by
    have h1 := (lead_some h.out).1
    rw [ByteArray.toList_eq]
    cases o with
    | nil => simp at h1
    | cons c o => rfl
  exact ⟨_, rfl, ⟨rfl⟩, bs_size o, hne, by unfold bne; rw [hne]; rfl, rfl⟩
theorem blank35 (w : World) : Calls Tryd.prog 21 #[.int .u8 35] w fun e w' => e = .returned (.bool false) ∧ w' = w := blank_any 35 w false rfl
theorem blank10 (w : World) : Calls Tryd.prog 21 #[.int .u8 10] w fun e w' => e = .returned (.bool false) ∧ w' = w := blank_any 10 w false rfl
theorem plain_of {c : UInt8} (h1 : ¬ (c = 32 ∨ c = 9)) (h2 : c ≠ 35) (h3 : c ≠ 10) : plain c := ⟨fun e => h1 (.inl e), fun e => h1 (.inr e), h2, h3⟩
theorem left_len {s : ByteArray} {p : Nat} {ts : List Tok} (h : Left (toL s) ts ((toL s).drop p)) (hs : s.size ≤ 20000) : ts.length ≤ 20000 := by
  have := h.len
  rw [toL_length] at this
  omega
theorem up_mv {w w' : World} {b p : Nat} {s : ByteArray} {v : Value} {ts : List Tok} (h : TM w b s p v ts) (ho : Only (· = b) w w') : Up b w w' := Up.only ho (Nat.le_of_lt h.rm.rd.lt)

set_option maxHeartbeats 2000000 in
set_option maxRecDepth 100000 in
theorem read_blank (w : World) (b : Nat) (s : ByteArray) (p : Nat) (v : Value) (ts : List Tok) (H : Kept (TM w b s p v ts)) (HL : Kept (Left (toL s) ts ((toL s).drop p))) (hp : p < s.size) (hb : s[p]'hp = 32 ∨ s[p]'hp = 9) :
    Calls Tryd.prog 15 #[.pointer (some ⟨b, 0, none⟩)] w (RE w b s p) := by
  have HP := Kept.mk hp
  have c0 := H.out.rm.rd.c0
  have c1 := H.out.rm.rd.c1
  have z : (p : Int) < s.size := by omega
  have hsz := H.out.rm.rd.sz
  have HB : Kept (true = ((s[p]'hp) == 32 || (s[p]'hp) == 9)) := ⟨by rcases hb with e | e <;> rw [e] <;> rfl⟩
  have HN : Kept (Left (toL s) ts ((toL s).drop (p + 1))) := ⟨Left.blank (c := s[p]'hp) (by rw [← drop_at hp]; exact HL.out) hb⟩
  have HS : Kept (some (p + 1) = if p + 1 ≤ s.size then some (p + 1) else none) := ⟨(if_pos hp).symm⟩
  clear hb
  go_enter Tryd.func15, Tryd.ntmps15
  go_wp2_with fail
  go_quiet (fail)
  generalize hW0 : w.drewN nq = w0
  have H0 : Kept (TM w0 b s p v ts) := ⟨H.out.qt ⟨nq, hW0.symm⟩⟩
  have HU0 : Kept (Up b w w0) := ⟨up_mv H.out (Qt.only ⟨nq, hW0.symm⟩ _)⟩
  clear hW0 c0 c1
  go_wp2_with (first
    | (go_at_call 20; refine (rest_first w0 b s p v H0.out.rm.rd HP.out).mono ?_; rintro e0 w1 ⟨r, rfl, hq, hr, hz, hc0⟩; have H1 := Kept.mk (H0.out.qt hq); have HU1 : Kept (Up b w w1) := ⟨HU0.out.trans (up_mv H0.out (hq.only _))⟩; clear hq hz hc0)
    | (go_at_call 19; refine (leading_any r w1 H1.out.rm.kit).mono ?_; rintro e1 w2 ⟨rfl, rfl⟩; generalize leadS (toL r) = x0)
    | (go_at_call 21; refine (blank_any _ _ true HB.out).mono ?_; rintro e1 w3 ⟨rfl, rfl⟩))
  refine (skip_any _ b s p 1 v H1.out.rm.rd _ HS.out _ rfl).mono ?_
  rintro e1 w3 ⟨rfl, h3, ho3⟩
  have H3 := Kept.mk (H1.out.mv ⟨h3, ho3⟩)
  have HU3 : Kept (Up b w w3) := ⟨HU1.out.trans (up_mv H1.out ho3.out)⟩
  clear h3 ho3
  go_wp2_with fail
  refine bodyPost_end (results_none rfl _ _ _) rfl ?_
  exact .on _ v (p + 1) ts H3 (Nat.lt_succ_self p) HN.out HU3.out
set_option maxHeartbeats 2000000 in
set_option maxRecDepth 100000 in
theorem read_comment (w : World) (b : Nat) (s : ByteArray) (p : Nat) (v : Value) (ts : List Tok) (H : Kept (TM w b s p v ts)) (HL : Kept (Left (toL s) ts ((toL s).drop p))) (hp : p < s.size) (hc : s[p]'hp = 35) :
    Calls Tryd.prog 15 #[.pointer (some ⟨b, 0, none⟩)] w (RE w b s p) := by
  have HP := Kept.mk hp
  have c0 := H.out.rm.rd.c0
  have c1 := H.out.rm.rd.c1
  have z : (p : Int) < s.size := by omega
  have hsz := H.out.rm.rd.sz
  have HB : Kept (false = ((s[p]'hp) == 32 || (s[p]'hp) == 9)) := ⟨by rw [hc]; rfl⟩
  have z35 : (((s[p]'hp).toNat : Nat) : Int) = 35 := nat_byte (k := 35) hc (by omega)
  have ha : ahead 10 ((toL s).drop p) = ahead 10 ((toL s).drop (p + 1)) + 1 := by rw [drop_at hp, hc]; exact ahead_other (by decide) _
  have HN : Kept (Left (toL s) ts ((toL s).drop (p + ahead 10 ((toL s).drop p)))) := ⟨by
    have h1 : Left (toL s) ts (35 :: (toL s).drop (p + 1)) := by rw [← hc, ← drop_at hp]; exact HL.out
    have h2 := h1.comment
    rw [dropW_is, List.drop_drop] at h2
    rw [ha, show p + (ahead 10 ((toL s).drop (p + 1)) + 1) = p + 1 + ahead 10 ((toL s).drop (p + 1)) by omega]
    exact h2⟩
  have HA : Kept (p < p + ahead 10 ((toL s).drop p)) := ⟨by omega⟩
  clear hc ha
  go_enter Tryd.func15, Tryd.ntmps15
  go_wp2_with fail
  go_quiet (fail)
  generalize hW0 : w.drewN nq = w0
  have H0 : Kept (TM w0 b s p v ts) := ⟨H.out.qt ⟨nq, hW0.symm⟩⟩
  have HU0 : Kept (Up b w w0) := ⟨up_mv H.out (Qt.only ⟨nq, hW0.symm⟩ _)⟩
  clear hW0 c0 c1
  go_wp2_with (first
    | (go_at_call 20; refine (rest_first w0 b s p v H0.out.rm.rd HP.out).mono ?_; rintro e0 w1 ⟨r, rfl, hq, hr, hz, hc0⟩; have H1 := Kept.mk (H0.out.qt hq); have HU1 : Kept (Up b w w1) := ⟨HU0.out.trans (up_mv H0.out (hq.only _))⟩; clear hq hz hc0)
    | (go_at_call 19; refine (leading_any r w1 H1.out.rm.kit).mono ?_; rintro e1 w2 ⟨rfl, rfl⟩; generalize leadS (toL r) = x0)
    | (go_at_call 21; refine (blank35 _).mono ?_; rintro e1 w3 ⟨rfl, rfl⟩))
  refine (comment_any _ b s p v H1.out.rm _ rfl).mono ?_
  rintro e1 w3 ⟨rfl, h3, ho3⟩
  have H3 := Kept.mk (H1.out.mv ⟨h3, ho3⟩)
  have HU3 : Kept (Up b w w3) := ⟨HU1.out.trans (up_mv H1.out ho3.out)⟩
  clear h3 ho3
  go_wp2_with fail
  refine bodyPost_end (results_none rfl _ _ _) rfl ?_
  exact .on _ v _ ts H3 HA.out HN.out HU3.out
set_option maxHeartbeats 2000000 in
set_option maxRecDepth 100000 in
theorem read_line (w : World) (b : Nat) (s : ByteArray) (p : Nat) (v : Value) (ts : List Tok) (H : Kept (TM w b s p v ts)) (HL : Kept (Left (toL s) ts ((toL s).drop p))) (hp : p < s.size) (hc : s[p]'hp = 10) :
    Calls Tryd.prog 15 #[.pointer (some ⟨b, 0, none⟩)] w (RE w b s p) := by
  have HP := Kept.mk hp
  have c0 := H.out.rm.rd.c0
  have c1 := H.out.rm.rd.c1
  have z : (p : Int) < s.size := by omega
  have hsz := H.out.rm.rd.sz
  have HB : Kept (false = ((s[p]'hp) == 32 || (s[p]'hp) == 9)) := ⟨by rw [hc]; rfl⟩
  have z10 : (((s[p]'hp).toNat : Nat) : Int) = 10 := nat_byte (k := 10) hc (by omega)
  have HN : Kept (Left (toL s) (ts ++ [⟨2, ((toL s).drop p).take (p + 1 - p)⟩]) ((toL s).drop (p + 1))) := ⟨by
    have h1 : Left (toL s) ts (10 :: (toL s).drop (p + 1)) := by rw [← hc, ← drop_at hp]; exact HL.out
    have h2 := h1.line
    rw [show p + 1 - p = 1 by omega, drop_at hp, hc]
    exact h2⟩
  have HS : Kept (some (p + 1) = if p + 1 ≤ s.size then some (p + 1) else none) := ⟨(if_pos hp).symm⟩
  clear hc
  go_enter Tryd.func15, Tryd.ntmps15
  go_wp2_with fail
  go_quiet (fail)
  generalize hW0 : w.drewN nq = w0
  have H0 : Kept (TM w0 b s p v ts) := ⟨H.out.qt ⟨nq, hW0.symm⟩⟩
  have HU0 : Kept (Up b w w0) := ⟨up_mv H.out (Qt.only ⟨nq, hW0.symm⟩ _)⟩
  clear hW0 c0 c1
  go_wp2_with (first
    | (go_at_call 20; refine (rest_first w0 b s p v H0.out.rm.rd HP.out).mono ?_; rintro e0 w1 ⟨r, rfl, hq, hr, hz, hc0⟩; have H1 := Kept.mk (H0.out.qt hq); have HU1 : Kept (Up b w w1) := ⟨HU0.out.trans (up_mv H0.out (hq.only _))⟩; clear hq hz hc0)
    | (go_at_call 19; refine (leading_any r w1 H1.out.rm.kit).mono ?_; rintro e1 w2 ⟨rfl, rfl⟩; generalize leadS (toL r) = x0)
    | (go_at_call 21; refine (blank10 _).mono ?_; rintro e1 w3 ⟨rfl, rfl⟩))
  refine (skip_any _ b s p 1 v H1.out.rm.rd _ HS.out _ rfl).mono ?_
  rintro e1 w3 ⟨rfl, h3, ho3⟩
  have H3 := Kept.mk (H1.out.mv ⟨h3, ho3⟩)
  have HU3 : Kept (Up b w w3) := ⟨HU1.out.trans (up_mv H1.out ho3.out)⟩
  clear h3 ho3
  have HTl : Kept (ts.length ≤ 20000) := ⟨left_len HL.out hsz⟩
  go_wp2_with fail
  refine (add_any _ b s p (p + 1) v ts 2 H3.out (Nat.le_succ p) HTl.out _ rfl).mono ?_
  rintro e1 w4 ⟨rfl, v4, h4, hu4⟩
  have HU4 : Kept (Up b w w4) := ⟨HU3.out.trans hu4.out⟩
  have H4 := Kept.mk h4.out
  clear h4 hu4
  go_wp2_with fail
  refine bodyPost_end (results_none rfl _ _ _) rfl ?_
  exact .on _ v4 _ _ H4 (Nat.lt_succ_self p) HN.out HU4.out
set_option maxHeartbeats 2000000 in
set_option maxRecDepth 100000 in
theorem read_op (w : World) (b : Nat) (s : ByteArray) (p : Nat) (v : Value) (ts : List Tok) (H : Kept (TM w b s p v ts)) (HL : Kept (Left (toL s) ts ((toL s).drop p))) (hp : p < s.size) (hb : ¬ (s[p]'hp = 32 ∨ s[p]'hp = 9)) (h35 : s[p]'hp ≠ 35) (h10 : s[p]'hp ≠ 10) (o : List UInt8) (HLd : Kept (lead ((toL s).drop p) = some o)) :
    Calls Tryd.prog 15 #[.pointer (some ⟨b, 0, none⟩)] w (RE w b s p) := by
  have HP := Kept.mk hp
  have c0 := H.out.rm.rd.c0
  have c1 := H.out.rm.rd.c1
  have z : (p : Int) < s.size := by omega
  have hsz := H.out.rm.rd.sz
  have HB : Kept (false = ((s[p]'hp) == 32 || (s[p]'hp) == 9)) := ⟨by simpa [not_or] using hb⟩
  have z35 : ((((s[p]'hp).toNat : Nat) : Int) == 35) = false := nat_nbyte (k := 35) h35 (by omega)
  have z10 : ((((s[p]'hp).toNat : Nat) : Int) == 10) = false := nat_nbyte (k := 10) h10 (by omega)
  have hls := lead_some HLd.out
  have hlp : o.length + p ≤ s.size := by have := hls.2.1; rw [List.length_drop, toL_length] at this; omega
  have HN : Kept (Left (toL s) (ts ++ [⟨1, ((toL s).drop p).take (p + o.length - p)⟩]) ((toL s).drop (p + o.length))) := ⟨by
    have h1 : Left (toL s) ts (s[p]'hp :: (toL s).drop (p + 1)) := by rw [← drop_at hp]; exact HL.out
    have h2 := h1.op (plain_of hb h35 h10) (by rw [← drop_at hp]; exact HLd.out)
    rw [← drop_at hp, List.drop_drop] at h2
    rw [show p + o.length - p = o.length by omega, ← hls.2.2.2]
    exact h2⟩
  have HS : Kept (some (p + o.length) = if p + o.length ≤ s.size then some (p + o.length) else none) := ⟨(if_pos (by omega)).symm⟩
  have HPo : Kept (p < p + o.length) := ⟨by have := hls.1; omega⟩
  clear hb h35 h10 hls hlp
  go_enter Tryd.func15, Tryd.ntmps15
  go_wp2_with fail
  go_quiet (fail)
  generalize hW0 : w.drewN nq = w0
  have H0 : Kept (TM w0 b s p v ts) := ⟨H.out.qt ⟨nq, hW0.symm⟩⟩
  have HU0 : Kept (Up b w w0) := ⟨up_mv H.out (Qt.only ⟨nq, hW0.symm⟩ _)⟩
  clear hW0 c0 c1
  go_wp2_with (first
    | (go_at_call 20; refine (rest_first w0 b s p v H0.out.rm.rd HP.out).mono ?_; rintro e0 w1 ⟨r, rfl, hq, hr, hz, hc0⟩; have H1 := Kept.mk (H0.out.qt hq); have HU1 : Kept (Up b w w1) := ⟨HU0.out.trans (up_mv H0.out (hq.only _))⟩; clear hq hz hc0)
    | (go_at_call 19; refine (lead_yes r _ o w1 hr H1.out.rm.kit HLd).mono ?_; rintro e1 w2 ⟨x, rfl, hx, hxs, x1, x2, rfl⟩)
    | (go_at_call 21; refine (blank_any _ _ false HB.out).mono ?_; rintro e1 w3 ⟨rfl, rfl⟩))
  refine (skip_any _ b s p o.length v H1.out.rm.rd _ HS.out _ (by omega)).mono ?_
  rintro e1 w3 ⟨rfl, h3, ho3⟩
  have H3 := Kept.mk (H1.out.mv ⟨h3, ho3⟩)
  have HU3 : Kept (Up b w w3) := ⟨HU1.out.trans (up_mv H1.out ho3.out)⟩
  clear h3 ho3
  have HTl : Kept (ts.length ≤ 20000) := ⟨left_len HL.out hsz⟩
  go_wp2_with fail
  refine (add_any _ b s p (p + o.length) v ts 1 H3.out (Nat.le_of_lt HPo.out) HTl.out _ rfl).mono ?_
  rintro e1 w4 ⟨rfl, v4, h4, hu4⟩
  have HU4 : Kept (Up b w w4) := ⟨HU3.out.trans hu4.out⟩
  have H4 := Kept.mk h4.out
  clear h4 hu4
  go_wp2_with fail
  refine bodyPost_end (results_none rfl _ _ _) rfl ?_
  exact .on _ v4 _ _ H4 HPo.out HN.out HU4.out
set_option maxHeartbeats 2000000 in
set_option maxRecDepth 100000 in
theorem read_word (w : World) (b : Nat) (s : ByteArray) (p : Nat) (v : Value) (ts : List Tok) (H : Kept (TM w b s p v ts)) (HL : Kept (Left (toL s) ts ((toL s).drop p))) (hp : p < s.size) (hb : ¬ (s[p]'hp = 32 ∨ s[p]'hp = 9)) (h35 : s[p]'hp ≠ 35) (h10 : s[p]'hp ≠ 10) (HLd : Kept (lead ((toL s).drop p) = none)) (k : Nat) (HW : Kept (word ((toL s).drop p) = some k)) :
    Calls Tryd.prog 15 #[.pointer (some ⟨b, 0, none⟩)] w (RE w b s p) := by
  have HP := Kept.mk hp
  have c0 := H.out.rm.rd.c0
  have c1 := H.out.rm.rd.c1
  have z : (p : Int) < s.size := by omega
  have hsz := H.out.rm.rd.sz
  have HB : Kept (false = ((s[p]'hp) == 32 || (s[p]'hp) == 9)) := ⟨by simpa [not_or] using hb⟩
  have z35 : ((((s[p]'hp).toNat : Nat) : Int) == 35) = false := nat_nbyte (k := 35) h35 (by omega)
  have z10 : ((((s[p]'hp).toNat : Nat) : Int) == 10) = false := nat_nbyte (k := 10) h10 (by omega)
  have hk1 : 1 ≤ k := word_pos (c := s[p]'hp) (r := (toL s).drop (p + 1)) (lead_none (by rw [← drop_at hp]; exact HLd.out) (fun e => hb (.inl e)) (fun e => hb (.inr e)) h10) (by rw [← drop_at hp]; exact HW.out)
  have HN : Kept (Left (toL s) (ts ++ [⟨0, ((toL s).drop p).take (p + k - p)⟩]) ((toL s).drop (p + k))) := ⟨by
    have h1 : Left (toL s) ts (s[p]'hp :: (toL s).drop (p + 1)) := by rw [← drop_at hp]; exact HL.out
    have h2 := h1.word (plain_of hb h35 h10) (by rw [← drop_at hp]; exact HLd.out) (by rw [← drop_at hp]; exact HW.out)
    rw [← drop_at hp, List.drop_drop] at h2
    rw [show p + k - p = k by omega]
    exact h2⟩
  have HWa : Kept (some (p + k) = wordAt (toL s) p) := ⟨by unfold wordAt; rw [HW.out]; rfl⟩
  have HPo : Kept (p < p + k) := ⟨by omega⟩
  clear hb h35 h10 hk1
  go_enter Tryd.func15, Tryd.ntmps15
  go_wp2_with fail
  go_quiet (fail)
  generalize hW0 : w.drewN nq = w0
  have H0 : Kept (TM w0 b s p v ts) := ⟨H.out.qt ⟨nq, hW0.symm⟩⟩
  have HU0 : Kept (Up b w w0) := ⟨up_mv H.out (Qt.only ⟨nq, hW0.symm⟩ _)⟩
  clear hW0 c0 c1
  go_wp2_with (first
    | (go_at_call 20; refine (rest_first w0 b s p v H0.out.rm.rd HP.out).mono ?_; rintro e0 w1 ⟨r, rfl, hq, hr, hz, hc0⟩; have H1 := Kept.mk (H0.out.qt hq); have HU1 : Kept (Up b w w1) := ⟨HU0.out.trans (up_mv H0.out (hq.only _))⟩; clear hq hz hc0)
    | (go_at_call 19; refine (lead_no r _ w1 hr H1.out.rm.kit HLd).mono ?_; rintro e1 w2 ⟨rfl, rfl⟩)
    | (go_at_call 21; refine (blank_any _ _ false HB.out).mono ?_; rintro e1 w3 ⟨rfl, rfl⟩))
  refine (word_any _ b s p v H1.out.rm _ HWa).mono ?_
  rintro e1 w3 ⟨rfl, h3, ho3⟩
  have H3 := Kept.mk (H1.out.mv ⟨h3, ho3⟩)
  have HU3 : Kept (Up b w w3) := ⟨HU1.out.trans (up_mv H1.out ho3.out)⟩
  clear h3 ho3
  have HTl : Kept (ts.length ≤ 20000) := ⟨left_len HL.out hsz⟩
  go_wp2_with fail
  refine (add_any _ b s p (p + k) v ts 0 H3.out (Nat.le_of_lt HPo.out) HTl.out _ rfl).mono ?_
  rintro e1 w4 ⟨rfl, v4, h4, hu4⟩
  have HU4 : Kept (Up b w w4) := ⟨HU3.out.trans hu4.out⟩
  have H4 := Kept.mk h4.out
  clear h4 hu4
  go_wp2_with fail
  refine bodyPost_end (results_none rfl _ _ _) rfl ?_
  exact .on _ v4 _ _ H4 HPo.out HN.out HU4.out
set_option maxHeartbeats 2000000 in
set_option maxRecDepth 100000 in
theorem read_bad (w : World) (b : Nat) (s : ByteArray) (p : Nat) (v : Value) (ts : List Tok) (H : Kept (TM w b s p v ts)) (HL : Kept (Left (toL s) ts ((toL s).drop p))) (hp : p < s.size) (hb : ¬ (s[p]'hp = 32 ∨ s[p]'hp = 9)) (h35 : s[p]'hp ≠ 35) (h10 : s[p]'hp ≠ 10) (HLd : Kept (lead ((toL s).drop p) = none)) (HW : Kept (word ((toL s).drop p) = none)) :
    Calls Tryd.prog 15 #[.pointer (some ⟨b, 0, none⟩)] w (RE w b s p) := by
  have HP := Kept.mk hp
  have c0 := H.out.rm.rd.c0
  have c1 := H.out.rm.rd.c1
  have z : (p : Int) < s.size := by omega
  have hsz := H.out.rm.rd.sz
  have HB : Kept (false = ((s[p]'hp) == 32 || (s[p]'hp) == 9)) := ⟨by simpa [not_or] using hb⟩
  have z35 : ((((s[p]'hp).toNat : Nat) : Int) == 35) = false := nat_nbyte (k := 35) h35 (by omega)
  have z10 : ((((s[p]'hp).toNat : Nat) : Int) == 10) = false := nat_nbyte (k := 10) h10 (by omega)
  have HN : Kept (toks (toL s) = none) := ⟨by
    have h1 : Left (toL s) ts (s[p]'hp :: (toL s).drop (p + 1)) := by rw [← drop_at hp]; exact HL.out
    exact h1.bad (plain_of hb h35 h10) (by rw [← drop_at hp]; exact HLd.out) (by rw [← drop_at hp]; exact HW.out)⟩
  have HWa : Kept (none = wordAt (toL s) p) := ⟨by unfold wordAt; rw [HW.out]; rfl⟩
  clear hb h35 h10
  go_enter Tryd.func15, Tryd.ntmps15
  go_wp2_with fail
  go_quiet (fail)
  generalize hW0 : w.drewN nq = w0
  have H0 : Kept (TM w0 b s p v ts) := ⟨H.out.qt ⟨nq, hW0.symm⟩⟩
  have HU0 : Kept (Up b w w0) := ⟨up_mv H.out (Qt.only ⟨nq, hW0.symm⟩ _)⟩
  clear hW0 c0 c1
  go_wp2_with (first
    | (go_at_call 20; refine (rest_first w0 b s p v H0.out.rm.rd HP.out).mono ?_; rintro e0 w1 ⟨r, rfl, hq, hr, hz, hc0⟩; have H1 := Kept.mk (H0.out.qt hq); have HU1 : Kept (Up b w w1) := ⟨HU0.out.trans (up_mv H0.out (hq.only _))⟩; clear hq hz hc0)
    | (go_at_call 19; refine (lead_no r _ w1 hr H1.out.rm.kit HLd).mono ?_; rintro e1 w2 ⟨rfl, rfl⟩)
    | (go_at_call 21; refine (blank_any _ _ false HB.out).mono ?_; rintro e1 w3 ⟨rfl, rfl⟩))
  refine (word_any _ b s p v H1.out.rm _ HWa).mono ?_
  rintro e1 w3 ⟨rfl, ho3⟩
  exact ⟨rfl, .bad _ HN.out (HU1.out.trans (up_mv H1.out ho3.out))⟩
theorem read_any (w : World) (b : Nat) (s : ByteArray) (p : Nat) (v : Value) (ts : List Tok) (H : Kept (TM w b s p v ts)) (HL : Kept (Left (toL s) ts ((toL s).drop p))) (hp : p < s.size) :
    Calls Tryd.prog 15 #[.pointer (some ⟨b, 0, none⟩)] w (RE w b s p) := by
  by_cases hb : s[p]'hp = 32 ∨ s[p]'hp = 9
  · exact read_blank w b s p v ts H HL hp hb
  · by_cases h35 : s[p]'hp = 35
    · exact read_comment w b s p v ts H HL hp h35
    · by_cases h10 : s[p]'hp = 10
      · exact read_line w b s p v ts H HL hp h10
      · cases hl : lead ((toL s).drop p) with
        | some o => exact read_op w b s p v ts H HL hp hb h35 h10 o ⟨hl⟩
        | none =>
          cases hw : word ((toL s).drop p) with
          | none => exact read_bad w b s p v ts H HL hp hb h35 h10 ⟨hl⟩ ⟨hw⟩
          | some k => exact read_word w b s p v ts H HL hp hb h35 h10 ⟨hl⟩ k ⟨hw⟩
end Lx
end Go.Proofs.YtnafecdionhnfaaDoor
