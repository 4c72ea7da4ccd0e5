/-
  The document's lists of parts: one more part, of any list; all quoted.
-/
import Derived.Test.YtphgnjjblpmijaaDoorWr3M
namespace Go.Proofs.YtphgnjjblpmijaaDoor
open Go.RowKit Tx
namespace Wx
variable {P : Nat → Prop}

mutual
/-- How many parts and bytes there are. -/
def wt : List Pt → Nat
  | [] => 0
  | p :: l => wtP p + wt l
def wtP : Pt → Nat
  | .mk _ _ t n o w => 1 + t.length + n.length + o.length + wt w
end
theorem wt_append (a b : List Pt) : wt (a ++ b) = wt a + wt b := by
  induction a with
  | nil => rw [List.nil_append, show wt [] = 0 by rw [wt]]; omega
  | cons p a ih => rw [List.cons_append, wt, wt, ih]; omega
theorem wtP_pos (p : Pt) : 1 + p.text.length ≤ wtP p := by
  cases p with
  | mk k q t n o w => rw [wtP]; show 1 + t.length ≤ _; omega
theorem wt_len (l : List Pt) : l.length ≤ wt l := by
  induction l with
  | nil => exact Nat.zero_le _
  | cons p l ih => have := wtP_pos p; rw [wt, List.length_cons]; omega
theorem wt_one (p : Pt) : wt [p] = wtP p := by rw [wt, show wt [] = 0 by rw [wt]]; omega
theorem wt_add (l : List Pt) (p : Pt) : wt (add l p) ≤ wt l + wtP p := by
  rcases List.eq_nil_or_concat l with rfl | ⟨l0, a, rfl⟩
  · rw [add_nil, wt_one]; omega
  · rw [List.concat_eq_append, add_snoc]
    split
    · rw [wt_append, wt_append, wt_one, wt_one]
      cases a with
      | mk k q t n o w =>
        have := wtP_pos p
        have e : joined (.mk k q t n o w) p = .mk k q (t ++ p.text) n o w := rfl
        rw [e, wtP, wtP, List.length_append]
        omega
    · rw [wt_append, wt_one]; omega
mutual
theorem wt_quotesOn : ∀ (l acc : List Pt), wt (quotesOn acc l) ≤ wt acc + wt l
  | [], acc => by rw [quotesOn]; omega
  | p :: l, acc => by
    rw [quotesOn, wt]
    have h1 := wt_quotesOn l (add acc (quoteP p))
    have h2 := wt_add acc (quoteP p)
    have h3 := wt_quoteP p
    omega
theorem wt_quoteP : ∀ (p : Pt), wtP (quoteP p) ≤ wtP p
  | .mk k q t n o w => by
    rw [quoteP, wtP, wtP]
    have := wt_quotesOn w []
    have e : wt [] = 0 := by rw [wt]
    omega
end
mutual
theorem cnt_wt : ∀ (l : List Pt), cnt l ≤ wt l
  | [] => by rw [cnt]; omega
  | p :: l => by rw [cnt, wt]; have := cnt_wt l; have := cntP_wt p; omega
theorem cntP_wt : ∀ (p : Pt), cntP p ≤ wtP p
  | .mk k q t n o w => by rw [cntP, wtP]; have := cnt_wt w; omega
end
theorem wt_drop {l : List Pt} {j : Nat} (hj : j < l.length) : wt (l.drop j) = wtP l[j] + wt (l.drop (j + 1)) := by rw [List.drop_eq_getElem_cons hj, wt]
theorem add_any (l : List Pt) (p : Pt) (kk : Int) (q : Bool) (t nn o : List UInt8) (wd : List Pt) (hp : p = .mk kk q t nn o wd) (vv : Value) (A : Option Addr) (n k : Nat) (w : World) (hl : LV P w (.slice A n k) l) (hsz : wt l + wtP p ≤ 100000) (hv : vv.oneCell' = true) (hw : LV P w vv wd) :
    Calls Tryd.prog 26 #[.slice A n k, .agg #[.int .i64 kk, .bool q, .string (bs t), .string (bs nn), .string (bs o), vv]] w fun e w' => ∃ v', e = .returned v' ∧ Kept (LV (Up P w.heap.size) w' v' (add l p)) ∧ Below w.heap.size w w' := by
  subst hp
  rcases List.eq_nil_or_concat l with rfl | ⟨l0, a, rfl⟩
  · rw [add_nil]
    exact addE kk q t nn o wd vv A n k w hl hv hw
  · obtain ⟨ka, qa, ta, na, oa, wa⟩ := a
    rw [List.concat_eq_append] at hl hsz ⊢
    rw [add_snoc]
    rw [wt_append, wt_one, wtP, wtP] at hsz
    have hlen : l0.length ≤ 100000 := by have := wt_len l0; omega
    have ht : ta.length + t.length ≤ 1000000000 := by omega
    have ha : alike (.mk ka qa ta na oa wa) (.mk kk q t nn o wd) = ((kk == 0) && (ka == 0) && (qa == q)) := rfl
    by_cases hk : kk = 0
    · by_cases hka : ka = 0
      · cases hq : qa == q with
        | true =>
          rw [if_pos (by rw [ha, hq]; simp [hk, hka])]
          exact addS_m l0 ka qa ta na oa wa kk q t nn o wd vv A n k w hl hlen hv hw ht hk hka hq
        | false =>
          rw [if_neg (by rw [ha, hq]; simp)]
          exact addS_q l0 ka qa ta na oa wa kk q t nn o wd vv A n k w hl hlen hv hw ht hk hka hq
      · rw [if_neg (by rw [ha]; simp [hka])]
        exact addS_a l0 ka qa ta na oa wa kk q t nn o wd vv A n k w hl hlen hv hw ht hk hka
    · rw [if_neg (by rw [ha]; simp [hk])]
      exact addS_k l0 ka qa ta na oa wa kk q t nn o wd vv A n k w hl hlen hv hw ht hk
set_option maxHeartbeats 2000000 in
set_option maxRecDepth 100000 in
theorem quotes_any (N : Nat) : ∀ (P : Nat → Prop) (l : List Pt) (A : Option Addr) (n k : Nat) (w : World), cnt l = N → LV P w (.slice A n k) l → wt l ≤ 100000 →
    Calls Tryd.prog 47 #[.slice A n k] w fun e w' => ∃ v', e = .returned v' ∧ Kept (LV (Up P w.heap.size) w' v' (quotes l)) ∧ Below w.heap.size w w' := by
  induction N using Nat.strongRecOn with
  | _ N ih =>
    intro P l A n k w hN hl hsz
    have IH := Kept.mk ih
    have HSz := Kept.mk hsz
    obtain rfl := hl.len
    have hlen : l.length ≤ 100000 := Nat.le_trans (wt_len l) hsz
    have H := Kept.mk hl
    have HN := Kept.mk hN
    obtain ⟨ll, hll⟩ : ∃ ll, ll = l.length := ⟨_, rfl⟩
    have HLL := Kept.mk hll
    rw [← hll] at hlen H ⊢
    clear ih hsz hl hN hll
    go_enter Tryd.func47, Tryd.ntmps47
    go_wp2_with fail
    go_loopw [3, 4] (fun v i wr => ∃ (j : Nat) (acc : List Pt), j ≤ ll ∧ i = .int .i64 (j : Int) ∧ Kept (LV (Up P w.heap.size) wr v acc) ∧ Kept (quotes l = quotesOn acc (l.drop j) ∧ wt acc + wt (l.drop j) ≤ 100000) ∧ Kept (Below w.heap.size w wr)) (fun _ i _ => ll - (intOf i).toNat)
    case atStart => exact ⟨0, [], by omega, rfl, ⟨.nil _ _ (fun _ => rfl)⟩, ⟨⟨rfl, by rw [List.drop_zero, show wt [] = 0 by rw [wt]]; have := HSz.out; omega⟩⟩, ⟨Below.refl _ _⟩⟩
    case round =>
      obtain ⟨j, acc, hj, rfl, HA, HQ, HB⟩ := hrel
      have j0 : (0 : Int) ≤ j := by omega
      obtain ⟨Aa, ka, hva⟩ := HA.out.slice
      subst hva
      by_cases hlt : j < ll
      · have j1 : (j : Int) < (ll : Int) := by omega
        have hjl : j < l.length := by have := HLL.out; omega
        obtain ⟨g, off, kk, q, t, nn, o, wd, v, e, hg, hp, hv, hwd, c0, c1, c2, c3, c4, c5⟩ := (H.out.keep HB.out).get hjl
        subst e
        obtain ⟨A2, k2, rfl⟩ := hwd.slice
        have hcw := cnt_word hjl hp
        have hqj : quotesOn acc (l.drop j) = quotesOn (add acc (.mk kk true t nn o (quotes wd))) (l.drop (j + 1)) := by
          rw [List.drop_eq_getElem_cons hjl, quotesOn, hp, quoteP]; rfl
        have hwd1 := wt_drop hjl
        have hwq := wt_quoteP l[j]
        rw [hp, quoteP] at hwq
        rw [hp] at hwd1
        have hadd := wt_add acc (.mk kk true t nn o (quotes wd))
        have hsz := HQ.out.2
        have HSa : Kept (wt acc + wtP (.mk kk true t nn o (quotes wd)) ≤ 100000) := ⟨by change wtP (.mk kk true t nn o (quotes wd)) ≤ _ at hwq; omega⟩
        have HQ2 : Kept (quotes l = quotesOn (add acc (.mk kk true t nn o (quotes wd))) (l.drop (j + 1)) ∧ wt (add acc (.mk kk true t nn o (quotes wd))) + wt (l.drop (j + 1)) ≤ 100000) := ⟨⟨by rw [HQ.out.1, hqj], by change wtP (.mk kk true t nn o (quotes wd)) ≤ _ at hwq; omega⟩⟩
        have hwt : wt wd ≤ 100000 := by rw [wtP] at hwd1; omega
        have HWt := Kept.mk hwt
        have HCw : Kept (cnt wd < N) := ⟨by have := HN.out; omega⟩
        have HWd := Kept.mk hwd.old
        clear hqj hwd1 hwq hadd hsz hwt hcw hp hjl hwd
        generalize hal : acc.length = al at *
        generalize hwl : wd.length = wl at *
        have HAl := Kept.mk hal
        clear hal hwl hg
        have T1 : Kept True := ⟨trivial⟩
        have HBx : Kept (Below wr.heap.size wr (wr.alloc (.cells #[.int .i64 kk, .bool true, .string (bs t), .string (bs nn), .string (bs o), .slice A2 wl k2] 39))) := ⟨(Below.refl _ _).alloc (Nat.le_refl _) _⟩
        go_wp2_with (first
          | (go_at_call 47
             refine (IH.out (cnt wd) HCw.out _ wd A2 wl k2 _ rfl (HWd.out.keep HBx.out) HWt.out).mono ?_
             rintro e w2 ⟨v2, rfl, h2, hb2⟩
             obtain ⟨A3, k3, hv3⟩ := h2.out.slice
             generalize (quotes wd).length = ql at hv3
             subst hv3
             have HX2 : Kept (w2.heap[wr.heap.size]? = some (.cells #[.int .i64 kk, .bool true, .string (bs t), .string (bs nn), .string (bs o), .slice A2 wl k2] 39 (0, 0))) := ⟨(hb2.block _ (by simp)).trans (heap_alloc_new wr _)⟩
             have H2 := h2
             have HB2 : Kept (Below wr.heap.size wr w2) := ⟨HBx.out.trans (hb2.mono (by simp))⟩
             have x5 := cell_of_row _ _ 5 _ _ _ HX2.out
             have f5 := frozen_of_row _ _ 5 _ _ HX2.out
             have HX3 : Kept ((w2.setCell ⟨wr.heap.size, 5, none⟩ (.slice A3 ql k3)).heap[wr.heap.size]? = some (.cells #[.int .i64 kk, .bool true, .string (bs t), .string (bs nn), .string (bs o), .slice A3 ql k3] 39 (0, 0))) := ⟨by have := heap_setCell_same w2 wr.heap.size 5 _ _ (.slice A3 ql k3) HX2.out; simpa using this⟩
             have HB3 : Kept (Below wr.heap.size wr (w2.setCell ⟨wr.heap.size, 5, none⟩ (.slice A3 ql k3))) := ⟨HB2.out.setCell (Nat.le_refl _) _⟩
             have HL3 : Kept (LV (Up P w.heap.size) (w2.setCell ⟨wr.heap.size, 5, none⟩ (.slice A3 ql k3)) (.slice A3 ql k3) (quotes wd)) := ⟨h2.out.same (fun g hP hg => by
               have hne : g ≠ wr.heap.size := by
                 rcases hP with h | h
                 · exact Nat.ne_of_lt h.2
                 · rw [World.size_alloc] at h; omega
               refine ⟨hP.elim (fun h => .inl h.1) (fun h => .inr ?_), Below.heap_setCell w2 _ _ g hne⟩
               have := HB.out.size
               rw [World.size_alloc] at h
               omega) (by simp [World.setCell])⟩
             clear h2 hb2 T1)
          | (refine wpList_load_row rfl 39 _ rfl wr.heap.size rfl 39 #[.int .i64 kk, .bool true, .string (bs t), .string (bs nn), .string (bs o), .slice A3 ql k3] (0, 0) _ HX3.out Tryd.underlying39 rfl (by kernel_rfl) ?_)
          | (go_at_call 26
             refine (add_any acc _ kk true t nn o (quotes wd) rfl (.slice A3 ql k3) Aa al ka _ (HA.out.keep HB3.out) HSa.out rfl HL3.out).mono ?_
             rintro e w4 ⟨v4, rfl, h4, hb4⟩
             have HA4 : Kept (LV (Up P w.heap.size) w4 v4 (add acc (.mk kk true t nn o (quotes wd)))) := ⟨h4.out.mono fun g hg _ => hg.elim id fun h => .inr (by have h1 := HB3.out.size; have h2 := HB.out.size; omega)⟩
             have HB4 : Kept (Below w.heap.size w w4) := ⟨HB.out.trans ((HB3.out.trans (hb4.mono HB3.out.size)).mono HB.out.size)⟩
             clear h4 hb4))
        go_roundw
        case rel => exact ⟨j + 1, _, by omega, by go_num, HA4, HQ2, HB4⟩
        case measure => simp [intOf]; omega
      · have j1 : ¬ (j : Int) < (ll : Int) := by omega
        have HR : Kept (quotes l = acc) := ⟨by rw [HQ.out.1, List.drop_eq_nil_of_le (by have := HLL.out; omega), quotesOn]⟩
        clear hlt
        generalize acc.length = al at *
        go_wp2_with fail
        go_ret
        exact ⟨_, rfl, ⟨by rw [HR.out]; exact HA.out⟩, HB.out⟩
end Wx
end Go.Proofs.YtphgnjjblpmijaaDoor
