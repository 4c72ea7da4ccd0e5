/-
  Parts of the proof, merged.
-/
import Derived.Test.YtlggpefmojacoaaGreatDoorLa34
namespace Go.Proofs.YtlggpefmojacoaaGreatDoor
section
open Go.RowKit Tx
namespace Wx
open Lx
def HeadQ (l : List UInt8) (c : UInt8) : Prop := l.head? = some c ∧ (c = 92 ∨ c = 39 ∨ c = 34)
structure QuoC (d : Nat) (dep : Int) : Prop where
 ok : ∀ (s : ByteArray) (w : World) (b : Nat) (acc : List Pt) (pv tv : Value) (c : UInt8) (l : List Pt) (k : Nat), Kept (step1 (parts d) (toL s) = .ok (l, k)) → Kept (HeadQ (toL s) c) → s.size ≤ 1500000 → Kept (wt acc + 2 * s.size ≤ 15000000) → Kit w → Ahead b → Kept (St w b dep acc pv tv) →
   Calls Tryz.prog 154 #[.pointer (some ⟨b, 0, none⟩), .string s] w fun e w' => e = .returned (.tuple #[.int .i64 (k : Int), .int .i64 0]) ∧ ∃ pv' tv', Kept (St w' b dep (l.foldl add acc) pv' tv') ∧ Kept (Fr b pv tv pv' tv' w w')
 no : ∀ (s : ByteArray) (w : World) (b : Nat) (acc : List Pt) (pv tv : Value) (c : UInt8) (f : Int), Kept (step1 (parts d) (toL s) = .error f) → Kept (HeadQ (toL s) c) → s.size ≤ 1500000 → Kept (wt acc + 2 * s.size ≤ 15000000) → Kit w → Ahead b → Kept (St w b dep acc pv tv) →
   Calls Tryz.prog 154 #[.pointer (some ⟨b, 0, none⟩), .string s] w fun e w' => ∃ n : Int, e = .returned (.tuple #[.int .i64 n, .int .i64 f]) ∧ (f == 0) = false ∧ Kept (Below b w w')
def big (w : List UInt8 → Except Int (List Pt)) (s : List UInt8) : Except Int (List Pt × Nat) :=
 if 0 < runL s then .ok ([txt false (s.take (runL s))], runL s) else step1 w s
theorem run_lits (s : List UInt8) : ∀ c ∈ s.take (runL s), lit c = true := by
 intro c hc
 have h : s.take (runL s) = s.takeWhile lit := by unfold runL; exact take_takeW s
 rw [h] at hc
 have : ∀ (l : List UInt8), ∀ c ∈ l.takeWhile lit, lit c = true := by
   intro l
   induction l with
   | nil => intro c hc; simp at hc
   | cons a l ih =>
     intro c hc
     rw [List.takeWhile_cons] at hc
     split at hc
     · rename_i ha
       rcases List.mem_cons.1 hc with h | h
       · rw [h]; exact ha
       · exact ih c h
     · simp at hc
 exact this s c hc
theorem big_ok {w : List UInt8 → Except Int (List Pt)} {s : List UInt8} {acc l : List Pt} {k : Nat} (hs : s ≠ []) (h : big w s = .ok (l, k)) : partsOn w s acc = partsOn w (s.drop k) (l.foldl add acc) ∧ 1 ≤ k ∧ k ≤ s.length := by
 unfold big at h
 split at h
 · rename_i h0
   cases h
   have hle := runL_le s
   refine ⟨?_, h0, hle⟩
   have h1 := parts_run (w := w) (acc := acc) (t := s.take (runL s)) (r := s.drop (runL s)) (fun e => by
     have := congrArg List.length e
     rw [List.length_take] at this
     simp at this
     rcases this with h | h
     · omega
     · exact hs h) (run_lits s)
   rw [List.take_append_drop] at h1
   exact h1
 · obtain ⟨k1, k2⟩ := step1_le h
   refine ⟨?_, k1, k2⟩
   cases s with
   | nil => exact absurd rfl hs
   | cons c r => exact partsOn_go h
theorem big_no {w : List UInt8 → Except Int (List Pt)} {s : List UInt8} {acc : List Pt} {f : Int} (hs : s ≠ []) (h : big w s = .error f) : partsOn w s acc = .error f := by
 unfold big at h
 split at h
 · cases h
 · cases s with
   | nil => exact absurd rfl hs
   | cons c r => exact partsOn_bad h
theorem big_wt {w : List UInt8 → Except Int (List Pt)} (hw : Wb w) {s : List UInt8} {l : List Pt} {k : Nat} (h : big w s = .ok (l, k)) : wt l ≤ 2 * k := by
 unfold big at h
 split at h
 · rename_i h0
   cases h
   rw [wt_one]
   show wtP (.mk 0 false (s.take (runL s)) [] [] []) ≤ _
   rw [wtP_mk, wt_nil, List.length_take]
   simp only [List.length_nil]
   have := runL_le s
   omega
 · exact step1_wt hw h
theorem doubleF_q {w : List UInt8 → Except Int (List Pt)} (q : Bool) : ∀ (n : Nat) (s : List UInt8) (acc l : List Pt), doubleF w n s acc = .ok l → (∀ p ∈ acc, qP q p = p) → ∀ p ∈ l, qP q p = p
 | _, [], acc, l, h, ha => by rw [doubleF] at h; cases h; exact ha
 | 0, c :: r, acc, l, h, ha => by rw [doubleF] at h; cases h
 | n + 1, c :: r, acc, l, h, ha => by
   rw [doubleF] at h
   cases hs : step2 w (c :: r) with
   | error e => rw [hs] at h; cases h
   | ok x =>
     obtain ⟨p, k⟩ := x
     rw [hs] at h
     refine doubleF_q q n _ _ _ h ?_
     have hp := step2_quote hs q
     intro y hy
     rcases snoc_cases acc with rfl | ⟨z, a, rfl⟩
     · rw [add_none, List.mem_singleton] at hy
       rw [hy]; exact hp
     · rw [add_onto] at hy
       split at hy
       · rcases List.mem_append.1 hy with hy | hy
         · exact ha y (List.mem_append_left _ hy)
         · rw [List.mem_singleton] at hy
           have haq := ha a (by simp)
           rw [hy]
           cases q
           · rfl
           · show quoteP (joined a p) = _
             rw [quoteP_joined]
             show joined (qP true a) (qP true p) = _
             rw [haq, hp]
       · rcases List.mem_append.1 hy with hy | hy
         · exact ha y hy
         · rw [List.mem_singleton] at hy
           rw [hy]; exact hp
theorem quote_q {w : List UInt8 → Except Int (List Pt)} {s : List UInt8} {c : UInt8} {l : List Pt} {k : Nat} (h : step1 w s = .ok (l, k)) (hc : s.head? = some c ∧ (c = 92 ∨ c = 39 ∨ c = 34)) (q : Bool) : ∀ p ∈ l, qP q p = p := by
 cases s with
 | nil => cases hc.1
 | cons a r =>
   have ha : a = c := by have := hc.1; simpa using this
   subst ha
   rw [step1, if_pos hc.2] at h
   cases hk : unit 30 0 (a :: r) with
   | none => rw [hk] at h; cases h
   | some j =>
     rw [hk] at h
     simp only [] at h
     have one : ∀ x, ∀ p ∈ [txt true x], qP q p = p := fun x p hp => by
       rw [List.mem_singleton] at hp
       rw [hp]; exact qP_txt1 q x
     split at h
     · cases h; exact one _
     · split at h
       · cases h; exact one _
       · unfold double at h
         split at h
         · cases h; exact one _
         · cases hd : doubleF w (r.take (j - 2)).length (r.take (j - 2)) [] with
           | error e => rw [hd] at h; cases h
           | ok x =>
             rw [hd] at h
             cases h
             exact doubleF_q q _ _ _ _ hd (fun p hp => by cases hp)
theorem map_same {f : Pt → Pt} : ∀ {l : List Pt}, (∀ p ∈ l, f p = p) → l.map f = l
 | [], _ => rfl
 | p :: l, h => by rw [List.map_cons, h p (by simp), map_same fun x hx => h x (List.mem_cons_of_mem _ hx)]
theorem qf_quote {w : List UInt8 → Except Int (List Pt)} {s : List UInt8} {c : UInt8} {l : List Pt} {k : Nat} (h : step1 w s = .ok (l, k)) (hc : s.head? = some c ∧ (c = 92 ∨ c = 39 ∨ c = 34)) (q : Bool) (acc : List Pt) : l.foldl add (qf q acc) = qf q (l.foldl add acc) := by
 rw [qf_fold, map_same (quote_q h hc q)]
inductive OEnd (r : Except Int (List Pt × Nat)) (q : Bool) (acc : List Pt) (w : World) (b : Nat) (dep : Int) (pv tv : Value) : Ending → World → Prop
 | ok (w' : World) (l : List Pt) (k : Nat) (pv' tv' : Value) (h : r = .ok (l, k)) (hs : Kept (St w' b dep (qf q (l.foldl add acc)) pv' tv')) (hf : Kept (Fr b pv tv pv' tv' w w')) : OEnd r q acc w b dep pv tv (.returned (.tuple #[.int .i64 (k : Int), .int .i64 0])) w'
 | no (w' : World) (c n : Int) (h : r = .error c) (hc : (c == 0) = false) (hb : Kept (Below b w w')) : OEnd r q acc w b dep pv tv (.returned (.tuple #[.int .i64 n, .int .i64 c])) w'
theorem big_step {w : List UInt8 → Except Int (List Pt)} {c : UInt8} {r : List UInt8} (h : lit c = false) : big w (c :: r) = step1 w (c :: r) := by
 unfold big
 rw [if_neg (by rw [run_cons, h]; simp)]
set_option maxHeartbeats 8000000 in
set_option maxRecDepth 100000 in
theorem readOn_any (d : Nat) (dep : Int) (HDl : DolC d dep) (HQl : QuoC d dep) (s : ByteArray) (q : Bool) (w : World) (b : Nat) (acc : List Pt) (pv tv : Value) (h0 : 0 < s.size) (hs : s.size ≤ 1500000) (hw : wt (qf q acc) + 2 * s.size ≤ 15000000) (hK : Kit w) (hA : Ahead b) (hS : St w b dep (qf q acc) pv tv) :
   Calls Tryz.prog 150 #[.pointer (some ⟨b, 0, none⟩), .string s, .bool q] w (OEnd (big (parts d) (toL s)) q acc w b dep pv tv) := by
 have HK := Kept.mk hK
 have HA := Kept.mk hA
 have HS := Kept.mk hS
 have HD := Kept.mk HDl
 have HQ := Kept.mk HQl
 have HW : Kept (wt (qf q acc) + 2 * s.size ≤ 15000000) := ⟨hw⟩
 obtain ⟨R, hR⟩ : ∃ R, R = big (parts d) (toL s) := ⟨_, rfl⟩
 have HR := Kept.mk hR
 rw [← hR]
 have hc := cons_at h0
 clear hK hA hS hw HDl HQl hR
 by_cases h92 : s[0]'h0 = 92
 · have y92 : ((s[0]'h0).toNat : Int) = 92 := by rw [h92]; rfl
   have hst : big (parts d) (toL s) = step1 (parts d) (toL s) := by
     rw [hc]
     exact big_step (by rw [h92]; rfl)
   have HH : Kept (HeadQ (toL s) 92) := ⟨by rw [hc, h92]; rfl, by decide⟩
   cases hd : step1 (parts d) (toL s) with
   | error f =>
     have HDd := Kept.mk hd
     have HE : Kept (R = .error f) := ⟨by rw [HR.out, hst, hd]⟩
     clear hd hc hst h92
     go_enter Tryz.func150, Tryz.ntmps150
     go_wp2_with fail
     go_at_call 154
     refine (HQ.out.no s w b _ pv tv 92 f HDd HH hs HW HK.out HA.out HS).mono ?_
     rintro e w2 ⟨n, rfl, hc0, hb⟩
     go_wp2_with fail
     go_ret2
     exact .no _ f n HE.out hc0 hb
   | ok y =>
     obtain ⟨l, k⟩ := y
     have HDd := Kept.mk hd
     have HE : Kept (R = .ok (l, k)) := ⟨by rw [HR.out, hst, hd]⟩
     have HF := Kept.mk (qf_quote hd HH.out q acc)
     clear hd hc hst h92
     go_enter Tryz.func150, Tryz.ntmps150
     go_wp2_with fail
     go_at_call 154
     refine (HQ.out.ok s w b _ pv tv 92 l k HDd HH hs HW HK.out HA.out HS).mono ?_
     rw [HF.out]
     rintro e w2 ⟨rfl, pv2, tv2, HS2, HF2⟩
     go_wp2_with fail
     go_ret2
     exact .ok _ l k pv2 tv2 HE.out HS2 HF2
 · have z92 : ¬ ((s[0]'h0).toNat : Int) = 92 := fun e => h92 (by apply UInt8.toNat_inj.1; have : (92 : UInt8).toNat = 92 := rfl; omega)
   by_cases h39 : s[0]'h0 = 39
   · have y39 : ((s[0]'h0).toNat : Int) = 39 := by rw [h39]; rfl
     have hst : big (parts d) (toL s) = step1 (parts d) (toL s) := by
       rw [hc]
       exact big_step (by rw [h39]; rfl)
     have HH : Kept (HeadQ (toL s) 39) := ⟨by rw [hc, h39]; rfl, by decide⟩
     cases hd : step1 (parts d) (toL s) with
     | error f =>
       have HDd := Kept.mk hd
       have HE : Kept (R = .error f) := ⟨by rw [HR.out, hst, hd]⟩
       clear hd hc hst h39
       go_enter Tryz.func150, Tryz.ntmps150
       go_wp2_with fail
       go_at_call 154
       refine (HQ.out.no s w b _ pv tv 39 f HDd HH hs HW HK.out HA.out HS).mono ?_
       rintro e w2 ⟨n, rfl, hc0, hb⟩
       go_wp2_with fail
       go_ret2
       exact .no _ f n HE.out hc0 hb
     | ok y =>
       obtain ⟨l, k⟩ := y
       have HDd := Kept.mk hd
       have HE : Kept (R = .ok (l, k)) := ⟨by rw [HR.out, hst, hd]⟩
       have HF := Kept.mk (qf_quote hd HH.out q acc)
       clear hd hc hst h39
       go_enter Tryz.func150, Tryz.ntmps150
       go_wp2_with fail
       go_at_call 154
       refine (HQ.out.ok s w b _ pv tv 39 l k HDd HH hs HW HK.out HA.out HS).mono ?_
       rw [HF.out]
       rintro e w2 ⟨rfl, pv2, tv2, HS2, HF2⟩
       go_wp2_with fail
       go_ret2
       exact .ok _ l k pv2 tv2 HE.out HS2 HF2
   · have z39 : ¬ ((s[0]'h0).toNat : Int) = 39 := fun e => h39 (by apply UInt8.toNat_inj.1; have : (39 : UInt8).toNat = 39 := rfl; omega)
     by_cases h34 : s[0]'h0 = 34
     · have y34 : ((s[0]'h0).toNat : Int) = 34 := by rw [h34]; rfl
       have hst : big (parts d) (toL s) = step1 (parts d) (toL s) := by
         rw [hc]
         exact big_step (by rw [h34]; rfl)
       have HH : Kept (HeadQ (toL s) 34) := ⟨by rw [hc, h34]; rfl, by decide⟩
       cases hd : step1 (parts d) (toL s) with
       | error f =>
         have HDd := Kept.mk hd
         have HE : Kept (R = .error f) := ⟨by rw [HR.out, hst, hd]⟩
         clear hd hc hst h34
         go_enter Tryz.func150, Tryz.ntmps150
         go_wp2_with fail
         go_at_call 154
         refine (HQ.out.no s w b _ pv tv 34 f HDd HH hs HW HK.out HA.out HS).mono ?_
         rintro e w2 ⟨n, rfl, hc0, hb⟩
         go_wp2_with fail
         go_ret2
         exact .no _ f n HE.out hc0 hb
       | ok y =>
         obtain ⟨l, k⟩ := y
         have HDd := Kept.mk hd
         have HE : Kept (R = .ok (l, k)) := ⟨by rw [HR.out, hst, hd]⟩
         have HF := Kept.mk (qf_quote hd HH.out q acc)
         clear hd hc hst h34
         go_enter Tryz.func150, Tryz.ntmps150
         go_wp2_with fail
         go_at_call 154
         refine (HQ.out.ok s w b _ pv tv 34 l k HDd HH hs HW HK.out HA.out HS).mono ?_
         rw [HF.out]
         rintro e w2 ⟨rfl, pv2, tv2, HS2, HF2⟩
         go_wp2_with fail
         go_ret2
         exact .ok _ l k pv2 tv2 HE.out HS2 HF2
     · have z34 : ¬ ((s[0]'h0).toNat : Int) = 34 := fun e => h34 (by apply UInt8.toNat_inj.1; have : (34 : UInt8).toNat = 34 := rfl; omega)
       by_cases h36 : s[0]'h0 = 36
       · have y36 : ((s[0]'h0).toNat : Int) = 36 := by rw [h36]; rfl
         have hst : big (parts d) (toL s) = step1 (parts d) (toL s) := by
           rw [hc]
           exact big_step (by rw [h36]; rfl)
         have hs1 : step1 (parts d) (toL s) = (dollar (parts d) false (toL s)).map fun x => ([x.1], x.2) := by
           conv => lhs; rw [hc, step1, if_neg (by rw [h36]; decide), if_pos h36, ← hc]
         have HH : (toL s).head? = some 36 := by rw [hc, h36]; rfl
         have hdq := dollar_q (parts d) q (toL s)
         cases hd : dollar (parts d) false (toL s) with
         | error f =>
           have HDd : Kept (dollar (parts d) q (toL s) = .error f) := ⟨by rw [hdq, hd]; rfl⟩
           have HE : Kept (R = .error f) := ⟨by rw [HR.out, hst, hs1, hd]; rfl⟩
           clear hd hc hst hs1 hdq h36
           go_enter Tryz.func150, Tryz.ntmps150
           go_wp2_with fail
           go_at_call 155
           refine (HD.out.no s q w b _ pv tv f HDd HH hs HW HK.out HA.out HS).mono ?_
           rintro e w2 ⟨n, rfl, hc0, hb⟩
           go_wp2_with fail
           go_ret2
           exact .no _ f n HE.out hc0 hb
         | ok y =>
           obtain ⟨p, k⟩ := y
           have HDd : Kept (dollar (parts d) q (toL s) = .ok (qP q p, k)) := ⟨by rw [hdq, hd]; rfl⟩
           have HE : Kept (R = .ok ([p], k)) := ⟨by rw [HR.out, hst, hs1, hd]; rfl⟩
           have HF := Kept.mk (qf_add q acc p)
           clear hd hc hst hs1 hdq h36
           go_enter Tryz.func150, Tryz.ntmps150
           go_wp2_with fail
           go_at_call 155
           refine (HD.out.ok s q w b _ pv tv (qP q p) k HDd HH hs HW HK.out HA.out HS).mono ?_
           rw [← HF.out]
           rintro e w2 ⟨rfl, pv2, tv2, HS2, HF2⟩
           go_wp2_with fail
           go_ret2
           exact .ok _ [p] k pv2 tv2 HE.out HS2 HF2
       · have z36 : ¬ ((s[0]'h0).toNat : Int) = 36 := fun e => h36 (by apply UInt8.toNat_inj.1; have : (36 : UInt8).toNat = 36 := rfl; omega)
         have hl : lit (s[0]'h0) = true := by simp only [lit, Bool.and_eq_true, bne_iff_ne]; exact ⟨⟨⟨h92, h39⟩, h34⟩, h36⟩
         have hrp : 0 < runL (toL s) := by rw [hc, run_cons, if_pos hl]; omega
         obtain ⟨m, hm⟩ : ∃ m, m = runL (toL s) := ⟨_, rfl⟩
         have hmle : m ≤ s.size := by rw [hm, ← toL_length]; exact runL_le _
         have HE : Kept (R = .ok ([txt false ((toL s).take m)], m)) := ⟨by rw [HR.out, hm]; unfold big; rw [if_pos hrp]⟩
         obtain ⟨X, hX⟩ : ∃ X, X = s.extract 0 m := ⟨_, rfl⟩
         have hsl : ∀ W : World, (Instr.slice 9 (.string s) none (some (.int .i64 (m : Int))) none).run Tryz.prog W = .ok (.string X) W := fun W => by rw [hX]; exact str_to hmle W
         have HX : Kept (toL X = (toL s).take m) := ⟨by rw [hX, toL_to]⟩
         have hXs : X.size ≤ 1500000 := by rw [hX, size_to s m hmle]; omega
         have HF : Kept (add (qf q acc) (txt q (toL X)) = qf q ([txt false ((toL s).take m)].foldl add acc)) := ⟨by
           show _ = qf q (add acc (txt false ((toL s).take m)))
           rw [qf_add, qP_txt, HX.out]⟩
         have hsn : (s.size : Int) = ((s.size : Nat) : Int) := rfl
         by_cases hlt : m < s.size
         · have HI : Kept (((m : Nat) : Int) = if runL (toL s) < s.size then ((runL (toL s) : Nat) : Int) else -1) := ⟨by rw [← hm, if_pos hlt]⟩
           have hge : ¬ ((m : Nat) : Int) < 0 := by omega
           clear hl hrp hm hX hc h92 h39 h34 h36
           go_enter Tryz.func150, Tryz.ntmps150
           go_wp2_with fail
           go_at_call 156
           refine (indexAny_any s w (by omega) ((m : Nat) : Int) HI).mono ?_
           rintro e w1 ⟨rfl, hb1⟩
           have HS1 := Kept.mk (HS.out.keep hb1)
           have HB1 : Kept (Fr b pv tv pv tv w w1) := ⟨⟨hb1.mono (Nat.le_of_lt HS.out.lt), fun g hg hgl => ⟨hg, hb1.block g hgl⟩⟩⟩
           clear hb1
           go_wp2_with fail
           go_at_call 157
           refine (addText_any w1 b dep _ pv tv X q HS1 (by have := HW.out; omega) (by omega)).mono ?_
           rw [HF.out]
           rintro e w2 ⟨rfl, pv2, tv2, HS2, HF2⟩
           go_wp2_with fail
           go_ret2
           exact .ok _ _ _ pv2 tv2 HE.out HS2 ⟨HB1.out.trans HF2.out⟩
         · have hme : m = s.size := by omega
           have HI : Kept ((-1 : Int) = if runL (toL s) < s.size then ((runL (toL s) : Nat) : Int) else -1) := ⟨by rw [← hm, if_neg hlt]⟩
           clear hl hrp hm hX hc h92 h39 h34 h36 hlt
           subst hme
           go_enter Tryz.func150, Tryz.ntmps150
           go_wp2_with fail
           go_at_call 156
           refine (indexAny_any s w (by omega) (-1) HI).mono ?_
           rintro e w1 ⟨rfl, hb1⟩
           have HS1 := Kept.mk (HS.out.keep hb1)
           have HB1 : Kept (Fr b pv tv pv tv w w1) := ⟨⟨hb1.mono (Nat.le_of_lt HS.out.lt), fun g hg hgl => ⟨hg, hb1.block g hgl⟩⟩⟩
           clear hb1
           go_wp2_with fail
           go_at_call 157
           refine (addText_any w1 b dep _ pv tv X q HS1 (by have := HW.out; omega) (by omega)).mono ?_
           rw [HF.out]
           rintro e w2 ⟨rfl, pv2, tv2, HS2, HF2⟩
           go_wp2_with fail
           go_ret2
           exact .ok _ _ _ pv2 tv2 HE.out HS2 ⟨HB1.out.trans HF2.out⟩
end Wx
end
end Go.Proofs.YtlggpefmojacoaaGreatDoor
