/-
  The printer: three texts are written; what a part other than a text is told as.
-/
import Derived.Test.YtphgnjjblpmijaaDoorGqa
import Derived.Deep.RegionLaw
import Derived.Deep.RegionHeld3
import Derived.BigRegion
namespace Go.Proofs.YtphgnjjblpmijaaDoor
open Go.RowKit Tx
namespace Wx
variable {P : Nat → Prop}

set_option maxHeartbeats 2000000 in
set_option maxRecDepth 100000 in
theorem write_any (w0 w : World) (b : Nat) (p v vl : Value) (out : List UInt8) (ls : Lists) (x y z : ByteArray) (h : PrM P w0 w b p v vl out ls) (hs : out.length + x.size + y.size + z.size ≤ 10000000) :
    Calls Tryd.prog 29 #[.pointer (some ⟨b, 0, none⟩), .string x, .string y, .string z] w fun e w' => e = .returned (.tuple #[]) ∧ ∃ p' v', Kept (PrM P w0 w' b p' v' vl (out ++ toL x ++ toL y ++ toL z) ls) ∧ Kept (Bl.Left w0.heap.size b w w') := by
  have H := Kept.mk h
  have HS := Kept.mk hs
  clear h hs
  go_enter Tryd.func29, Tryd.ntmps29
  go_wp2_with fail
  go_at_call 28
  refine (Bl.writeString_any 50 [vl] (Bl.lies_printer vl) _ _ p v _ x _ H.out.at_ H.out.self H.out.hb (by have := HS.out; omega) H.out.bel.size).mono ?_
  rintro e w1 ⟨rfl, v1, hA1, hL1⟩
  have HA1 := Kept.mk hA1
  have HL1 := Kept.mk hL1
  clear hA1 hL1
  go_wp2_with fail
  go_at_call 28
  refine (Bl.writeString_any 50 [vl] (Bl.lies_printer vl) _ _ _ v1 _ y _ HA1.out (.inr rfl) H.out.hb (by have := HS.out; rw [List.length_append, toL_length]; omega) (H.out.bel.trans HL1.out.bl).size).mono ?_
  rintro e w2 ⟨rfl, v2, hA2, hL2⟩
  have HA2 := Kept.mk hA2
  have HL2 := Kept.mk (HL1.out.trans hL2)
  clear hA2 hL2
  go_wp2_with fail
  go_at_call 28
  refine (Bl.writeString_any 50 [vl] (Bl.lies_printer vl) _ _ _ v2 _ z _ HA2.out (.inr rfl) H.out.hb (by have := HS.out; rw [List.length_append, List.length_append, toL_length, toL_length]; omega) (H.out.bel.trans HL2.out.bl).size).mono ?_
  rintro e w3 ⟨rfl, v3, hA3, hL3⟩
  have HA3 := Kept.mk hA3
  have HL3 := Kept.mk (HL2.out.trans hL3)
  clear hA3 hL3
  go_wp2_with fail
  refine bodyPost_end (results_none rfl _ _ _) rfl ?_
  exact ⟨rfl, _, v3, ⟨H.out.wrote (.inr rfl) HA3.out HL3.out⟩, HL3⟩
theorem toL_app (a b : ByteArray) : toL (a ++ b) = toL a ++ toL b := by have := bs_append (toL a) (toL b); rw [bs_toL, bs_toL] at this; rw [this, toL_bs]
theorem toL_lit (a : Array UInt8) : toL ⟨a⟩ = a.toList := rfl
theorem lits (a : Array UInt8) : (⟨a⟩ : ByteArray).size = a.size := rfl
/-- What a part that is no text is told as, without its quotes. -/
def core : Pt → List UInt8
  | .mk k _ t n o w =>
    if k = 2 then [36, 40] ++ t ++ [41]
    else if k = 3 then [36, 40, 40] ++ t ++ [41, 41]
    else if k = 1 then (if o = lenOp then [36, 123, 35] ++ n ++ [125] else [36, 123] ++ n ++ o ++ print w ++ [125])
    else []
def qs (q : Bool) : List UInt8 := if q then [34] else []
theorem printP_core {k : Int} {q : Bool} {t n o : List UInt8} {w : List Pt} (h : ¬ k = 0) : printP (.mk k q t n o w) = qs q ++ core (.mk k q t n o w) ++ qs q := by
  rw [printP, if_neg h, core]
  have ha : ∀ l : List UInt8, about q l = qs q ++ l ++ qs q := fun l => by cases q <;> simp [about, qs]
  by_cases h2 : k = 2
  · rw [if_pos h2, if_pos h2, ha]
  · by_cases h3 : k = 3
    · rw [if_neg h2, if_pos h3, if_neg h2, if_pos h3, ha]
    · by_cases h1 : k = 1
      · rw [if_neg h2, if_neg h3, if_pos h1, if_neg h2, if_neg h3, if_pos h1, ha]
      · rw [if_neg h2, if_neg h3, if_neg h1, if_neg h2, if_neg h3, if_neg h1, ha]
theorem unpInfo : (Tryd.prog.info? 44).map (fun i => (i.zero, i.size, i.bytes)) = some (some (.agg #[.slice none 0 0, .string ⟨#[]⟩]), 2, 40) := by kernel_rfl
theorem two_new (w : World) (a c : Value) (ty : TypeId) : ∀ j u, [a, c][j]? = some u → (w.alloc (.cells #[a, c] ty)).drew.cell? ((⟨w.heap.size, 0, none⟩ : Addr).add j) = some u := by
  intro j u hu
  have : (⟨w.heap.size, 0, none⟩ : Addr).add j = ⟨w.heap.size, 0 + j, none⟩ := by unfold Addr.add; split <;> simp_all
  rw [this, Nat.zero_add]
  change (w.alloc (.cells #[a, c] ty)).cell? _ = _
  rw [cell_of_row _ _ j _ _ (0, 0) (heap_alloc_new w _)]
  simpa using hu
theorem two_one {a : Value} (h : a.oneCell' = true) (x : ByteArray) : ∀ u ∈ [a, .string x], u.oneCell' = true := by
  intro u hp
  simp only [List.mem_cons, List.not_mem_nil, or_false] at hp
  rcases hp with rfl | rfl
  · exact h
  · rfl
theorem own_slice2 {w : World} {B n size : Nat} {e : TypeId} {v : Value} {xs : List Value} (h : w.ownsRow B e size v n xs) : ∃ A k, v = .slice A n k := by
  rcases h.2 with ⟨rfl, rfl⟩ | ⟨g, cap, cur, rfl, _⟩
  · exact ⟨_, _, rfl⟩
  · exact ⟨_, _, rfl⟩
theorem step_append_own {P : Program} {w : World} {ops : Array Oper} {o : Oper} {a : Go.Act} {K : Go.Act → World → Prop} {Q : Exit → Go.Act → World → Prop} {R : Prop} (hgd : o.guard = none) (s x : Operand) (t : TypeId)
    (ho : o.op = .call { callee := .builtin .append, args := #[s, x], argTypes := #[t, t] })
    (base : Nat) (e : TypeId) (i : TypeInfo) (z : Value) (size bytes : Nat) (ht : P.underlying t = some (.slice e)) (hi : P.info? e = some i) (hz : i.zero = some z)
    (hsize : i.size = size) (hby : i.bytes = bytes) (hzs : z.cells.size = size) (hsz : 0 < size)
    (v : Value) (n : Nat) (xs : List Value) (hs : a.eval s = v) (hown : w.ownsRow base e size v n xs)
    (ad : Addr) (m c : Nat) (news : List Value) (hx : a.eval x = .slice (some ad) m c) (hl : news.length = m * size) (hnews : ∀ j u, news[j]? = some u → w.cell? (ad.add j) = some u) (h1 : ∀ u ∈ news, u.oneCell' = true)
    (h63 : n + m ≤ maxLen) (hbytes : (n + m) * bytes ≤ 140737488355328) (hbase : base ≤ w.heap.size)
    (h : ∀ v' w', w'.ownsRow base e size v' (n + m) (xs ++ news) → w.grownBy w' v.ownBlock → (v' = .slice none 0 0 ↔ v = .slice none 0 0 ∧ m = 0) → K (a.put o.dst v') w') : if Region.wanted o (yielded ops a.tmps) = true then Oper.wp P o a w K Q else R := by
  rw [if_pos (by simp [Region.wanted, hgd])]
  exact wp_append_own w s x t ho base e i z size bytes ht hi hz hsize hby hzs hsz v n xs hs hown ad m c news hx hl hnews h1 h63 hbytes hbase h
/-- Behind what was told of a part. -/
def Told (P : Nat → Prop) (w0 w' : World) (b : Nat) (T : List UInt8) (M : Nat) : Prop := ∃ p v vl out ls, PrM P w0 w' b p v vl out ls ∧ out ++ told ls = T ∧ meas ls ≤ M
set_option maxHeartbeats 8000000 in
set_option maxRecDepth 100000 in
theorem exp_any (w0 w : World) (b : Nat) (p v vl : Value) (out : List UInt8) (ls : Lists) (k : Int) (q q2 : Bool) (t n o : List UInt8) (wd : List Pt) (u : Value) (h : PrM P w0 w b p v vl out ls) (hu : u.oneCell' = true) (hw : LV P w0 u wd) (hs : out.length + t.length + n.length + o.length ≤ 1000000) (hl : ls.length ≤ 1000000) :
    Calls Tryd.prog 31 #[.pointer (some ⟨b, 0, none⟩), .agg (pvs k q2 t n o u).toArray, .string (bs (qs q))] w fun e w' => e = .returned (.tuple #[]) ∧ Kept (Told P w0 w' b (out ++ (qs q ++ core (.mk k q2 t n o wd) ++ qs q) ++ told ls) (meas ls + (2 * wt wd + 1))) := by
  obtain ⟨Au, ku, rfl⟩ := hw.slice
  generalize wd.length = wl at *
  have H := Kept.mk h
  have HS := Kept.mk hs
  have HLl := Kept.mk hl
  have HW := Kept.mk hw
  obtain ⟨i0, hi, hz0, hz1, hz2⟩ := info_parts unpInfo
  have hqs : (qs q).length ≤ 1 := by cases q <;> simp [qs]
  obtain ⟨Q, hQ⟩ : ∃ Q, Q = bs (qs q) := ⟨_, rfl⟩
  have HQ : Kept (toL Q = qs q) := ⟨by rw [hQ, toL_bs]⟩
  have hqz : Q.size ≤ 1 := by rw [hQ, bs_size]; exact hqs
  have HZ := Kept.mk hqz
  rw [← hQ]
  clear h hs hl hw hqs hQ
  unfold pvs
  by_cases k2 : k = 2
  · subst k2
    go_enter Tryd.func31, Tryd.ntmps31
    go_wp2_with fail
    go_at_call 29
    refine (write_any w0 _ b p v vl out ls (Q ++ (⟨#[36, 40]⟩ : ByteArray)) (bs t) ((⟨#[41]⟩ : ByteArray) ++ Q) (H.out.below ((Below.refl _ _).alloc (Nat.le_refl _) _)) (by have := HS.out; have := HZ.out; simp [ByteArray.size_append, bs_size, lits]; omega)).mono ?_
    rintro e w1 ⟨rfl, p1, v1, h1, _⟩
    have HP := h1
    clear h1
    go_wp2_with fail
    refine bodyPost_end (results_none rfl _ _ _) rfl ?_
    exact ⟨rfl, ⟨p1, v1, vl, _, ls, HP.out, by rw [toL_app, toL_app, HQ.out, toL_bs, core, if_pos rfl]; simp [toL_lit, List.append_assoc], by omega⟩⟩

  · by_cases k3 : k = 3
    · subst k3
      go_enter Tryd.func31, Tryd.ntmps31
      go_wp2_with fail
      go_at_call 29
      refine (write_any w0 _ b p v vl out ls (Q ++ (⟨#[36, 40, 40]⟩ : ByteArray)) (bs t) ((⟨#[41, 41]⟩ : ByteArray) ++ Q) (H.out.below ((Below.refl _ _).alloc (Nat.le_refl _) _)) (by have := HS.out; have := HZ.out; simp [ByteArray.size_append, bs_size, lits]; omega)).mono ?_
      rintro e w1 ⟨rfl, p1, v1, h1, _⟩
      have HP := h1
      clear h1
      go_wp2_with fail
      refine bodyPost_end (results_none rfl _ _ _) rfl ?_
      exact ⟨rfl, ⟨p1, v1, vl, _, ls, HP.out, by rw [toL_app, toL_app, HQ.out, toL_bs, core, if_neg (by decide), if_pos rfl]; simp [toL_lit, List.append_assoc], by omega⟩⟩

    · by_cases k1 : k = 1
      · subst k1
        by_cases ho : o = lenOp
        · subst ho
          have hlo : bs lenOp = ⟨#[108, 101, 110]⟩ := rfl
          rw [hlo]
          clear hlo
          go_enter Tryd.func31, Tryd.ntmps31
          go_wp2_with fail
          go_at_call 29
          refine (write_any w0 _ b p v vl out ls (Q ++ (⟨#[36, 123, 35]⟩ : ByteArray)) (bs n) ((⟨#[125]⟩ : ByteArray) ++ Q) (H.out.below ((Below.refl _ _).alloc (Nat.le_refl _) _)) (by have := HS.out; have := HZ.out; simp [ByteArray.size_append, bs_size, lits]; omega)).mono ?_
          rintro e w1 ⟨rfl, p1, v1, h1, _⟩
          have HP := h1
          clear h1
          go_wp2_with fail
          refine bodyPost_end (results_none rfl _ _ _) rfl ?_
          exact ⟨rfl, ⟨p1, v1, vl, _, ls, HP.out, by rw [toL_app, toL_app, HQ.out, toL_bs, core, if_neg (by decide), if_neg (by decide), if_pos rfl, if_pos rfl]; simp [toL_lit, List.append_assoc], by omega⟩⟩

        · have hol : ((bs o).toList == ([108, 101, 110] : List UInt8)) = false := by
            have e : (⟨#[108, 101, 110]⟩ : ByteArray).toList = [108, 101, 110] := by decide +kernel
            rw [← e, beq_str, decide_eq_false]
            exact fun h => ho (by have := congrArg toL h; rw [toL_bs] at this; exact this)
          have HO := Kept.mk ho
          clear ho
          go_enter Tryd.func31, Tryd.ntmps31
          go_wp2_with fail
          go_at_call 29
          refine (write_any w0 _ b p v vl out ls (Q ++ (⟨#[36, 123]⟩ : ByteArray)) (bs n) (bs o) (H.out.below ((Below.refl _ _).alloc (Nat.le_refl _) _)) (by have := HS.out; have := HZ.out; simp [ByteArray.size_append, bs_size, lits]; omega)).mono ?_
          rintro e w1 ⟨rfl, p1, v1, h1, hL1⟩
          have HX := Kept.mk (hL1.out.oth w.heap.size _ (heap_alloc_new w _) (by have := H.out.at_.lt; omega) (show 39 ≠ 5 by decide))
          have x5 := cell_of_row _ _ 5 _ _ _ HX.out
          simp at x5
          have HP := h1
          have y2 := h1.out.c2
          clear h1 hL1
          have q1 : ¬ 9223372036854775807 < 1 + Q.size := by omega
          obtain ⟨xs, ho, hx⟩ := HP.out.lists
          obtain ⟨A, c, rfl⟩ := HP.out.slice
          have HO1 := Kept.mk ho
          have HX1 := Kept.mk hx
          have HBs : Kept (b < w1.heap.size ∧ w.heap.size < w1.heap.size) := ⟨HP.out.at_.lt, (Array.getElem?_eq_some_iff.1 HX.out).1⟩
          clear ho hx
          have HLn : Kept (ls.length ≤ 1000000) := HLl
          generalize hlz : ls.length = L at *
          have HLz := Kept.mk hlz
          clear hlz
          have HOd : Kept ((w1.alloc (.cells #[.slice Au wl ku, .string ((⟨#[125]⟩ : ByteArray) ++ Q)] 44)).drew.ownsRow w0.heap.size 44 2 (.slice A L c) L xs) := ⟨own_keep2 HO1.out fun g cur _ hg => (Below.heap_alloc w1 _ g (Array.getElem?_eq_some_iff.1 hg).1).trans hg⟩
          have a2 : (w1.alloc (.cells #[.slice Au wl ku, .string ((⟨#[125]⟩ : ByteArray) ++ Q)] 44)).cell? ⟨b, 2, none⟩ = some (.slice A L c) := (World.cell?_of_block (a := ⟨b, 2, none⟩) (Below.heap_alloc w1 _ b HBs.out.1)).trans y2
          have a2d : (w1.alloc (.cells #[.slice Au wl ku, .string ((⟨#[125]⟩ : ByteArray) ++ Q)] 44)).drew.cell? ⟨b, 2, none⟩ = some (.slice A L c) := a2
          have a5 : (w1.alloc (.cells #[.slice Au wl ku, .string ((⟨#[125]⟩ : ByteArray) ++ Q)] 44)).cell? ⟨w.heap.size, 5, none⟩ = some (.slice Au wl ku) := (World.cell?_of_block (a := ⟨w.heap.size, 5, none⟩) (Below.heap_alloc w1 _ _ HBs.out.2)).trans x5
          have a5d : (w1.alloc (.cells #[.slice Au wl ku, .string ((⟨#[125]⟩ : ByteArray) ++ Q)] 44)).drew.cell? ⟨w.heap.size, 5, none⟩ = some (.slice Au wl ku) := a5
          go_wp2_with fail
          go_region_law (first
            | (refine step_append_own rfl _ _ 45 rfl w0.heap.size 44 i0 _ 2 40 Tryd.underlying45 hi hz0 hz1 hz2 rfl (by decide) _ _ _ rfl HOd.out ⟨w1.heap.size, 0, none⟩ 1 1 [.slice Au wl ku, .string ((⟨#[125]⟩ : ByteArray) ++ Q)] rfl rfl (two_new w1 _ _ _) (two_one hu _) (by unfold maxLen; have := HLn.out; omega) (by have := HLn.out; omega) (by have := HP.out.bel.size; simp; omega) ?_
               intro v2 w2 ho2 hg2 hnn
               clear hnn
               have HQ2 : Kept (PrM P w0 (w2.setCell ⟨b, 2, none⟩ v2) b p1 v1 v2 _ (ls ++ [(wd, toL ((⟨#[125]⟩ : ByteArray) ++ Q))]) ∧ w2.heap[b]? = w1.heap[b]?) := ⟨HP.out.push (u := .slice Au wl ku) (by rw [HLz.out]; exact HO1.out) HX1.out hg2 (by rw [HLz.out, bs_toL]; exact ho2) hu HW.out⟩
               have hr2 := HQ2.out.2.trans HP.out.at_.row
               have c2' : w2.cell? ⟨b, 2, none⟩ = some (.slice A L c) := cell_of_row _ _ 2 _ _ _ hr2
               have f2' : w2.frozen? ⟨b, 2, none⟩ = false := frozen_of_row _ _ 2 _ _ hr2
               obtain ⟨A2, q2, rfl⟩ := own_slice2 ho2
               clear ho2 hg2 hr2)
            | go_simp)
          all_goals
            go_wp2_with fail
            refine bodyPost_end (results_none rfl _ _ _) rfl ?_
            refine ⟨rfl, ⟨p1, v1, _, _, _, HQ2.out.1, ?_, ?_⟩⟩
            · rw [told_snoc, toL_app, toL_app, HQ.out, toL_bs, toL_bs, core, if_neg (by decide), if_neg (by decide), if_pos rfl, if_neg HO.out]; simp [toL_lit, List.append_assoc]
            · rw [meas_snoc]; omega
      · have HK1 := Kept.mk k1
        have HK2 := Kept.mk k2
        have HK3 := Kept.mk k3
        go_enter Tryd.func31, Tryd.ntmps31
        go_wp2_with fail
        go_at_call 29
        refine (write_any w0 _ b p v vl out ls Q (⟨#[]⟩ : ByteArray) Q (H.out.below ((Below.refl _ _).alloc (Nat.le_refl _) _)) (by have := HS.out; have := HZ.out; simp [lits]; omega)).mono ?_
        rintro e w1 ⟨rfl, p1, v1, h1, _⟩
        have HP := h1
        clear h1
        go_wp2_with fail
        refine bodyPost_end (results_none rfl _ _ _) rfl ?_
        exact ⟨rfl, ⟨p1, v1, vl, _, ls, HP.out, by rw [HQ.out, core, if_neg HK2.out, if_neg HK3.out, if_neg HK1.out]; simp [toL], by omega⟩⟩

end Wx
end Go.Proofs.YtphgnjjblpmijaaDoor
