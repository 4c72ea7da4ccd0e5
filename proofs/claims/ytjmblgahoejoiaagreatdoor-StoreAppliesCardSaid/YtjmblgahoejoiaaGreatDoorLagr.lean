/-
  The program's store: Agrees, where all agrees; what is applied is told as it was.
-/
import Derived.Test.YtjmblgahoejoiaaGreatDoorLend
namespace Go.Proofs.YtjmblgahoejoiaaGreatDoor
open Go.RowKit Go.Maps Tx
namespace St

set_option maxHeartbeats 4000000 in
set_option maxRecDepth 100000 in
theorem agrees_any (g b n : Nat) (lv : Value) (t : Tree) (v : Value) (l : List Tch) (w : World) (h : PSto w g b n lv t) (hT : TL w v l) (hK : Tup.Kit w) (hS : Small t) (ht : t.length ≤ 1000) (hl : l.length ≤ 1000000) (hp : ∀ q ∈ l, q.rd.path.size ≤ 10 ∧ q.val = valR t q.rd) :
    Calls Tryz.prog 18 #[.pointer (some ⟨g, 0, none⟩), v] w fun e w' => e = .returned (.bool true) ∧ Below w.heap.size w w' := by
  have H := Kept.mk h
  have HT := Kept.mk hT
  have HK := Kept.mk hK
  have HS := Kept.mk hS
  have HP := Kept.mk hp
  clear h hK hS hp
  obtain ⟨A, c, rfl⟩ : ∃ A c, v = .slice A l.length c := by
    rcases hT with ⟨rfl, rfl⟩ | ⟨q, cap, rfl, _⟩
    · exact ⟨_, _, rfl⟩
    · exact ⟨_, _, rfl⟩
  clear hT
  go_enter Tryz.func18, Tryz.ntmps18
  go_wp2
  go_loopw [9] (fun x wr => ∃ j : Nat, j ≤ l.length ∧ x = .int .i64 j ∧ Kept (Below w.heap.size w wr)) (fun x _ => l.length - (intOf x).toNat)
  case atStart => exact ⟨0, by omega, rfl, ⟨Below.refl _ _⟩⟩
  case round =>
    obtain ⟨j, hj, rfl, hb⟩ := hrel
    have j0 : (0 : Int) ≤ j := by omega
    by_cases hlt : j < l.length
    · have j1 : (j : Int) < (l.length : Int) := by omega
      rcases HT.out with ⟨_, h0⟩ | ⟨q, cap, e, hq, hc⟩
      · subst h0; simp at hlt
      · injection e with e1 e2 e3
        subst e1 e3
        obtain ⟨y0, y1, y2⟩ := hc j hlt
        have z0 := (hb.out.cell (p := ⟨q, j * 3, none⟩) hq).trans y0
        have z1 := (hb.out.cell (p := ⟨q, j * 3 + 1, none⟩) hq).trans y1
        have z2 := (hb.out.cell (p := ⟨q, j * 3 + 2, none⟩) hq).trans y2
        have HPr := Kept.mk (H.out.below hb.out)
        have HKr : Kept (Tup.Kit wr) := ⟨HK.out.below hb.out⟩
        have hpx := HP.out _ (List.getElem_mem hlt)
        generalize l[j] = x at z0 z1 z2 hpx
        obtain ⟨⟨xp, xn⟩, xv⟩ := x
        simp only at z0 z1 z2 hpx
        obtain ⟨hpx, hxv⟩ := hpx
        clear hc y0 y1 y2
        have HA : Kept ((wr.alloc (.cells #[.string xp, .bool xn, .string xv] 82)).drew.heap[wr.heap.size]? = some (.cells #[.string xp, .bool xn, .string xv] 82 (0, 0))) := ⟨heap_alloc_new wr _⟩
        have HB3 : Kept (Below wr.heap.size wr (wr.alloc (.cells #[.string xp, .bool xn, .string xv] 82)).drew) := ⟨((Below.refl _ _).alloc (Nat.le_refl _) _).drew⟩
        have HP3 := Kept.mk (HPr.out.below HB3.out)
        have HV := Kept.mk (valueIn_any b n t ⟨xp, xn⟩ _ HP3.out.own HS.out ht (by simp; omega) (HKr.out.below HB3.out))
        rw [← hxv] at HV
        have hEq : (xv.toList == xv.toList) = true := by simp
        clear hxv
        have d0 : (wr.alloc (.cells #[.string xp, .bool xn, .string xv] 82)).drew.cell? ⟨wr.heap.size, 0, none⟩ = some (.string xp) := cell_of_row _ _ 0 _ _ _ HA.out
        have d1 : (wr.alloc (.cells #[.string xp, .bool xn, .string xv] 82)).drew.cell? ⟨wr.heap.size, 1, none⟩ = some (.bool xn) := cell_of_row _ _ 1 _ _ _ HA.out
        have d2 : (wr.alloc (.cells #[.string xp, .bool xn, .string xv] 82)).drew.cell? ⟨wr.heap.size, 2, none⟩ = some (.string xv) := cell_of_row _ _ 2 _ _ _ HA.out
        have d3 := HP3.out.c0
        go_wp2
        go_region_held3 (fun w' => w'.cell? ⟨wr.heap.size, 0, none⟩ = some (.string xp) ∧ w'.cell? ⟨wr.heap.size, 1, none⟩ = some (.bool xn) ∧ w'.cell? ⟨wr.heap.size, 2, none⟩ = some (.string xv) ∧ w'.cell? ⟨g, 0, none⟩ = some (.map (some b)))
          (first
            | exact ⟨d0, d1, d2, d3⟩
            | exact ⟨e0, e1, e2, e3⟩)
          (first
            | (go_at_call 39
               refine HV.out.mono ?_
               rintro e w4 ⟨rfl, hb4⟩
               have HB4 := Kept.mk (HB3.out.trans (hb4.mono HB3.out.size))
               have HA4 := Kept.mk ((hb4.block _ (blk HA.out)).trans HA.out)
               have e0 : w4.cell? ⟨wr.heap.size, 0, none⟩ = some (.string xp) := cell_of_row _ _ 0 _ _ _ HA4.out
               have e1 : w4.cell? ⟨wr.heap.size, 1, none⟩ = some (.bool xn) := cell_of_row _ _ 1 _ _ _ HA4.out
               have e2 : w4.cell? ⟨wr.heap.size, 2, none⟩ = some (.string xv) := cell_of_row _ _ 2 _ _ _ HA4.out
               have e3 := (HPr.out.below HB4.out).c0
               clear hb4))
        have hE5 : Kept (Below w.heap.size w w4) := ⟨hb.out.trans (HB4.out.mono hb.out.size)⟩
        go_wp2
        go_roundw
        case rel => exact ⟨j + 1, by omega, by go_num, hE5⟩
        case measure => simp [intOf]; omega
    · have j1 : ¬ (j : Int) < (l.length : Int) := by omega
      go_wp2
      go_ret
      exact ⟨rfl, hb.out⟩

/-! ### A tree is what is found in it -/
theorem tree_ext : ∀ {t u : Tree}, Good t → Good u → (∀ k, find t k = find u k) → t = u
  | [], [], _, _, _ => rfl
  | [], q :: u, _, _, h => by have := h q.1; rw [find_nil, find_cons, if_pos rfl] at this; cases this
  | p :: t, [], _, _, h => by have := h p.1; rw [find_nil, find_cons, if_pos rfl] at this; cases this
  | p :: t, q :: u, hp, hq, h => by
    obtain ⟨p1, p2⟩ := List.pairwise_cons.1 hp.sorted
    obtain ⟨q1, q2⟩ := List.pairwise_cons.1 hq.sorted
    have none_of : ∀ {s : Tree} {k : ByteArray}, (∀ x ∈ s, lt k x.1) → find s k = none := fun hs => find_none (fun x hx e => lt_ne (hs x hx) e.symm)
    have e1 : p.1 = q.1 := by
      by_cases e : p.1 = q.1
      · exact e
      · by_cases hl : lt p.1 q.1
        · have := h p.1
          rw [find_cons, if_pos rfl, find_cons, if_neg (fun e2 => e e2.symm), none_of (fun x hx => lt_trans hl (q1 x hx))] at this
          cases this
        · have hl := lt_total hl e
          have := h q.1
          rw [find_cons, if_neg e, find_cons, if_pos rfl, none_of (fun x hx => lt_trans hl (p1 x hx))] at this
          cases this
    have e2 : p.2 = q.2 := by
      have := h p.1
      rw [find_cons, if_pos rfl, find_cons, if_pos e1.symm] at this
      injection this
    have e3 : t = u := by
      refine tree_ext ⟨p2, fun x hx => hp.noRoot x (by simp [hx])⟩ ⟨q2, fun x hx => hq.noRoot x (by simp [hx])⟩ (fun k => ?_)
      have := h k
      rw [find_cons, find_cons, ← e1] at this
      by_cases hk : p.1 = k
      · subst hk
        rw [none_of p1, none_of (fun x hx => by rw [e1]; exact q1 x hx)]
      · rw [if_neg hk, if_neg hk] at this
        exact this
    rw [e3]
    congr 1
    exact Prod.ext e1 e2
theorem resV {e : Ent} (h : valid e) {t : ByteArray} (ht : toL t = valL e) : entRes t = (e, 0) := by
  unfold entRes
  rw [ht, entOf_val h]
theorem valS {e : Ent} (h : valid e) (hd : e.data.size ≤ 300) {t : ByteArray} (ht : toL t = valL e) : t.size ≤ 1000000 := by
  have hk := valid_kind h
  have hm := h.2
  rw [← toL_length, ht]
  unfold valL
  rw [if_neg (by omega), val_shape (by omega) (by omega)]
  have := Net.dig_length (toL e.data).length 2 (by rw [toL_length]; omega)
  simp only [List.length_cons, List.length_append, List.length_nil, toL_length] at this ⊢
  omega
/-- The entry whose text is told. -/
theorem val_back {t : Tree} (h : Small t) (p : ByteArray) : entRes (valR t ⟨p, false⟩) = (get t p, 0) ∧ (valR t ⟨p, false⟩).size ≤ 1000000 := by
  obtain ⟨k, m, d, he, hk, hm, hd, h0, hv⟩ := h.get p
  have e : valR t ⟨p, false⟩ = bs (valL (get t p)) := by unfold valR; rw [if_neg (by simp)]
  rw [e]
  by_cases hk0 : k = 0
  · rw [h0 hk0]
    exact ⟨entRes_emp, by decide⟩
  · rw [he]
    exact ⟨resV (hv hk0) (toL_bs _), valS (hv hk0) (by show d.size ≤ 300; omega) (toL_bs _)⟩
end St
end Go.Proofs.YtjmblgahoejoiaaGreatDoor
