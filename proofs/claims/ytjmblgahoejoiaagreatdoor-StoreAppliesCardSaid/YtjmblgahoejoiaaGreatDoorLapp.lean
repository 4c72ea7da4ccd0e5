/-
  The program's store: Apply of what was written elsewhere.
-/
import Derived.Test.YtjmblgahoejoiaaGreatDoorLagr
import Derived.Test.YtjmblgahoejoiaaGreatDoorPput
namespace Go.Proofs.YtjmblgahoejoiaaGreatDoor
open Go.RowKit Go.Maps Tx
namespace St

def ev (e : Ent) : List Value := [.int .i64 e.kind, .int .i64 e.mode, .string e.data]
def evs (l : List Ent) : List Value := l.flatMap ev
theorem evs_cons (p : Ent) (t : List Ent) : evs (p :: t) = ev p ++ evs t := rfl
theorem evs_length (t : List Ent) : (evs t).length = t.length * 3 := by
  induction t with
  | nil => rfl
  | cons p t ih => rw [evs_cons, List.length_append, ih]; simp [ev]; omega
theorem evs_drop (t : List Ent) (k : Nat) : (evs t).drop (k * 3) = evs (t.drop k) := by
  induction k generalizing t with
  | zero => simp
  | succ k ih =>
    cases t with
    | nil => simp [evs]
    | cons p t =>
      rw [evs_cons, List.drop_succ_cons, ← ih t, List.drop_append]
      have : (ev p).length = 3 := rfl
      rw [List.drop_eq_nil_of_le (by rw [this]; omega), this, List.nil_append]
      congr 1
      omega
theorem evs_at {t : List Ent} {j : Nat} (hj : j < t.length) {i : Nat} {u : Value} (h : (ev t[j])[i]? = some u) : (evs t)[j * 3 + i]? = some u := by
  rw [← List.getElem?_drop, evs_drop, List.drop_eq_getElem_cons hj, evs_cons, List.getElem?_append_left]
  · exact h
  · exact (List.getElem?_eq_some_iff.1 h).1
theorem ev_new (w : World) (x : Ent) (ty : TypeId) : ∀ j u, (ev x)[j]? = some u → (w.alloc (.cells (ev x).toArray ty)).cell? ((⟨w.heap.size, 0, none⟩ : Addr).add j) = some u := by
  intro j u hu
  rw [Addr.add_lit, Nat.zero_add, cell_of_row _ _ j _ _ (0, 0) (heap_alloc_new w _)]
  simpa using hu
theorem ev_one (x : Ent) : ∀ u ∈ ev x, u.oneCell' = true := by
  intro u hp
  simp only [ev, List.mem_cons, List.not_mem_nil, or_false] at hp
  rcases hp with rfl | rfl | rfl <;> rfl
theorem entInfo : (Tryz.prog.info? 37).map (fun i => (i.zero, i.size, i.bytes)) = some (some (.agg #[.int .i64 0, .int .i64 0, .string ⟨#[]⟩]), 3, 32) := by kernel_rfl
/-- What is to be put: each place's entry in u. -/
def entsOf (u : Tree) (l : List Tch) : List Ent := l.map fun q => get u q.rd.path
theorem entsOf_snoc (u : Tree) (l : List Tch) {j : Nat} (hj : j < l.length) : evs (entsOf u (l.take (j + 1))) = evs (entsOf u (l.take j)) ++ ev (get u l[j].rd.path) := by
  rw [List.take_succ_eq_append_getElem hj]
  unfold entsOf
  rw [List.map_append]
  simp [evs]
def puts (u t : Tree) (l : List Tch) : Tree := l.foldl (fun t q => put t q.rd.path (get u q.rd.path)) t
theorem puts_snoc (u t : Tree) (l : List Tch) {j : Nat} (hj : j < l.length) : puts u t (l.take (j + 1)) = put (puts u t (l.take j)) l[j].rd.path (get u l[j].rd.path) := by
  rw [List.take_succ_eq_append_getElem hj]
  unfold puts
  rw [List.foldl_append]
  rfl

theorem evs_cells {w : World} {B n : Nat} {e : TypeId} {v : Value} {l : List Ent} (h : w.ownsRow B e 3 v n (evs l)) : (v = .slice none 0 0 ∧ l = []) ∨ ∃ q cap, v = .slice (some ⟨q, 0, none⟩) l.length cap ∧ B ≤ q ∧ q < w.heap.size ∧ ∀ j (hj : j < l.length), w.cell? ⟨q, j * 3, none⟩ = some (.int .i64 l[j].kind) ∧ w.cell? ⟨q, j * 3 + 1, none⟩ = some (.int .i64 l[j].mode) ∧ w.cell? ⟨q, j * 3 + 2, none⟩ = some (.string l[j].data) := by
  have hn : n = l.length := by have := h.1; rw [evs_length] at this; omega
  subst hn
  rcases h.2 with ⟨rfl, h0⟩ | ⟨g, cap, cur, rfl, hB, hg, hnc, hcm, hcs, htake⟩
  · exact .inl ⟨rfl, List.eq_nil_of_length_eq_zero h0⟩
  · have hc : ∀ i u, (evs l)[i]? = some u → w.cell? ⟨g, i, none⟩ = some u := fun i u hu => by
      rw [← htake, List.getElem?_take] at hu
      rw [cell_of_row w g i cur e (0, 0) hg]
      split at hu
      · simpa using hu
      · cases hu
    exact .inr ⟨g, cap, rfl, hB, (Array.getElem?_eq_some_iff.1 hg).1, fun j hj => ⟨hc _ _ (evs_at hj (i := 0) rfl), hc _ _ (evs_at hj (i := 1) rfl), hc _ _ (evs_at hj (i := 2) rfl)⟩⟩
theorem only_cell {B : Nat → Prop} {w w' : World} (h : Only B w w') {q i : Nat} {u : Value} (hq : q < w.heap.size) (hB : ¬ B q) (hc : w.cell? ⟨q, i, none⟩ = some u) : w'.cell? ⟨q, i, none⟩ = some u := (World.cell?_of_block (a := ⟨q, i, none⟩) (h.block q hq hB)).trans hc
structure AppIn (w wr : World) (v : Value) (n : Nat) (l : List Ent) : Prop where
  below : Below w.heap.size w wr
  out : wr.ownsRow w.heap.size 37 3 v n (evs l)

set_option maxHeartbeats 8000000 in
set_option maxRecDepth 1000000 in
theorem apply_any (g b n : Nat) (t u : Tree) (v : Value) (l : List Tch) (w : World) (h : PSto w g b n lvNone t) (hT : TL w v l) (hvb : ∀ k, v.ownBlock = some k → k ≠ b) (hK : Tup.Kit w) (hS : Small u) (hl : l.length ≤ 1000) (hn : n ≤ 1000) (hp : ∀ q ∈ l, q.rd.path.size ≤ 10 ∧ q.rd.names = false ∧ q.val = valR u q.rd) :
    Calls Tryz.prog 19 #[.pointer (some ⟨g, 0, none⟩), v] w fun e w' => e = .returned (.int .i64 0) ∧ Kept (PSto w' g b (n + l.length) lvNone (puts u t l)) ∧ Only (· = b) w w' := by
  obtain ⟨i0, hi, hz0, hz1, hz2⟩ := info_parts entInfo
  have H := Kept.mk h
  have HT := Kept.mk hT
  have HK := Kept.mk hK
  have HS := Kept.mk hS
  have HP := Kept.mk hp
  have HV := Kept.mk hvb
  clear h hK hS hp hvb
  obtain ⟨A, c, rfl⟩ : ∃ A c, v = .slice A l.length c := by
    rcases hT with ⟨rfl, rfl⟩ | ⟨q, cap, rfl, _⟩
    · exact ⟨_, _, rfl⟩
    · exact ⟨_, _, rfl⟩
  clear hT
  go_enter Tryz.func19, Tryz.ntmps19
  go_upto_block 0 with fail
  go_cut [5, 14] (fun v5 _ wx => ∃ m, Kept (AppIn w wx v5 m (entsOf u l)))
  case first =>
    go_wp2_with fail
    go_loopw [5, 14] (fun v5 x wr => ∃ j : Nat, j ≤ l.length ∧ x = .int .i64 j ∧ Kept (AppIn w wr v5 j (entsOf u (l.take j)))) (fun _ x _ => l.length - (intOf x).toNat)
    case atStart => exact ⟨0, by omega, rfl, ⟨⟨Below.refl _ _, World.ownsRow_nil _ _ _ _⟩⟩⟩
    case round =>
      obtain ⟨j, hj, rfl, hD⟩ := hrel
      have j0 : (0 : Int) ≤ j := by omega
      by_cases hlt : j < l.length
      · have j1 : (j : Int) < (l.length : Int) := by omega
        rcases HT.out with ⟨_, h0⟩ | ⟨q, cap, e, hq, hc⟩
        · subst h0; simp at hlt
        · injection e with e1 e2 e3
          subst e1 e3
          obtain ⟨y0, y1, y2⟩ := hc j hlt
          have z0 := (hD.out.below.cell (p := ⟨q, j * 3, none⟩) hq).trans y0
          have z1 := (hD.out.below.cell (p := ⟨q, j * 3 + 1, none⟩) hq).trans y1
          have z2 := (hD.out.below.cell (p := ⟨q, j * 3 + 2, none⟩) hq).trans y2
          have HKr : Kept (Tup.Kit wr) := ⟨HK.out.below hD.out.below⟩
          have hpx := HP.out _ (List.getElem_mem hlt)
          have HTs := Kept.mk (entsOf_snoc u l hlt)
          generalize l[j] = x at z0 z1 z2 hpx HTs
          obtain ⟨⟨xp, xn⟩, xv⟩ := x
          simp only at z0 z1 z2 hpx HTs
          obtain ⟨hpx, rfl, rfl⟩ := hpx
          obtain ⟨hbk, hbs⟩ := val_back HS.out xp
          obtain ⟨k, m, d, he⟩ : ∃ k m d, get u xp = ⟨k, m, d⟩ := ⟨_, _, _, rfl⟩
          have HEn : Kept (∀ w, Tup.Kit w → Calls Tryz.prog 22 #[.string (valR u ⟨xp, false⟩)] w fun e w' => e = .returned (.tuple #[.agg #[.int .i64 k, .int .i64 m, .string d], .int .i64 0]) ∧ Below w.heap.size w w') := ⟨fun w hw => by
            have := entry_any (valR u ⟨xp, false⟩) w hbs hw
            rw [hbk, he] at this
            exact this⟩
          rw [he] at HTs
          generalize valR u ⟨xp, false⟩ = xv at z2 HEn
          clear hc y0 y1 y2 hbk hbs he
          have HA : Kept ((wr.alloc (.cells #[.string xp, .bool false, .string xv] 82)).heap[wr.heap.size]? = some (.cells #[.string xp, .bool false, .string xv] 82 (0, 0))) := ⟨heap_alloc_new wr _⟩
          have HB3 : Kept (Below wr.heap.size wr (wr.alloc (.cells #[.string xp, .bool false, .string xv] 82))) := ⟨(Below.refl _ _).alloc (Nat.le_refl _) _⟩
          go_wp2_with (first
            | (go_at_call 22
               refine (HEn.out _ (HKr.out.below HB3.out)).mono ?_
               rintro e w4 ⟨rfl, hb4⟩
               have HB4 := Kept.mk ((HB3.out.trans (hb4.mono HB3.out.size)).alloc (Nat.le_trans HB3.out.size hb4.size) (.cells #[.int .i64 k, .int .i64 m, .string d] 37))
               have HA4 : Kept ((w4.alloc (.cells #[.int .i64 k, .int .i64 m, .string d] 37)).heap[wr.heap.size]? = some (.cells #[.string xp, .bool false, .string xv] 82 (0, 0))) := ⟨(Below.heap_alloc w4 _ _ (Nat.lt_of_lt_of_le (blk HA.out) hb4.size)).trans ((hb4.block _ (blk HA.out)).trans HA.out)⟩
               have e1 : (w4.alloc (.cells #[.int .i64 k, .int .i64 m, .string d] 37)).cell? ⟨wr.heap.size, 1, none⟩ = some (.bool false) := cell_of_row _ _ 1 _ _ _ HA4.out
               have HO4 := Kept.mk (row_below hD.out.out HB4.out)
               have HS4 : Kept (w.heap.size ≤ w4.heap.size) := ⟨Nat.le_trans hD.out.below.size (Nat.le_trans HB3.out.size hb4.size)⟩
               clear hb4)
            | (at_builtin
               refine wpList_append_own _ rfl _ _ 87 rfl w.heap.size 37 i0 _ 3 32 Tryz.underlying87 hi hz0 hz1 hz2 rfl (by decide) _ _ _ rfl (HO4.out.alloc _) ⟨w4.heap.size + 1, 0, none⟩ 1 1 (ev ⟨k, m, d⟩) rfl rfl (by have := ev_new (w4.alloc (.cells #[.int .i64 k, .int .i64 m, .string d] 37)) ⟨k, m, d⟩ 37; rw [World.size_alloc] at this; exact this) (ev_one _) (by unfold maxLen; omega) (by omega) (by have := HS4.out; simp; omega) ?_
               intro v6 w6 ho6 hg6 _
               have hg7 := (World.grownBy_alloc (w4.alloc (.cells #[.int .i64 k, .int .i64 m, .string d] 37)) (.cells #[.int .i64 k, .int .i64 m, .string d] 37) _).trans hg6
               have hE6 : Kept (AppIn w w6 v6 (j + 1) (entsOf u (l.take (j + 1)))) := ⟨⟨(hD.out.below.trans (HB4.out.mono hD.out.below.size)).grown hg7 (by have := HS4.out; simp; omega) (fun k hk => (HO4.out.lt k hk).1), by rw [HTs.out]; exact ho6⟩⟩
               clear ho6 hg6 e1))
          go_roundw
          case rel => exact ⟨j + 1, by omega, by go_num, hE6⟩
          case measure => simp [intOf]; omega
      · have j1 : ¬ (j : Int) < (l.length : Int) := by omega
        go_wp2
        go_meet
        refine ⟨j, ?_⟩
        have := hD.out
        rw [List.take_of_length_le (by omega)] at this
        exact ⟨this⟩
  case rest =>
    obtain ⟨m, hD1⟩ := hcut
    have hE := evs_cells hD1.out.out
    have hel : (entsOf u l).length = l.length := by unfold entsOf; simp
    obtain ⟨A5, c5, rfl⟩ : ∃ A c, u5 = .slice A l.length c := by
      rcases hE with ⟨rfl, h0⟩ | ⟨q, cap, rfl, _⟩
      · exact ⟨none, 0, by rw [← hel, h0]; rfl⟩
      · exact ⟨_, _, by rw [hel]⟩
    have HE := Kept.mk hE
    have HW : Kept (Below w.heap.size w wc) := ⟨hD1.out.below⟩
    have H0 : Kept (PSto wc g b (n + 0) lvNone (puts u t (l.take 0)) ∧ Only (· = b) wc wc) := ⟨H.out.below HW.out, Only.refl _ _⟩
    have HGb : Kept (g ≠ b ∧ b < w.heap.size) := ⟨H.out.ne, H.out.own.lt⟩
    clear hE hD1
    go_wp2_with fail
    go_loopw [10, 11, 37] (fun _ _ x wr => ∃ j : Nat, j ≤ l.length ∧ x = .int .i64 j ∧ Kept (PSto wr g b (n + j) lvNone (puts u t (l.take j)) ∧ Only (· = b) wc wr)) (fun _ _ x _ => l.length - (intOf x).toNat)
    case atStart => exact ⟨0, by omega, rfl, H0⟩
    case round =>
      clear H0
      obtain ⟨j, hj, rfl, hD⟩ := hrel
      have j0 : (0 : Int) ≤ j := by omega
      by_cases hlt : j < l.length
      · have j1 : (j : Int) < (l.length : Int) := by omega
        rcases HT.out with ⟨_, h0⟩ | ⟨q, cap, e, hq, hc⟩
        · subst h0; simp at hlt
        · injection e with e1 e2 e3
          subst e1 e3
          rcases HE.out with ⟨_, h0⟩ | ⟨q5, cap5, e5, hB5, hq5, hc5⟩
          · rw [h0] at hel; simp at hel; omega
          · injection e5 with e1 e2 e3
            subst e1 e3
            clear e2
            have hqb : q ≠ b := HV.out q rfl
            have hq2 := Nat.lt_of_lt_of_le hq HW.out.size
            obtain ⟨y0, y1, y2⟩ := hc j hlt
            have z0 := only_cell hD.out.2 hq2 hqb ((HW.out.cell (p := ⟨q, j * 3, none⟩) hq).trans y0)
            have z1 := only_cell hD.out.2 hq2 hqb ((HW.out.cell (p := ⟨q, j * 3 + 1, none⟩) hq).trans y1)
            have z2 := only_cell hD.out.2 hq2 hqb ((HW.out.cell (p := ⟨q, j * 3 + 2, none⟩) hq).trans y2)
            obtain ⟨v0, v1, v2⟩ := hc5 j (by omega)
            have hq5b : q5 ≠ b := fun e => by have := HGb.out.2; omega
            have eX : (entsOf u l)[j]'(by omega) = get u l[j].rd.path := by unfold entsOf; simp
            rw [eX] at v0 v1 v2
            have HPu := Kept.mk (puts_snoc u t l hlt)
            have hpx := (HP.out _ (List.getElem_mem hlt)).1
            generalize l[j] = x at z0 z1 z2 hpx HPu v0 v1 v2
            obtain ⟨⟨xp, xn⟩, xv⟩ := x
            simp only at z0 z1 z2 hpx HPu v0 v1 v2
            generalize get u xp = ee at v0 v1 v2 HPu
            obtain ⟨k, m2, d⟩ := ee
            simp only at v0 v1 v2
            clear hc hc5 y0 y1 y2 eX
            have HA : Kept ((wr.alloc (.cells #[.string xp, .bool xn, .string xv] 82)).drew.heap[wr.heap.size]? = some (.cells #[.string xp, .bool xn, .string xv] 82 (0, 0))) := ⟨heap_alloc_new wr _⟩
            have HO3 : Kept (Only (· = b) wc (wr.alloc (.cells #[.string xp, .bool xn, .string xv] 82)).drew) := ⟨(hD.out.2.alloc _).drew⟩
            have HP3 : Kept (PSto (wr.alloc (.cells #[.string xp, .bool xn, .string xv] 82)).drew g b (n + j) lvNone (puts u t (l.take j))) := ⟨(hD.out.1.alloc _).drew⟩
            have d0 : (wr.alloc (.cells #[.string xp, .bool xn, .string xv] 82)).drew.cell? ⟨wr.heap.size, 0, none⟩ = some (.string xp) := cell_of_row _ _ 0 _ _ _ HA.out
            have d1 := only_cell HO3.out hq5 hq5b v0
            have d2 := only_cell HO3.out hq5 hq5b v1
            have d3 := only_cell HO3.out hq5 hq5b v2
            have hbw : Kept (b < wr.heap.size) := ⟨hD.out.1.own.lt⟩
            have HX : Kept (xp.size ≤ maxLen ∧ q5 < wc.heap.size ∧ q5 ≠ b) := ⟨by unfold maxLen; omega, hq5, hq5b⟩
            have HC : Kept (wc.cell? ⟨q5, j * 3, none⟩ = some (.int .i64 k) ∧ wc.cell? ⟨q5, j * 3 + 1, none⟩ = some (.int .i64 m2) ∧ wc.cell? ⟨q5, j * 3 + 2, none⟩ = some (.string d)) := ⟨v0, v1, v2⟩
            clear hel hB5 hq2 hq hqb hq5 hq5b hpx v0 v1 v2
            go_wp2
            go_region_held3 (fun w' => w'.cell? ⟨wr.heap.size, 0, none⟩ = some (.string xp) ∧ w'.cell? ⟨q5, j * 3, none⟩ = some (.int .i64 k) ∧ w'.cell? ⟨q5, j * 3 + 1, none⟩ = some (.int .i64 m2) ∧ w'.cell? ⟨q5, j * 3 + 2, none⟩ = some (.string d))
              (first
                | exact ⟨d0, d1, d2, d3⟩
                | exact ⟨e0, e1, e2, e3⟩)
              (first
                | (go_at_call 10
                   refine (put_none g b (n + j) _ xp ⟨k, m2, d⟩ _ HP3.out HX.out.1 (by omega)).mono ?_
                   rintro e w5 ⟨rfl, hp5, ho5⟩
                   have HO5 := Kept.mk (HO3.out.trans ho5 (fun _ _ h => h))
                   have hE6 : Kept (PSto w5 g b (n + (j + 1)) lvNone (puts u t (l.take (j + 1))) ∧ Only (· = b) wc w5) := ⟨by rw [HPu.out]; exact hp5.out, HO5.out⟩
                   have e0 := only_cell ho5 (blk HA.out) (fun e => by have := hbw.out; omega) d0
                   have e1 := only_cell HO5.out HX.out.2.1 HX.out.2.2 HC.out.1
                   have e2 := only_cell HO5.out HX.out.2.1 HX.out.2.2 HC.out.2.1
                   have e3 := only_cell HO5.out HX.out.2.1 HX.out.2.2 HC.out.2.2
                   clear hp5 ho5))
            go_wp2
            go_roundw
            case rel => exact ⟨j + 1, by omega, by go_num, hE6⟩
            case measure => simp [intOf]; omega
      · have j1 : ¬ (j : Int) < (l.length : Int) := by omega
        go_wp2
        go_ret
        have hjl : j = l.length := by omega
        have hP := hD.out.1
        rw [hjl, List.take_length] at hP
        exact ⟨rfl, ⟨hP⟩, ((Only.refl _ w).below HW.out).trans hD.out.2 (fun _ _ h => h)⟩
end St
end Go.Proofs.YtjmblgahoejoiaaGreatDoor
