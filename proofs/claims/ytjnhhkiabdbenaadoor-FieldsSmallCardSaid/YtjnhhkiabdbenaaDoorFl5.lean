/-
  The law of any text, split by any signs.
-/
import Derived.Test.YtjnhhkiabdbenaaDoorFl3
import Derived.Test.YtjnhhkiabdbenaaDoorFr3
namespace Go.Proofs.YtjnhhkiabdbenaaDoor
open Go.RowKit Tx
namespace Fd

/-- The document's Fields, its answer known. -/
theorem refFields_lit (l : List Sg) (r : List (List UInt8)) (A : Option Addr) (n k N : Nat) (s : ByteArray) (w : World) (hr : Kept (fieldsOf (toL s) l = r)) (hN : r.length = N) (hR : Rg w A l) (hn : l.length = n) (hk : ∀ g ∈ l, g.kind ≤ 3) (hw : wt l ≤ 1900) (hs : s.size ≤ 2000) (hn2 : n ≤ 100000) :
    Calls Tryd.prog 11 #[.slice A n k, .string s] w fun e w' => ∃ C q, e = .returned (.slice C N q) ∧ Kept (Rd w' C (r.map bs)) ∧ Below w.heap.size w w' := by
  subst hN
  have := refFields_any l A n k s w hR hn hk hw hs hn2
  rw [hr.out] at this
  exact this
theorem fields_lit2 (l : List Sg) (r : List (List UInt8)) (A : Option Addr) (n k N : Nat) (s : ByteArray) (w : World) (hr : Kept (fieldsOf (toL s) l = r)) (hN : r.length = N) (hK : Kit w) (hR : Rg w A l) (hn : l.length = n) (hk : ∀ g ∈ l, g.kind ≤ 3) (hw : wt l ≤ 3000) (hs : s.size ≤ 2000) (hn2 : n ≤ 100000) :
    Calls Tryd.prog 10 #[.slice A n k, .string s] w fun e w' => ∃ C q, e = .returned (.slice C N q) ∧ Kept (Rd w' C (r.map bs)) ∧ Below w.heap.size w w' := by
  subst hN
  exact fields_lit l r A n k s w hr hK hR hn hk hw hs hn2
theorem same_lit (r : List (List UInt8)) (A C : Option Addr) (N k q : Nat) (w : World) (hN : r.length = N) (h1 : Rd w A (r.map bs)) (h2 : Rd w C (r.map bs)) (hl : N ≤ 100000) :
    Calls Tryd.prog 9 #[.slice A N k, .slice C N q] w fun e w' => e = .returned (.bool true) ∧ Below w.heap.size w w' := by
  refine (same_any (r.map bs) (r.map bs) A C N k N q w h1 h2 (by rw [List.length_map]; exact hN) (by rw [List.length_map]; exact hN) (by omega) (by omega)).mono ?_
  rintro e w' ⟨he, hb⟩
  exact ⟨by rw [he]; simp, hb⟩
def splL (s : ByteArray) : List Sg := [⟨2, toL s⟩]
def splM (s a : ByteArray) : List Sg := [⟨0, toL a⟩, ⟨2, toL s⟩, ⟨1, toL a⟩, ⟨2, toL s⟩]
theorem splL_row (s : ByteArray) : (svs (splL s)).toArray = #[.int .i64 2, .string s] := by simp [svs, splL, bs_toL]
theorem splM_row (s a : ByteArray) : (svs (splM s a)).toArray = #[.int .i64 0, .string a, .int .i64 2, .string s, .int .i64 1, .string a, .int .i64 2, .string s] := by simp [svs, splM, bs_toL]
theorem splL_wt (s : ByteArray) : wt (splL s) = 2 * s.size + 1 := by simp [wt, splL, toL_length]
theorem splM_wt (s a : ByteArray) : wt (splM s a) = 4 * s.size + 4 * a.size + 4 := by simp [wt, splM, toL_length]; omega
set_option maxHeartbeats 4000000 in
set_option maxRecDepth 100000 in
theorem splits_any (s f a : ByteArray) (w : World) (hK : Kit w) (hs : s.size ≤ 140737488355328) (hf : f.size ≤ 140737488355328) (ha : a.size ≤ 140737488355328) : Calls Tryd.prog 6 #[.string s, .string f, .string a] w fun e w' => e = .returned (.bool true) ∧ Below w.heap.size w w' := by
  have HK := Kept.mk hK
  clear hK
  have e1 : IntKind.i64.wrap ((s.size : Int) + (f.size : Int)) = (s.size : Int) + (f.size : Int) := IntWalk.i64_in _ (by omega)
  have e2 : IntKind.i64.wrap ((s.size : Int) + (f.size : Int) + (a.size : Int)) = (s.size : Int) + (f.size : Int) + (a.size : Int) := IntWalk.i64_in _ (by omega)
  by_cases hz : s.size + f.size + a.size ≤ 300
  · have z1 : ¬ (300 : Int) < (s.size : Int) + (f.size : Int) + (a.size : Int) := by omega
    have HZ := Kept.mk hz
    have hb1 : Below w.heap.size w (w.alloc (.cells (svs (splL s)).toArray 32)) := (Below.refl _ _).alloc (Nat.le_refl _) _
    have hb2 : Below w.heap.size w ((w.alloc (.cells (svs (splL s)).toArray 32)).alloc (.cells (svs (splM s a)).toArray 32)) := hb1.alloc (by simp) _
    have hR1 := (Rg.fresh w 32 (splL s)).below ((Below.refl _ _).alloc (Nat.le_refl _) (.cells (svs (splM s a)).toArray 32))
    have hR2 := Rg.fresh (w.alloc (.cells (svs (splL s)).toArray 32)) 32 (splM s a)
    rw [World.size_alloc] at hR2
    rw [splL_row, splM_row] at hb2 hR1 hR2
    have HB2 := Kept.mk hb2
    have HR := Kept.mk (And.intro hR1 hR2)
    obtain ⟨r1, hr1⟩ : ∃ r1, fieldsOf (toL f) (splL s) = r1 := ⟨_, rfl⟩
    obtain ⟨r2, hr2⟩ : ∃ r2, fieldsOf (toL f) (splM s a) = r2 := ⟨_, rfl⟩
    obtain ⟨N1, hN1⟩ : ∃ N1, r1.length = N1 := ⟨_, rfl⟩
    obtain ⟨N2, hN2⟩ : ∃ N2, r2.length = N2 := ⟨_, rfl⟩
    have HN : Kept (N1 ≤ 100000 ∧ N2 ≤ 100000) := ⟨by
      have h1 := fields_size (toL f) (splL s)
      have h2 := fields_size (toL f) (splM s a)
      rw [splL_wt] at h1
      rw [splM_wt] at h2
      rw [hr1, hN1] at h1
      rw [hr2, hN2] at h2
      omega⟩
    have Hr1 := Kept.mk hr1
    have Hr2 := Kept.mk hr2
    have HN1 := Kept.mk hN1
    have HN2 := Kept.mk hN2
    have HW : Kept (wt (splL s) ≤ 1900 ∧ wt (splM s a) ≤ 1900) := ⟨by rw [splL_wt, splM_wt]; omega⟩
    have HKd : Kept ((∀ g ∈ splL s, g.kind ≤ 3) ∧ ∀ g ∈ splM s a, g.kind ≤ 3) := ⟨by
      constructor
      · intro g hg; simp only [splL, List.mem_singleton] at hg; subst hg; simp
      · intro g hg; simp only [splM, List.mem_cons, List.not_mem_nil, or_false] at hg; rcases hg with rfl | rfl | rfl | rfl <;> simp⟩
    clear hz hb1 hb2 hR1 hR2 hs hf ha hr1 hr2 hN1 hN2
    go_enter Tryd.func6, Tryd.ntmps6
    go_wp2_with fail
    go_at_call 8
    refine (awake_any _ (HK.out.below HB2.out)).mono ?_
    rintro e w1 ⟨rfl, hb⟩
    have HB3 := Kept.mk (HB2.out.trans (hb.mono HB2.out.size))
    have HR3 := Kept.mk (And.intro (HR.out.1.below hb) (HR.out.2.below hb))
    clear hb HR HB2
    go_wp2_with fail
    go_at_call 10
    refine (fields_lit2 (splL s) r1 _ 1 1 N1 f w1 Hr1 HN1.out (HK.out.below HB3.out) HR3.out.1 rfl HKd.out.1 (by have := HW.out.1; omega) (by have := HZ.out; omega) (by decide)).mono ?_
    rintro e w2 ⟨C1, q1, rfl, hR, hb⟩
    have HB4 := Kept.mk (HB3.out.trans (hb.mono HB3.out.size))
    have HR4 := Kept.mk (And.intro (HR3.out.1.below hb) (HR3.out.2.below hb))
    have HA := hR
    clear hb HR3 hR
    go_wp2_with fail
    go_at_call 11
    refine (refFields_lit (splL s) r1 _ 1 1 N1 f w2 Hr1 HN1.out HR4.out.1 rfl HKd.out.1 HW.out.1 (by have := HZ.out; omega) (by decide)).mono ?_
    rintro e w3 ⟨D1, p1, rfl, hR, hb⟩
    have HB5 := Kept.mk (HB4.out.trans (hb.mono HB4.out.size))
    have HR5 := Kept.mk (HR4.out.2.below hb)
    have HA2 := Kept.mk (And.intro (HA.out.below hb) hR.out)
    clear hb HR4 hR HA
    go_wp2_with fail
    go_at_call 9
    refine (same_lit r1 C1 D1 N1 q1 p1 w3 HN1.out HA2.out.1 HA2.out.2 HN.out.1).mono ?_
    rintro e w4 ⟨rfl, hb⟩
    have HB6 := Kept.mk (HB5.out.trans (hb.mono HB5.out.size))
    have HR6 := Kept.mk (HR5.out.below hb)
    clear hb HR5 HA2
    go_wp2_with fail
    go_at_call 10
    refine (fields_lit2 (splM s a) r2 _ 4 4 N2 f w4 Hr2 HN2.out (HK.out.below HB6.out) HR6.out rfl HKd.out.2 (by have := HW.out.2; omega) (by have := HZ.out; omega) (by decide)).mono ?_
    rintro e w5 ⟨C2, q2, rfl, hR, hb⟩
    have HB7 := Kept.mk (HB6.out.trans (hb.mono HB6.out.size))
    have HR7 := Kept.mk (HR6.out.below hb)
    have HA := hR
    clear hb HR6 hR
    go_wp2_with fail
    go_at_call 11
    refine (refFields_lit (splM s a) r2 _ 4 4 N2 f w5 Hr2 HN2.out HR7.out rfl HKd.out.2 HW.out.2 (by have := HZ.out; omega) (by decide)).mono ?_
    rintro e w6 ⟨D2, p2, rfl, hR, hb⟩
    have HB8 := Kept.mk (HB7.out.trans (hb.mono HB7.out.size))
    have HA2 := Kept.mk (And.intro (HA.out.below hb) hR.out)
    clear hb HR7 hR HA
    go_wp2_with fail
    go_at_call 9
    refine (same_lit r2 C2 D2 N2 q2 p2 w6 HN2.out HA2.out.1 HA2.out.2 HN.out.2).mono ?_
    rintro e w7 ⟨rfl, hb⟩
    have HB9 := Kept.mk (HB8.out.trans (hb.mono HB8.out.size))
    clear hb HA2
    go_wp2_with fail
    go_ret
    exact ⟨rfl, HB9.out⟩
  · have z1 : (300 : Int) < (s.size : Int) + (f.size : Int) + (a.size : Int) := by omega
    clear hz hs hf ha
    go_enter Tryd.func6, Tryd.ntmps6
    go_wp2_with fail
    go_at_call 8
    refine (awake_any w HK.out).mono ?_
    rintro e w1 ⟨rfl, hb⟩
    have HB1 := Kept.mk hb
    clear hb
    go_wp2_with fail
    go_ret
    exact ⟨rfl, HB1.out⟩
end Fd
end Go.Proofs.YtjnhhkiabdbenaaDoor
