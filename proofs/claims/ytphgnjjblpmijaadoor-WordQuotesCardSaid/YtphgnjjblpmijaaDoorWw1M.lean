/-
  The laws over any program that parses and prints as the chapter says: what is asked of it; texts of few pieces; awake.
-/
import Derived.Test.YtphgnjjblpmijaaDoorWrdM
import Derived.Test.YtphgnjjblpmijaaDoorWr7M
import Derived.Test.YtphgnjjblpmijaaDoorGx
import Derived.Test.YtphgnjjblpmijaaDoorWr9M
namespace Go.Proofs.YtphgnjjblpmijaaDoor
open Go.RowKit Tx
namespace Wx
open Lx

def QEnd (w : World) (r : Except Int (List Pt)) (e : Ending) (w' : World) : Prop :=
  match r with
  | .ok l => ∃ A k, e = .returned (.tuple #[.slice A l.length k, .int .i64 0]) ∧ Kept (LV (Nw w.heap.size) w' (.slice A l.length k) l) ∧ Below w.heap.size w w'
  | .error c => ∃ A k, e = .returned (.tuple #[.slice A 0 k, .int .i64 c]) ∧ Kept (A = none → k = 0) ∧ (c == 0) = false ∧ Below w.heap.size w w'
/-- What is asked of the program, in a world of which K holds. -/
structure PrK (K : World → Prop) : Prop where
  parse : ∀ (s : ByteArray) (w : World), K w → s.size ≤ 5000 → Calls Tryd.prog 10 #[.string s] w (QEnd w (parts 30 (toL s)))
  print : ∀ (P : Nat → Prop) (l : List Pt) (A : Option Addr) (n k : Nat) (w : World), K w → LV P w (.slice A n k) l → wt l ≤ 20000 → Calls Tryd.prog 14 #[.slice A n k] w fun e w' => e = .returned (.string (bs (print l))) ∧ Below w.heap.size w w'
  keep : ∀ (w w' : World), K w → Below w.heap.size w w' → K w'
variable {K : World → Prop}
theorem PrK.ok (M : PrK K) (s : ByteArray) (w : World) (hK : K w) (hs : s.size ≤ 5000) (l : List Pt) (h : Kept (parts 30 (toL s) = .ok l)) :
    Calls Tryd.prog 10 #[.string s] w fun e w' => ∃ A k, e = .returned (.tuple #[.slice A l.length k, .int .i64 0]) ∧ Kept (LV (Nw w.heap.size) w' (.slice A l.length k) l) ∧ Below w.heap.size w w' := by
  have := M.parse s w hK hs
  unfold QEnd at this
  rw [h.out] at this
  exact this
theorem PrK.no (M : PrK K) (s : ByteArray) (w : World) (hK : K w) (hs : s.size ≤ 5000) (c : Int) (h : Kept (parts 30 (toL s) = .error c)) :
    Calls Tryd.prog 10 #[.string s] w fun e w' => ∃ A k, e = .returned (.tuple #[.slice A 0 k, .int .i64 c]) ∧ Kept (A = none → k = 0) ∧ (c == 0) = false ∧ Below w.heap.size w w' := by
  have := M.parse s w hK hs
  unfold QEnd at this
  rw [h.out] at this
  exact this
set_option maxRecDepth 100000 in
theorem refParse_any (s : ByteArray) (w : World) (hs : s.size ≤ 5000) : Calls Tryd.prog 11 #[.string s] w (PEnd w (parts 30 (toL s))) := by
  have HP := Kept.mk (parts_any 30 1 s w 1 (by omega) rfl hs)
  unfold PEnd at HP ⊢
  cases hp : parts 30 (toL s) with
  | error c =>
    rw [hp] at HP
    clear hp
    go_enter Tryd.func11, Tryd.ntmps11
    go_wp2_with (go_at_call 18; refine HP.out.mono ?_; rintro e w1 ⟨rfl, hc, hb⟩; have HC := Kept.mk hc; have HB := Kept.mk hb; clear hc hb)
    go_ret2
    exact ⟨rfl, HC.out, HB.out⟩
  | ok l =>
    rw [hp] at HP
    clear hp
    go_enter Tryd.func11, Tryd.ntmps11
    go_wp2_with (go_at_call 18; refine HP.out.mono ?_; rintro e w1 ⟨A, k, rfl, hl, hb⟩; generalize hll : l.length = ll at *; have HLL := Kept.mk hll; have HB := Kept.mk hb; clear hb hll)
    go_ret2
    exact ⟨A, k, by rw [HLL.out]; rfl, ⟨by rw [HLL.out]; exact hl.out⟩, HB.out⟩
theorem ref_ok (s : ByteArray) (w : World) (hs : s.size ≤ 5000) (l : List Pt) (h : Kept (parts 30 (toL s) = .ok l)) :
    Calls Tryd.prog 11 #[.string s] w fun e w' => ∃ A k, e = .returned (.tuple #[.slice A l.length k, .int .i64 0]) ∧ Kept (LV (Nw w.heap.size) w' (.slice A l.length k) l) ∧ Below w.heap.size w w' := by
  have := refParse_any s w hs
  unfold PEnd at this
  rw [h.out] at this
  exact this
theorem ref_no (s : ByteArray) (w : World) (hs : s.size ≤ 5000) (c : Int) (h : Kept (parts 30 (toL s) = .error c)) :
    Calls Tryd.prog 11 #[.string s] w fun e w' => e = .returned (.tuple #[.slice none 0 0, .int .i64 c]) ∧ (c == 0) = false ∧ Below w.heap.size w w' := by
  have := refParse_any s w hs
  unfold PEnd at this
  rw [h.out] at this
  exact this
/-! ### Pieces -/
/-- A list of bytes that came in. -/
def By8 (w : World) (A : Option Addr) (n : Nat) : Prop := ∀ j, j < n → ∃ g off z, A = some ⟨g, off, none⟩ ∧ g < w.heap.size ∧ w.cell? ⟨g, off + j, none⟩ = some (.int .u8 z) ∧ 0 ≤ z ∧ z ≤ 255
theorem By8.below {w w' : World} {A : Option Addr} {n : Nat} (h : By8 w A n) (hb : Below w.heap.size w w') : By8 w' A n := by
  intro j hj
  obtain ⟨g, off, z, e, hg, hc, h1, h2⟩ := h j hj
  exact ⟨g, off, z, e, Nat.lt_of_lt_of_le hg hb.size, (hb.cell (p := ⟨g, off + j, none⟩) hg).trans hc, h1, h2⟩
/-- A row of few short texts. -/
def Few (w : World) (g n : Nat) : Prop := ∀ j, j < n → ∃ x : ByteArray, w.cell? ⟨g, j, none⟩ = some (.string x) ∧ x.size ≤ 8
theorem Few.below {w w' : World} {g n : Nat} (h : Few w g n) (hg : g < w.heap.size) (hb : Below w.heap.size w w') : Few w' g n := fun j hj => by
  obtain ⟨x, hc, hs⟩ := h j hj
  exact ⟨x, (hb.cell (p := ⟨g, j, none⟩) hg).trans hc, hs⟩
def signVals : Array Value := #[.string ⟨#[97]⟩, .string ⟨#[39, 98, 32, 99, 39]⟩, .string ⟨#[34]⟩, .string ⟨#[36, 120]⟩, .string ⟨#[36, 123, 120, 125]⟩, .string ⟨#[36, 123, 121, 58, 45]⟩, .string ⟨#[125]⟩, .string ⟨#[36, 123, 35, 120, 125]⟩, .string ⟨#[36, 40, 99, 32, 100, 41]⟩, .string ⟨#[36, 40, 40, 49, 43, 50, 41, 41]⟩, .string ⟨#[92]⟩, .string ⟨#[36]⟩, .string ⟨#[36, 123, 122, 37, 37]⟩, .string ⟨#[42]⟩, .string ⟨#[36, 123, 49, 58, 61, 119, 125]⟩, .string ⟨#[39]⟩, .string ⟨#[36, 123, 120, 61, 36, 120, 125]⟩, .string ⟨#[36, 64]⟩, .string ⟨#[36, 123, 64, 125]⟩, .string ⟨#[36, 49]⟩, .string ⟨#[36, 123, 49, 50, 125]⟩, .string ⟨#[126]⟩, .string ⟨#[36, 123, 120]⟩, .string ⟨#[36, 123, 35, 125]⟩]
/-- A value that is a text of few bytes. -/
def short : Value → Bool
  | .string x => decide (x.size ≤ 8)
  | _ => false
theorem few_of {w : World} {g : Nat} {cs : Array Value} {t : TypeId} (h : w.heap[g]? = some (.cells cs t (0, 0))) (hs : cs.all short = true) : Few w g cs.size := fun j hj => by
  have h1 := cell_of_row w g j cs t (0, 0) h
  have h2 : short cs[j] = true := Array.all_eq_true.1 hs j hj
  rw [Array.getElem?_eq_getElem hj] at h1
  cases hc : cs[j] with
  | string x => rw [hc] at h1 h2; exact ⟨x, h1, of_decide_eq_true h2⟩
  | _ => rw [hc] at h2; cases h2
set_option maxRecDepth 100000 in
theorem signs_any (w : World) : Calls Tryd.prog 9 #[] w fun e w' => ∃ g, e = .returned (.slice (some ⟨g, 0, none⟩) 24 24) ∧ g < w'.heap.size ∧ Kept (Few w' g 24) ∧ Below w.heap.size w w' := by
  go_enter Tryd.func9, Tryd.ntmps9
  go_wp2_with fail
  go_ret
  refine ⟨w.heap.size, rfl, by simp, ⟨few_of (cs := signVals) (heap_alloc_new w _) (by decide +kernel)⟩, (Below.refl _ _).alloc (Nat.le_refl _) _⟩
set_option maxHeartbeats 1000000 in
set_option maxRecDepth 100000 in
theorem pieces_any (A : Option Addr) (n k g m q : Nat) (w : World) (hl : By8 w A n) (hn : n ≤ 9223372036854775807) (hp : Few w g m) (hm : 0 < m) (hm2 : m ≤ 100) :
    Calls Tryd.prog 8 #[.slice A n k, .slice (some ⟨g, 0, none⟩) m q] w fun e w' => ∃ x : ByteArray, e = .returned (.string x) ∧ x.size ≤ 112 ∧ w' = w := by
  have HL := Kept.mk hl
  have HP := Kept.mk hp
  clear hl hp
  go_enter Tryd.func8, Tryd.ntmps8
  go_wp2_with fail
  go_loop [5, 6] (fun v i => ∃ (j : Nat) (x : ByteArray), j ≤ n ∧ j ≤ 14 ∧ i = .int .i64 (j : Int) ∧ v = .string x ∧ x.size ≤ 8 * j) (fun _ i => n - (intOf i).toNat)
  case atStart => exact ⟨0, ⟨#[]⟩, by omega, by omega, rfl, rfl, by decide⟩
  case round =>
    obtain ⟨j, x, hj, hj14, rfl, rfl, hx⟩ := hrel
    have j0 : (0 : Int) ≤ j := by omega
    by_cases hlt : j < n
    · have j1 : (j : Int) < (n : Int) := by omega
      by_cases h14 : j < 14
      · have j2 : (j : Int) < 14 := by omega
        obtain ⟨ga, off, z, e, hg, hc, hz0, hz1⟩ := HL.out j hlt
        subst e
        have hm1 : (0 : Int) < (m : Int) := by omega
        have e1 : z.tmod (m : Int) = z % (m : Int) := Int.tmod_eq_emod_of_nonneg hz0
        have r0 : 0 ≤ z % (m : Int) := Int.emod_nonneg _ (by omega)
        have r1 : z % (m : Int) < (m : Int) := Int.emod_lt_of_pos _ hm1
        obtain ⟨y, hy, hys⟩ := HP.out (z % (m : Int)).toNat (by omega)
        have hsum : ¬ 9223372036854775807 < x.size + y.size := by omega
        have HC : Kept (x.size + y.size ≤ 8 * (j + 1)) := ⟨by omega⟩
        go_wp2_with fail
        go_round
        case rel => exact ⟨j + 1, x ++ y, by omega, by omega, by go_num, rfl, by rw [ByteArray.size_append]; exact HC.out⟩
        case measure => simp [intOf]; omega
      · have j2 : ¬ (j : Int) < 14 := by omega
        clear h14
        go_wp2_with fail
        go_ret
        exact ⟨x, rfl, by omega, rfl⟩
    · have j1 : ¬ (j : Int) < (n : Int) := by omega
      have j1b : decide ((j : Int) < (n : Int)) = false := decide_eq_false j1
      clear hlt
      go_wp2_with fail
      go_ret
      exact ⟨x, rfl, by omega, rfl⟩
/-! ### Lists that are built -/
theorem LV.lit {P : Nat → Prop} {w : World} {g n : Nat} (cap : Nat) {cs : Array Value} {xs : List Value} {l : List Pt} {t : TypeId} (hg : w.heap[g]? = some (.cells cs t (0, 0))) (hP : P g) (he : cs = xs.toArray) (h : Cs P w xs l) (hn : l.length = n) (hm : n ≤ cap := by decide) : LV P w (.slice (some ⟨g, 0, Option.none⟩) n cap) l :=
  .at g 0 n cap xs l hn hm hP (Array.getElem?_eq_some_iff.1 hg).1 (fun j u hu => by
    rw [Nat.zero_add, cell_of_row w g j cs t (0, 0) hg, he]
    simpa using hu) h
theorem Cs.txt {P : Nat → Prop} {w : World} (k : Int) (q : Bool) (t n o : List UInt8) {xs : List Value} {l : List Pt} (h : Cs P w xs l) : Cs P w (pvs k q t n o (.slice Option.none 0 0) ++ xs) (.mk k q t n o [] :: l) :=
  .cons k q t n o [] _ xs l rfl (.nil _ _ (fun _ => rfl)) h
def lit1 : List Pt := [txt false [97], txt true [98], .mk 1 false [] [99] [] []]
def lit2 : List Pt := [.mk 1 true [] [120] [58, 45] [txt true [121]]]
theorem lit1_parts : parts 30 (toL ⟨#[97, 39, 98, 39, 36, 99]⟩) = .ok lit1 := by kernel_rfl
theorem lit2_parts : parts 30 (toL ⟨#[34, 36, 123, 120, 58, 45, 121, 125, 34]⟩) = .ok lit2 := by kernel_rfl
theorem lit3_parts : parts 30 (toL ⟨#[36, 123, 125]⟩) = .error 90 := by kernel_rfl
set_option maxHeartbeats 2000000 in
set_option maxRecDepth 100000 in
theorem awake_any (M : PrK K) (w : World) (hK : K w) : Calls Tryd.prog 12 #[] w fun e w' => e = .returned (.bool true) ∧ Below w.heap.size w w' := by
  have HK := Kept.mk hK
  have H1 : Kept (parts 30 (toL ⟨#[97, 39, 98, 39, 36, 99]⟩) = .ok lit1) := ⟨lit1_parts⟩
  have H2 : Kept (parts 30 (toL ⟨#[34, 36, 123, 120, 58, 45, 121, 125, 34]⟩) = .ok lit2) := ⟨lit2_parts⟩
  have H3 : Kept (parts 30 (toL ⟨#[36, 123, 125]⟩) = .error 90) := ⟨lit3_parts⟩
  clear hK
  go_enter Tryd.func12, Tryd.ntmps12
  go_wp2_with fail
  go_at_call 10
  refine (M.ok ⟨#[97, 39, 98, 39, 36, 99]⟩ _ HK.out (by decide) lit1 H1).mono ?_
  rintro e w1 ⟨A1, k1, rfl, hl1, hb1⟩
  have HB1 := Kept.mk hb1
  have HL1 := hl1
  clear hl1 hb1
  go_wp2_with fail
  go_at_call 10
  refine (M.ok ⟨#[34, 36, 123, 120, 58, 45, 121, 125, 34]⟩ _ (M.keep _ _ HK.out HB1.out) (by decide) lit2 H2).mono ?_
  rintro e w2 ⟨A2, k2, rfl, hl2, hb2⟩
  have HL1 := Kept.mk (HL1.out.keep hb2)
  have HB2 := Kept.mk (HB1.out.trans (hb2.mono HB1.out.size))
  have HL2 := hl2
  clear hl2 hb2
  go_wp2_with fail
  go_at_call 10
  refine (M.no ⟨#[36, 123, 125]⟩ _ (M.keep _ _ HK.out HB2.out) (by decide) 90 H3).mono ?_
  rintro e w3 ⟨A3, k3, rfl, _, _, hb3⟩
  have HL1 := Kept.mk (HL1.out.keep hb3)
  have HL2 := Kept.mk (HL2.out.keep hb3)
  have HB3 := Kept.mk (HB2.out.trans (hb3.mono HB2.out.size))
  clear hb3
  go_wp2_with fail
  go_at_call 13
  refine (same_any _ (Nw w.heap.size) (fun _ => True) lit1 A1 (some ⟨w3.heap.size, 0, none⟩) _ _ k1 3 _ rfl (HL1.out.keep ((Below.refl _ _).alloc (Nat.le_refl _) _)) (LV.lit 3 (heap_alloc_new w3 _) trivial rfl (Cs.txt 0 false [97] [] [] (Cs.txt 0 true [98] [] [] (Cs.txt 1 false [] [99] [] .nil))) rfl) (by decide)).mono ?_
  rintro e w4 ⟨rfl, hb4⟩
  have HL2 := Kept.mk ((HL2.out.keep ((Below.refl _ _).alloc (Nat.le_refl _) _)).keep hb4)
  have HB4 : Kept (Below w.heap.size w w4) := ⟨(HB3.out.alloc HB3.out.size _).trans (hb4.mono (by have := HB3.out.size; simp; omega))⟩
  clear hb4
  go_wp2_with fail
  go_at_call 13
  refine (same_any _ (Nw w1.heap.size) (fun _ => True) lit2 A2 (some ⟨w4.heap.size + 1, 0, none⟩) _ _ k2 1 _ rfl (HL2.out.keep (((Below.refl _ _).alloc (Nat.le_refl _) _).alloc (by simp) _)) (LV.lit 1 (by have := heap_alloc_new (w4.alloc (.cells #[.int .i64 0, .bool true, .string ⟨#[121]⟩, .string ⟨#[]⟩, .string ⟨#[]⟩, .slice none 0 0] 39)) (.cells #[.int .i64 1, .bool true, .string ⟨#[]⟩, .string ⟨#[120]⟩, .string ⟨#[58, 45]⟩, .slice (some ⟨w4.heap.size, 0, none⟩) 1 1] 39); rwa [World.size_alloc] at this) trivial rfl (Cs.cons 1 true [] [120] [58, 45] [txt true [121]] (.slice (some ⟨w4.heap.size, 0, none⟩) 1 1) [] [] rfl (LV.lit 1 ((Below.heap_alloc _ _ _ (by simp)).trans (heap_alloc_new w4 _)) trivial rfl (Cs.txt 0 true [121] [] [] .nil) rfl) .nil) rfl) (by decide)).mono ?_
  rintro e w5 ⟨rfl, hb5⟩
  have HB5 : Kept (Below w.heap.size w w5) := ⟨((HB4.out.alloc HB4.out.size _).alloc (by have := HB4.out.size; simp; omega) _).trans (hb5.mono (by have := HB4.out.size; simp; omega))⟩
  clear hb5
  go_wp2_with fail
  go_ret
  exact ⟨rfl, HB5.out⟩
end Wx
end Go.Proofs.YtphgnjjblpmijaaDoor
