/-
  The program's splitter: a byte of a text that is to be split.
-/
import Derived.Test.YtjnhhkiabdbenaaDoorFp3
import Derived.Laws.Unary
import Derived.IntWalk
namespace Go.Proofs.YtjnhhkiabdbenaaDoor
open Go.RowKit Tx
namespace Fd

/-- The splitter is as x says. -/
def SX (B b : Nat) (f : List UInt8) (x : St) (w : World) : Prop := ∃ u v sp, SM B b f u v sp x.out x.cur x.has w ∧ (x.has = false → sp = x.gap ∧ x.cur = [])
theorem SX.below {B b : Nat} {f : List UInt8} {x : St} {w w' : World} (h : SX B b f x w) (hb : Below w.heap.size w w') : SX B b f x w' := by
  obtain ⟨u, v, sp, h1, h2⟩ := h
  exact ⟨u, v, sp, h1.below hb, h2⟩
/-- What a call of the splitter leaves. -/
def Left (B b : Nat) (f : List UInt8) (x : St) (w : World) (e : Ending) (w' : World) : Prop := e = .returned (.tuple #[]) ∧ Kept (SX B b f x w') ∧ Kept (Far B w w')
theorem SM.gap {B b : Nat} {f : List UInt8} {u v : Value} {sp has : Bool} {out : List (List UInt8)} {cur : List UInt8} {w : World} (h : SM B b f u v sp out cur has w) (t : Bool) : SM B b f u v t out cur has (w.setCell ⟨b, 259, none⟩ (.bool t)) :=
  h.put 259 _ rfl rfl rfl rfl (by omega) h.outs h.bytes
theorem SM.on {B b : Nat} {f : List UInt8} {u v : Value} {sp has : Bool} {out : List (List UInt8)} {cur : List UInt8} {w : World} (h : SM B b f u v sp out cur has w) (t : Bool) : SM B b f u v sp out cur t (w.setCell ⟨b, 258, none⟩ (.bool t)) :=
  h.put 258 _ rfl rfl rfl rfl (by omega) h.outs h.bytes
/-- Is it a blank, as numbers say? -/
def BlZ (z : Int) (bk : Bool) : Prop := bk = true ∧ (z = 32 ∨ z = 9 ∨ z = 10) ∨ bk = false ∧ ¬ z = 32 ∧ ¬ z = 9 ∧ ¬ z = 10
theorem blZ (c : UInt8) : BlZ (c.toNat : Int) (blank c) := by
  have : ∀ c : UInt8, (blank c = true ∧ (c = 32 ∨ c = 9 ∨ c = 10)) ∨ (blank c = false ∧ ¬ c = 32 ∧ ¬ c = 9 ∧ ¬ c = 10) := by
    intro c
    unfold blank
    by_cases h1 : c = 32
    · subst h1; exact .inl ⟨rfl, .inl rfl⟩
    · by_cases h2 : c = 9
      · subst h2; exact .inl ⟨rfl, .inr (.inl rfl)⟩
      · by_cases h3 : c = 10
        · subst h3; exact .inl ⟨rfl, .inr (.inr rfl)⟩
        · exact .inr ⟨by simp [h1, h2, h3], h1, h2, h3⟩
  have hn : ∀ d : UInt8, ¬ c = d → ¬ (c.toNat : Int) = (d.toNat : Int) := fun d h e => h (UInt8.toNat_inj.1 (by omega))
  rcases this c with ⟨h1, h2⟩ | ⟨h1, h2, h3, h4⟩
  · refine .inl ⟨h1, ?_⟩
    rcases h2 with rfl | rfl | rfl
    · exact .inl rfl
    · exact .inr (.inl rfl)
    · exact .inr (.inr rfl)
  · exact .inr ⟨h1, hn 32 h2, hn 9 h3, hn 10 h4⟩
section
variable (B b : Nat) (f : List UInt8) (x : St) (z : Int) (bk : Bool) (s : ByteArray) (w : World) (hbk : BlZ z bk) (hx : SX B b f x w)
  (hix : ∀ W : World, (Instr.index 9 (.string s) (.int .i64 0)).run Tryd.prog W = .ok (.int .u8 z) W) (hz0 : 0 ≤ z) (hz1 : z < 256)
include hbk hx hix hz0 hz1
set_option maxHeartbeats 2000000 in
set_option maxRecDepth 100000 in
theorem split_out (c0 : w.cell? ⟨b, z.toNat, none⟩ = some (.bool false)) (hK : Kit w) (hl : x.cur.length ≤ 90000) (hs : s.size = 1) :
    Calls Tryd.prog 29 #[.pointer (some ⟨b, 0, none⟩), .string s] w (Left B b f ⟨x.out, x.cur ++ dbl (toL s), true, false⟩ w) := by
  obtain ⟨u, v, sp, hm, hok⟩ := hx
  have HM := Kept.mk hm
  have HK := Kept.mk hK
  have HL := Kept.mk hl
  have HZ : Kept (s.size ≤ 2000) := ⟨by omega⟩
  have HD : Kept ((bs (dbl (toL s))).size ≤ 100000) := ⟨by have := (dbl_length (toL s)).1; rw [bs_size]; rw [toL_length] at this; omega⟩
  have HB0 : Kept (B ≤ w.heap.size) := ⟨by have := hm.lt; have := hm.hb; omega⟩
  clear hm hok hK hl hs
  rcases hbk with ⟨rfl, rfl | rfl | rfl⟩ | ⟨rfl, n1, n2, n3⟩
  all_goals
    try simp only [Int.reduceToNat] at c0
    go_enter Tryd.func29, Tryd.ntmps29
    go_wp2_with fail
    go_at_call 27
    refine (doubled_any s w HK.out HZ.out).mono ?_
    rintro e w2 ⟨rfl, hb⟩
    have HM2 := Kept.mk (HM.out.below hb)
    have HB2 := Kept.mk (Far.of hb HB0.out)
    clear hb
    go_wp2_with fail
    go_at_call 26
    refine (add_any B b f u v sp x.has x.out x.cur (bs (dbl (toL s))) w2 HM2.out (by have := HL.out; omega) HD.out).mono ?_
    rintro e w3 ⟨rfl, v2, ⟨h3⟩, ⟨hb3⟩⟩
    rw [toL_bs] at h3
    have HE := Kept.mk (And.intro h3 (HB2.out.trans hb3))
    clear h3 hb3
    go_wp2_with fail
    go_end0
    exact ⟨rfl, ⟨u, v2, sp, HE.out.1, fun h => by cases h⟩, ⟨HE.out.2⟩⟩
set_option maxHeartbeats 2000000 in
set_option maxRecDepth 100000 in
theorem split_ends (c0 : w.cell? ⟨b, z.toNat, none⟩ = some (.bool true)) (hh : x.has = true) (hl : x.out.length ≤ 90000) :
    Calls Tryd.prog 29 #[.pointer (some ⟨b, 0, none⟩), .string s] w (Left B b f ⟨x.out ++ [x.cur], [], false, bk⟩ w) := by
  obtain ⟨u, v, sp, hm, hok⟩ := hx
  rw [hh] at hm
  have HM := Kept.mk hm
  have c8 := hm.c8
  have HL := Kept.mk hl
  clear hm hok hl hh
  rcases hbk with ⟨rfl, rfl | rfl | rfl⟩ | ⟨rfl, n1, n2, n3⟩
  all_goals
    try simp only [Int.reduceToNat] at c0
    go_enter Tryd.func29, Tryd.ntmps29
    go_wp2_with fail
    go_at_call 17
    refine (end_yes B b f u v sp x.out x.cur w HM.out (by have := HL.out; omega)).mono ?_
    rintro e w3 ⟨rfl, u2, v2, ⟨h3⟩, ⟨hb3⟩⟩
    have HE := Kept.mk (And.intro (fun t => h3.gap t) hb3)
    have d9 := h3.c9
    have f9 := h3.fz 259
    have HF9 := Kept.mk (fun t => h3.far 259 (.bool t))
    clear h3 hb3
    go_wp2_with fail
    go_end0
    exact ⟨rfl, ⟨u2, v2, _, HE.out.1 _, fun _ => ⟨by first | rfl | exact beq_eq_false_iff_ne.2 n3, rfl⟩⟩, ⟨HE.out.2.trans (HF9.out _)⟩⟩
set_option maxHeartbeats 2000000 in
set_option maxRecDepth 100000 in
theorem split_stays (c0 : w.cell? ⟨b, z.toNat, none⟩ = some (.bool true)) (hh : x.has = false) (hb : bk = true) :
    Calls Tryd.prog 29 #[.pointer (some ⟨b, 0, none⟩), .string s] w (Left B b f x w) := by
  have HX := Kept.mk hx
  obtain ⟨u, v, sp, hm, hok⟩ := hx
  rw [hh] at hm
  have c8 := hm.c8
  have c9 := hm.c9
  clear hm hok hh
  rcases hbk with ⟨rfl, rfl | rfl | rfl⟩ | ⟨rfl, n1, n2, n3⟩
  case inr => cases hb
  all_goals
    clear hb
    try simp only [Int.reduceToNat] at c0
    go_enter Tryd.func29, Tryd.ntmps29
    go_wp2_with fail
    go_end0
    exact ⟨rfl, HX, ⟨Far.refl _ _⟩⟩
set_option maxHeartbeats 2000000 in
set_option maxRecDepth 100000 in
theorem split_gap (c0 : w.cell? ⟨b, z.toNat, none⟩ = some (.bool true)) (hh : x.has = false) (hb : bk = false) (hg : x.gap = true) :
    Calls Tryd.prog 29 #[.pointer (some ⟨b, 0, none⟩), .string s] w (Left B b f ⟨x.out, x.cur, x.has, false⟩ w) := by
  obtain ⟨u, v, sp, hm, hok⟩ := hx
  have hsp : sp = true := (hok hh).1.trans hg
  have hcur := (hok hh).2
  subst hsp
  have HM := Kept.mk (hm.gap false)
  have HF9 := Kept.mk (hm.far 259 (.bool false))
  have HC := Kept.mk hcur
  have hm2 := hm
  rw [hh] at hm2
  have c8 := hm2.c8
  have c9 := hm2.c9
  have f9 := hm2.fz 259
  clear hm hm2 hok hh hg hcur
  rcases hbk with ⟨rfl, h⟩ | ⟨rfl, n1, n2, n3⟩
  · cases hb
  have n4 : (z == 10) = false := beq_eq_false_iff_ne.2 n3
  clear hb
  go_enter Tryd.func29, Tryd.ntmps29
  go_wp2_with fail
  go_end0
  exact ⟨rfl, ⟨u, v, false, HM.out, fun _ => ⟨rfl, HC.out⟩⟩, ⟨HF9.out⟩⟩
set_option maxHeartbeats 2000000 in
set_option maxRecDepth 100000 in
theorem split_empty (c0 : w.cell? ⟨b, z.toNat, none⟩ = some (.bool true)) (hh : x.has = false) (hb : bk = false) (hg : x.gap = false) (hl : x.out.length ≤ 90000) :
    Calls Tryd.prog 29 #[.pointer (some ⟨b, 0, none⟩), .string s] w (Left B b f ⟨x.out ++ [x.cur], [], false, false⟩ w) := by
  obtain ⟨u, v, sp, hm, hok⟩ := hx
  have hsp : sp = false := (hok hh).1.trans hg
  subst hsp
  have HM := Kept.mk (hm.on true)
  have HF8 := Kept.mk (hm.far 258 (.bool true))
  have HL := Kept.mk hl
  have hm2 := hm
  rw [hh] at hm2
  have c8 := hm2.c8
  have c9 := hm2.c9
  have f8 := hm2.fz 258
  clear hm hm2 hok hh hg hl
  rcases hbk with ⟨rfl, h⟩ | ⟨rfl, n1, n2, n3⟩
  · cases hb
  have n4 : (z == 10) = false := beq_eq_false_iff_ne.2 n3
  clear hb
  go_enter Tryd.func29, Tryd.ntmps29
  go_wp2_with fail
  go_at_call 17
  refine (end_yes B b f u v false x.out x.cur _ HM.out (by have := HL.out; omega)).mono ?_
  rintro e w3 ⟨rfl, u2, v2, ⟨h3⟩, ⟨hb3⟩⟩
  have HE := Kept.mk (And.intro (fun t => h3.gap t) (HF8.out.trans hb3))
  have d9 := h3.c9
  have HF9 := Kept.mk (fun t => h3.far 259 (.bool t))
  have f9 := h3.fz 259
  clear h3 hb3
  go_wp2_with fail
  go_end0
  exact ⟨rfl, ⟨u2, v2, _, HE.out.1 _, fun _ => ⟨by first | rfl | exact beq_eq_false_iff_ne.2 n3, rfl⟩⟩, ⟨HE.out.2.trans (HF9.out _)⟩⟩
end
theorem index_one (c : UInt8) (W : World) : (Instr.index 9 (.string (bs [c])) (.int .i64 0)).run Tryd.prog W = .ok (.int .u8 (c.toNat : Int)) W := by
  rw [Go.run_index_string W 9 (bs [c]) .i64 0 Tryd.underlying9, dif_pos ⟨by omega, by rw [bs_size]; simp⟩]
  rfl
/-- A byte is split. -/
theorem split_any (B b : Nat) (f : List UInt8) (x : St) (c : UInt8) (s : ByteArray) (w : World) (hs : toL s = [c]) (hx : SX B b f x w) (hK : Kit w) (hl : x.size ≤ 90000) :
    Calls Tryd.prog 29 #[.pointer (some ⟨b, 0, none⟩), .string s] w (Left B b f (byte f x c) w) := by
  have hse : s = bs [c] := by rw [← hs, bs_toL]
  have hix : ∀ W : World, (Instr.index 9 (.string s) (.int .i64 0)).run Tryd.prog W = .ok (.int .u8 (c.toNat : Int)) W := fun W => by rw [hse]; exact index_one c W
  have hz0 : (0 : Int) ≤ (c.toNat : Int) := by omega
  have hz1 : (c.toNat : Int) < 256 := by have := c.toNat_lt; omega
  have hsz : s.size = 1 := by rw [hse, bs_size]; rfl
  have hc0 : w.cell? ⟨b, (c.toNat : Int).toNat, none⟩ = some (.bool (f.contains c)) := by
    obtain ⟨u, v, sp, hm, _⟩ := hx
    have := hm.c (i := c.toNat) (by have := c.toNat_lt; omega)
    rw [Int.toNat_natCast, this, UInt8.ofNat_toNat]
  unfold St.size at hl
  unfold byte
  cases hf : f.contains c
  · rw [hf] at hc0
    rw [if_neg (by decide)]
    have := split_out B b f x _ _ s w (blZ c) hx hix hz0 hz1 hc0 hK (by omega) hsz
    rw [hs] at this
    exact this
  · rw [hf] at hc0
    rw [if_pos rfl]
    cases hh : x.has
    · cases hb : blank c
      · rw [if_neg (by decide)]
        cases hg : x.gap
        · rw [if_pos (by rfl)]
          exact split_empty B b f x _ _ s w (blZ c) hx hix hz0 hz1 hc0 hh hb hg (by omega)
        · rw [if_neg (by decide)]
          have := split_gap B b f x _ _ s w (blZ c) hx hix hz0 hz1 hc0 hh hb hg
          rw [hh] at this
          exact this
      · rw [if_pos rfl, if_neg (by decide)]
        exact split_stays B b f x _ _ s w (blZ c) hx hix hz0 hz1 hc0 hh hb
    · have := split_ends B b f x _ _ s w (blZ c) hx hix hz0 hz1 hc0 hh (by omega)
      cases hb : blank c
      · rw [if_neg (by decide), if_pos (by rfl)]
        rw [hb] at this
        exact this
      · rw [if_pos rfl, if_pos rfl]
        rw [hb] at this
        exact this
end Fd
end Go.Proofs.YtjnhhkiabdbenaaDoor
