/-
  The document's Size: how many parts and bytes there are, as far as they are counted.
-/
import Derived.Test.YtphgnjjblpmijaaDoorWr8M
import Derived.IntWalk
import Derived.Deep.RegionHeld3
namespace Go.Proofs.YtphgnjjblpmijaaDoor
open Go.RowKit Tx
namespace Wx
variable {P : Nat → Prop}

mutual
/-- How many are counted, onto n, if no more than most are. -/
def szOn : Nat → Nat → List Pt → Nat
  | _, n, [] => n
  | most, n, p :: l => if n ≤ most then szOn most (n + szP (most - n) p) l else n
def szP : Nat → Pt → Nat
  | most, .mk _ _ t n o w => 1 + t.length + n.length + o.length + szOn most 0 w
end
mutual
theorem szOn_le : ∀ (most n : Nat) (l : List Pt), szOn most n l ≤ n + wt l
  | _, n, [] => by rw [szOn]; omega
  | most, n, p :: l => by
    rw [szOn, wt]
    split
    · have := szOn_le most (n + szP (most - n) p) l
      have := szP_le (most - n) p
      omega
    · omega
theorem szP_le : ∀ (most : Nat) (p : Pt), szP most p ≤ wtP p
  | most, .mk k q t n o w => by
    rw [szP, wtP_mk]
    have := szOn_le most 0 w
    omega
end
mutual
theorem szOn_is : ∀ (most n : Nat) (l : List Pt), szOn most n l ≤ most → szOn most n l = n + wt l
  | _, n, [], _ => by rw [szOn, wt_nil, Nat.add_zero]
  | most, n, p :: l, h => by
    rw [szOn] at h ⊢
    split at h
    · rename_i hn
      rw [if_pos hn]
      have h1 := szOn_is most _ l h
      have h2 := szP_is (most - n) p (by omega)
      rw [h1, wt]
      omega
    · omega
theorem szP_is : ∀ (most : Nat) (p : Pt), szP most p ≤ most → szP most p = wtP p
  | most, .mk k q t n o w, h => by
    rw [szP] at h ⊢
    have := szOn_is most 0 w (by omega)
    rw [wtP_mk]
    omega
end
set_option maxHeartbeats 2000000 in
set_option maxRecDepth 100000 in
theorem size_any (N : Nat) : ∀ (l : List Pt) (A : Option Addr) (n k most : Nat) (w : World) (z : Int), cnt l = N → LV P w (.slice A n k) l → wt l ≤ 2000000 → most ≤ 1000000 → z = (szOn most 0 l : Nat) →
    Calls Tryd.prog 16 #[.slice A n k, .int .i64 (most : Int)] w fun e w' => e = .returned (.int .i64 z) ∧ Below w.heap.size w w' := by
  induction N using Nat.strongRecOn with
  | _ N ih =>
    intro l A n k most w z hN hl hw hm hz
    have IH := Kept.mk ih
    have HW := Kept.mk hw
    have hlen : l.length ≤ 2000000 := Nat.le_trans (wt_len l) hw
    obtain rfl := hl.len
    have H := Kept.mk hl
    have HZ := Kept.mk hz
    have HN := Kept.mk hN
    obtain ⟨ll, hll⟩ : ∃ ll, ll = l.length := ⟨_, rfl⟩
    have HLL := Kept.mk hll
    rw [← hll] at hlen H ⊢
    clear ih hw hl hN hz hll
    go_enter Tryd.func16, Tryd.ntmps16
    go_wp2_with fail
    go_loopw [5, 6] (fun v i wr => ∃ j s : Nat, j ≤ ll ∧ i = .int .i64 (j : Int) ∧ v = .int .i64 (s : Int) ∧ s ≤ 2000000 ∧ Kept (z = (szOn most s (l.drop j) : Nat) ∧ s + wt (l.drop j) ≤ 2000000) ∧ Kept (Below w.heap.size w wr)) (fun _ i _ => ll - (intOf i).toNat)
    case atStart => exact ⟨0, 0, by omega, rfl, rfl, by omega, ⟨⟨HZ.out, by rw [List.drop_zero]; have := HW.out; omega⟩⟩, ⟨Below.refl _ _⟩⟩
    case round =>
      obtain ⟨j, s, hj, rfl, rfl, hs, HJ, HB⟩ := hrel
      have j0 : (0 : Int) ≤ j := by omega
      by_cases hlt : j < ll
      · have j1 : (j : Int) < (ll : Int) := by omega
        have hjl : j < l.length := by have := HLL.out; omega
        by_cases hle : s ≤ most
        · have s1 : (s : Int) ≤ (most : Int) := by omega
          obtain ⟨g, off, kk, q, t, nn, o, wd, v, e, hg, hp, hv, hwd, c0, c1, c2, c3, c4, c5⟩ := (H.out.keep HB.out).get hjl
          subst e
          obtain ⟨A2, k2, rfl⟩ := hwd.slice
          have hcw := cnt_word hjl hp
          have hdr := List.drop_eq_getElem_cons hjl
          have hsp : szP (most - s) l[j] = 1 + t.length + nn.length + o.length + szOn (most - s) 0 wd := by rw [hp, szP]
          have hso : szOn most s (l.drop j) = szOn most (s + szP (most - s) l[j]) (l.drop (j + 1)) := by rw [hdr, szOn, if_pos hle]
          have hwt := wt_drop hjl
          have hsl := szP_le (most - s) l[j]
          have hww : wt wd ≤ 2000000 := by have := HJ.out.2; rw [hwt, hp, wtP_mk] at this; omega
          obtain ⟨x, hx⟩ : ∃ x, x = szOn (most - s) 0 wd := ⟨_, rfl⟩
          have HC := Kept.mk (IH.out (cnt wd) (by have := HN.out; omega) wd A2 wd.length k2 (most - s) wr.drew x rfl (hwd.keep (Below.refl _ _).drew) hww (by omega) (by rw [hx]))
          have HL : Kept (∀ W, Below wr.heap.size wr W → W.cell? ⟨g, off + j * 6 + 2, none⟩ = some (.string (bs t)) ∧ W.cell? ⟨g, off + j * 6 + 3, none⟩ = some (.string (bs nn)) ∧ W.cell? ⟨g, off + j * 6 + 4, none⟩ = some (.string (bs o)) ∧ W.cell? ⟨g, off + j * 6 + 5, none⟩ = some (.slice A2 wd.length k2)) := ⟨fun W hW => ⟨(hW.cell hg).trans c2, (hW.cell hg).trans c3, (hW.cell hg).trans c4, (hW.cell hg).trans c5⟩⟩
          have e5 : (most : Int) - (s : Int) = ((most - s : Nat) : Int) := by omega
          rw [← hx] at hsp
          have hJ := HJ.out
          rw [hso] at hJ
          rw [hwt] at hJ
          have HJ2 : Kept (z = (szOn most (s + szP (most - s) l[j]) (l.drop (j + 1)) : Nat) ∧ s + szP (most - s) l[j] + wt (l.drop (j + 1)) ≤ 2000000) := ⟨⟨hJ.1, by omega⟩⟩
          have hb : s + szP (most - s) l[j] ≤ 2000000 := by omega
          rw [hsp] at HJ2 hb
          have HS := Kept.mk hb
          rw [← bs_size t, ← bs_size nn, ← bs_size o] at hb
          clear hcw hdr hsp hso hwt hsl hww hx hJ hp hjl HJ hwd c0 c1 c2 c3 c4 c5
          generalize wd.length = wl at *
          have z1 : IntKind.i64.wrap ((s : Int) + 1) = (s : Int) + 1 := IntWalk.i64_in _ (by omega)
          have z2 : IntKind.i64.wrap ((s : Int) + 1 + ((bs t).size : Int)) = (s : Int) + 1 + ((bs t).size : Int) := IntWalk.i64_in _ (by omega)
          have z3 : IntKind.i64.wrap ((s : Int) + 1 + ((bs t).size : Int) + ((bs nn).size : Int)) = (s : Int) + 1 + ((bs t).size : Int) + ((bs nn).size : Int) := IntWalk.i64_in _ (by omega)
          have z4 : IntKind.i64.wrap ((s : Int) + 1 + ((bs t).size : Int) + ((bs nn).size : Int) + ((bs o).size : Int)) = (s : Int) + 1 + ((bs t).size : Int) + ((bs nn).size : Int) + ((bs o).size : Int) := IntWalk.i64_in _ (by omega)
          have z5 : IntKind.i64.wrap ((most : Int) - (s : Int)) = ((most - s : Nat) : Int) := by rw [← e5]; exact IntWalk.i64_in _ (by omega)
          have z6 : IntKind.i64.wrap ((s : Int) + 1 + ((bs t).size : Int) + ((bs nn).size : Int) + ((bs o).size : Int) + (x : Int)) = (s : Int) + 1 + ((bs t).size : Int) + ((bs nn).size : Int) + ((bs o).size : Int) + (x : Int) := IntWalk.i64_in _ (by omega)
          have z7 : IntKind.i64.wrap ((j : Int) + 1) = (j : Int) + 1 := IntWalk.i64_in _ (by omega)
          have HE : Kept ((s : Int) + 1 + ((bs t).size : Int) + ((bs nn).size : Int) + ((bs o).size : Int) + (x : Int) = ((s + (1 + t.length + nn.length + o.length + x) : Nat) : Int)) := ⟨by rw [bs_size, bs_size, bs_size]; omega⟩
          clear e5 hb
          obtain ⟨d2, d3, d4, d5⟩ := HL.out wr.drew (Below.refl _ _).drew
          go_wp2_with fail
          go_region_held3 (fun w' => w'.cell? ⟨g, off + j * 6 + 2, none⟩ = some (.string (bs t)) ∧ w'.cell? ⟨g, off + j * 6 + 3, none⟩ = some (.string (bs nn)) ∧ w'.cell? ⟨g, off + j * 6 + 4, none⟩ = some (.string (bs o)) ∧ w'.cell? ⟨g, off + j * 6 + 5, none⟩ = some (.slice A2 wl k2))
            (first
              | exact ⟨d2, d3, d4, d5⟩
              | exact ⟨e2, e3, e4, e5⟩)
            (first
              | (go_at_call 16
                 refine HC.out.mono ?_
                 rintro e w3 ⟨rfl, hb⟩
                 have HB3 : Kept (Below wr.heap.size wr w3) := ⟨((Below.refl _ _).drew).trans hb⟩
                 obtain ⟨e2, e3, e4, e5⟩ := HL.out w3 HB3.out
                 clear hb))
          go_wp2_with fail
          go_roundw
          case rel => exact ⟨j + 1, _, by omega, by go_num, by rw [HE.out], HS.out, HJ2, ⟨HB.out.trans (HB3.out.mono HB.out.size)⟩⟩
          case measure => simp [intOf]; omega
        · have s1 : ¬ (s : Int) ≤ (most : Int) := by omega
          have hdr := List.drop_eq_getElem_cons hjl
          have HR : Kept (z = (s : Int)) := ⟨by rw [HJ.out.1, hdr, szOn, if_neg hle]⟩
          clear hdr hle hjl
          go_wp2_with fail
          go_ret
          exact ⟨by rw [HR.out]; rfl, HB.out⟩
      · have j1 : ¬ (j : Int) < (ll : Int) := by omega
        have HR : Kept (z = (s : Int)) := ⟨by rw [HJ.out.1, List.drop_eq_nil_of_le (by have := HLL.out; omega), szOn]⟩
        clear hlt
        go_wp2_with fail
        go_ret
        exact ⟨by rw [HR.out]; rfl, HB.out⟩
end Wx
end Go.Proofs.YtphgnjjblpmijaaDoor
