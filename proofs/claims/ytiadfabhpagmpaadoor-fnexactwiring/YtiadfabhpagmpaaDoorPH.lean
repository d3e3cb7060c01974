/- Plans that are right: the program. -/
import Derived.Test.YtiadfabhpagmpaaDoorPG
import Derived.WalkKit
import Derived.WalkSpells
import Derived.WalkLawsBesides
import Derived.Deep.QuietTactic
import Derived.BigQuiet
import Derived.BigRegion
import Derived.Deep.Cut
namespace Go.Proofs.YtiadfabhpagmpaaDoor
open Go.RowKit

theorem pls_self {α : Type} (f : Nat → α) (k : Nat) : pls f k (f k) = f := by
  funext i
  unfold pls
  split
  · rename_i h; rw [h]
  · rfl

/-- A link between nodes. -/
def Lgd (n : Nat) (ns : Nat → Nd) (x : Lk) : Prop := (0 ≤ x.fr ∧ x.fr ≤ (n : Int) - 1) ∧ (0 ≤ x.to ∧ x.to ≤ (n : Int) - 1) ∧ (ns x.fr.toNat).kd ≠ 2

/-- A plan that is right. -/
def Pok (n m : Nat) (ns : Nat → Nd) (ls : Nat → Lk) : Prop := (1 ≤ n ∧ n ≤ 20) ∧ m ≤ 40 ∧ (∀ i, i < n → Ndok (ns i) ∧ ∀ j, j < i → (ns j).nm ≠ (ns i).nm) ∧ (∀ i, i < m → Lgd n ns (ls i)) ∧ ∀ b, b < n → (dcn ls (b : Int) m : Int) = dors (ns b).kd.toNat

theorem dcn_mono (ls : Nat → Lk) (b : Int) {i : Nat} : ∀ m, i ≤ m → dcn ls b i ≤ dcn ls b m
  | 0, h => by obtain rfl : i = 0 := by omega
               exact Nat.le_refl _
  | m + 1, h => by
    rcases Nat.lt_or_ge m i with h1 | h1
    · obtain rfl : i = m + 1 := by omega
      exact Nat.le_refl _
    · have := dcn_mono ls b m h1
      show _ ≤ dcn ls b m + _
      omega

theorem pok_of {n m : Nat} {ns : Nat → Nd} {ls : Nat → Lk} (h1 : ∀ i, i < n → Gdn i ns (ns i)) (h2 : ∀ i, i < m → Gdl n i ns ls (ls i)) (h3 : Full n m ns ls) (h4 : 0 < n) : Pok n m ns ls := by
  have n20 : n ≤ 20 := by
    rcases Nat.lt_or_ge 20 n with h | h
    · exact absurd rfl (h1 20 h).2.1
    · exact h
  have m40 : m ≤ 40 := by
    rcases Nat.lt_or_ge 40 m with h | h
    · exact absurd rfl (h2 40 h).2.2.1
    · exact h
  refine ⟨⟨h4, n20⟩, m40, fun i hi => ⟨(h1 i hi).1, (h1 i hi).2.2⟩, fun i hi => ⟨(h2 i hi).1, (h2 i hi).2.1, (h2 i hi).2.2.2.1⟩, fun b hb => ?_⟩
  have up : ∀ k, k ≤ m → (dcn ls (b : Int) k : Int) ≤ dors (ns b).kd.toNat := by
    intro k
    induction k with
    | zero => intro _; show ((0 : Nat) : Int) ≤ _; unfold dors; split <;> (try split) <;> omega
    | succ k ih =>
      intro hk
      have h5 := ih (by omega)
      have h6 := (h2 k (by omega)).2.2.2.2
      show ((dcn ls (b : Int) k + if (ls k).to = (b : Int) then 1 else 0 : Nat) : Int) ≤ _
      by_cases e : (ls k).to = (b : Int)
      · rw [if_pos e]
        rw [e, show ((b : Int)).toNat = b by omega] at h6
        omega
      · rw [if_neg e]
        exact h5
  have := up m (Nat.le_refl m)
  have := h3 b hb
  omega

theorem of_pok {n m : Nat} {ns : Nat → Nd} {ls : Nat → Lk} (h : Pok n m ns ls) : (∀ i, i < n → Gdn i ns (ns i)) ∧ (∀ i, i < m → Gdl n i ns ls (ls i)) ∧ Full n m ns ls := by
  obtain ⟨hn, hm, h1, h2, h3⟩ := h
  refine ⟨fun i hi => ⟨(h1 i hi).1, by omega, (h1 i hi).2⟩, fun i hi => ⟨(h2 i hi).1, (h2 i hi).2.1, by omega, (h2 i hi).2.2, ?_⟩, fun b hb => by have := h3 b hb; omega⟩
  have hr := (h2 i hi).2.1
  obtain ⟨t, ht⟩ : ∃ t : Nat, (ls i).to = (t : Int) := ⟨(ls i).to.toNat, by omega⟩
  have h4 := h3 t (by omega)
  have h5 := dcn_mono ls (t : Int) (i := i + 1) m (by omega)
  have h6 : dcn ls (t : Int) (i + 1) = dcn ls (t : Int) i + 1 := by
    show dcn ls (t : Int) i + (if (ls i).to = (t : Int) then 1 else 0) = _
    rw [if_pos ht]
  rw [ht, show ((t : Int)).toNat = t by omega]
  omega

theorem own_nil (w : World) (B s : Nat) (e : TypeId) : w.ownsRow B e s (.slice none 0 0) 0 [] := ⟨by simp, .inl ⟨rfl, rfl⟩⟩

theorem dr_start (w : World) (ns : Nat → Nd) (ls : Nat → Lk) : Dr w (w.alloc (.cells #[.slice none 0 0, .slice none 0 0] 56)) w.heap.size (.slice none 0 0) (.slice none 0 0) 0 0 ns ls :=
  ⟨by simp, by simp, fun o => by simp, own_nil _ _ _ _, own_nil _ _ _ _, .inl rfl, (fun e => nomatch e), (fun e => nomatch e), below_one _ _, Nat.le_refl _, by simp⟩

set_option maxRecDepth 20000 in
set_option maxHeartbeats 8000000 in
theorem iPlan_any {w : World} {v u : Value} {n m : Nat} {ns : Nat → Nd} {ls : Nat → Lk} (hK : Kds w) (hv : Nl w v n ns) (hu : Ll w u m ls) (hs : ∀ i, i < n → (ns i).nm.size ≤ 1048576) :
    Calls Tryd.prog 8 #[.agg #[v, u]] w fun e w' => ∃ r : Bool, e = .returned (.bool r) ∧ (r = true ↔ Pok n m ns ls) ∧ Below w.heap.size w w' := by
  have neqI : ∀ (u : TypeId) (x : Value) (W : World), (binOp .neq 58 (.iface u x) .nilIface).run Tryd.prog W = .ok (.bool true) W := fun u x W => run_neq_held_nil W 58 u x (by kernel_rfl)
  have HK : Hid (Kds w) := hK
  have HV : Hid (Nl w v n ns) := hv
  have HL : Hid (Ll w u m ls) := hu
  have HS : Hid (∀ i, i < n → (ns i).nm.size ≤ 1048576) := hs
  obtain ⟨ao, cap, rfl, hcap⟩ := hv.open
  obtain ⟨bo, cap2, rfl, hcap2⟩ := hu.open
  clear hK hv hu hs
  go_enter Tryd.func8, Tryd.ntmps8
  go_upto_region 2 with fail
  have BX : Hid (Below w.heap.size w (w.alloc (.cells #[.slice ao n cap, .slice bo m cap2] 31))) := below_one _ _
  have pn : (w.alloc (.cells #[.slice ao n cap, .slice bo m cap2] 31)).cell? ⟨w.heap.size, 0, none⟩ = some (.slice ao n cap) := by simp
  have pl : (w.alloc (.cells #[.slice ao n cap, .slice bo m cap2] 31)).cell? ⟨w.heap.size, 1, none⟩ = some (.slice bo m cap2) := by simp
  have hsz : (w.alloc (.cells #[.slice ao n cap, .slice bo m cap2] 31)).heap.size = w.heap.size + 1 := by simp
  generalize w.alloc (.cells #[.slice ao n cap, .slice bo m cap2] 31) = w1 at BX pn pl hsz ⊢
  rw [← hsz]
  clear hsz
  generalize w.heap.size = pg at pn pl ⊢
  have D0 : Hid (Dr w1 (w1.alloc (.cells #[.slice none 0 0, .slice none 0 0] 56)) w1.heap.size (.slice none 0 0) (.slice none 0 0) 0 0 ns ls) := dr_start w1 ns ls
  have pl0 : (w1.alloc (.cells #[.slice none 0 0, .slice none 0 0] 56)).cell? ⟨pg, 0, none⟩ = some (.slice ao n cap) := keepc D0.out.be pn
  have hpg : pg < w1.heap.size := World.block_lt_of_cell? _ _ pn
  have PL1 : Hid (w1.cell? ⟨pg, 1, none⟩ = some (.slice bo m cap2)) := pl
  clear pn pl
  go_upto_region 3 with fail
  clear pl0
  go_loopw [13, 5] (fun i _ wr => ∃ k : Nat, i = .int .i64 k ∧ k ≤ n ∧ Hid (∃ v', Dr w1 wr w1.heap.size v' (.slice none 0 0) k 0 ns ls) ∧ Hid (∀ i, i < k → Gdn i ns (ns i))) (fun i _ _ => n - (intOf i).toNat)
  case atStart => exact ⟨0, rfl, by omega, ⟨_, D0.out⟩, fun i hi => absurd hi (by omega)⟩
  case round =>
    clear D0
    obtain ⟨k, rfl, hk, hD, hG⟩ := hrel
    obtain ⟨v', hD'⟩ := hD.out
    have D1 : Hid (Dr w1 wr w1.heap.size v' (.slice none 0 0) k 0 ns ls) := hD'
    have BW : Hid (Below w.heap.size w wr) := bstep BX.out hD'.be
    clear hD hD'
    have k20 : k ≤ 20 := by
      rcases Nat.lt_or_ge 20 k with h | h
      · exact absurd rfl (hG.out 20 h).2.1
      · exact h
    by_cases h1 : k < n
    · obtain ⟨b, off, rfl, hlt, hcell⟩ := (HV.out.below BW.out).cells (by omega)
      obtain ⟨c0, c1, c2⟩ := hcell k h1
      have hxs := HS.out k h1
      have K1 : Hid (Kds wr) := HK.out.below BW.out
      clear hcell
      obtain ⟨x, hx⟩ : ∃ x, x = ns k := ⟨_, rfl⟩
      have HX : Hid (x = ns k) := hx
      rw [← hx] at c0 c1 c2 hxs
      clear hx
      by_cases h2 : Gdn k ns x
      · have G : Hid (Gdn k ns x) := h2
        clear h2
        go_wp2_with (go_at_call 24; go_loud (refine (addNode_any x hxs (K1.out.below (below_one _ _)) (D1.out.call (below_one _ _)) k20).mono ?_); rintro e w5 ⟨y, rfl, y1, y2, hb⟩; obtain ⟨rfl, v2, hD2⟩ := y1 G.out; have D2 : Hid (Dr w1 w5 w1.heap.size v2 (.slice none 0 0) (k + 1) 0 (pls ns k x) ls) := hD2; clear y1 y2 hb hD2)
        go_roundw
        case rel => exact ⟨k + 1, by go_num, by omega, ⟨v2, by have h := D2.out; rw [HX.out, pls_self] at h; exact h⟩, fun i hi => by
          rcases Nat.lt_or_ge i k with h3 | h3
          · exact hG.out i h3
          · obtain rfl : i = k := by omega
            have := G.out
            rw [HX.out] at this
            exact this⟩
        case measure => simp [intOf]; omega
      · have G : Hid (¬ Gdn k ns x) := h2
        clear h2
        go_wp2_with (go_at_call 24; go_loud (refine (addNode_any x hxs (K1.out.below (below_one _ _)) (D1.out.call (below_one _ _)) k20).mono ?_); rintro e w5 ⟨y, rfl, y1, y2, hb⟩; obtain ⟨ea, eb, rfl⟩ := y2 G.out; have B5 : Hid (Below w.heap.size w w5) := bstep BX.out hb; clear y1 y2 hb)
        go_ret
        exact ⟨false, rfl, ⟨(fun h => nomatch h), fun h => absurd ((of_pok h).1 k h1) (by rw [← HX.out]; exact G.out)⟩, B5.out⟩
    · have hkn : n = k := by omega
      subst hkn
      have PL2 := keepc D1.out.be PL1.out
      have D1L : Hid (Dr w1 wr w1.heap.size v' (.slice none 0 0) n 0 ns ls) := D1.out
      go_upto_region 9 with fail
      clear PL2
      have NK : Hid (∀ b, b < n → 1 ≤ (ns b).kd ∧ (ns b).kd ≤ 8) := fun b hb => (hG.out b hb).1.2.1
      go_loopw [25, 7] (fun i _ wq => ∃ k : Nat, i = .int .i64 k ∧ k ≤ m ∧ Hid (∃ u', Dr w1 wq w1.heap.size v' u' n k ns ls) ∧ Hid (∀ i, i < k → Gdl n i ns ls (ls i))) (fun i _ _ => m - (intOf i).toNat)
      case atStart => exact ⟨0, rfl, by omega, ⟨_, D1L.out⟩, fun i hi => absurd hi (by omega)⟩
      case round =>
        clear D1 D1L BW
        obtain ⟨k, rfl, hk2, hD, hL⟩ := hrel
        obtain ⟨u', hD'⟩ := hD.out
        have D1 : Hid (Dr w1 wr w1.heap.size v' u' n k ns ls) := hD'
        have BW : Hid (Below w.heap.size w wr) := bstep BX.out hD'.be
        clear hD hD'
        have k40 : k ≤ 40 := by
          rcases Nat.lt_or_ge 40 k with h | h
          · exact absurd rfl (hL.out 40 h).2.2.1
          · exact h
        have K1 : Hid (Kds wr) := HK.out.below BW.out
        by_cases h3 : k < m
        · obtain ⟨b, off, rfl, hlt, hcell⟩ := (HL.out.below BW.out).cells (by omega)
          obtain ⟨c0, c1⟩ := hcell k h3
          clear hcell
          obtain ⟨x, hx⟩ : ∃ x, x = ls k := ⟨_, rfl⟩
          have HX : Hid (x = ls k) := hx
          rw [← hx] at c0 c1
          clear hx
          by_cases h2 : Gdl n k ns ls x
          · have G : Hid (Gdl n k ns ls x) := h2
            clear h2
            go_wp2_with (go_at_call 25; go_loud (refine (addLink_any x (K1.out.below (below_one _ _)) (D1.out.call (below_one _ _)) k20 k40 NK.out).mono ?_); rintro e w5 ⟨y, rfl, y1, y2, hb⟩; obtain ⟨rfl, v2, hD2⟩ := y1 G.out; have D2 : Hid (Dr w1 w5 w1.heap.size v' v2 n (k + 1) ns (pls ls k x)) := hD2; clear y1 y2 hb hD2)
            go_roundw
            case rel => exact ⟨k + 1, by go_num, by omega, ⟨v2, by have h := D2.out; rw [HX.out, pls_self] at h; exact h⟩, fun i hi => by
              rcases Nat.lt_or_ge i k with h3 | h3
              · exact hL.out i h3
              · obtain rfl : i = k := by omega
                have := G.out
                rw [HX.out] at this
                exact this⟩
            case measure => simp [intOf]; omega
          · have G : Hid (¬ Gdl n k ns ls x) := h2
            clear h2
            go_wp2_with (go_at_call 25; go_loud (refine (addLink_any x (K1.out.below (below_one _ _)) (D1.out.call (below_one _ _)) k20 k40 NK.out).mono ?_); rintro e w5 ⟨y, rfl, y1, y2, hb⟩; obtain ⟨ea, eb, rfl⟩ := y2 G.out; have B5 : Hid (Below w.heap.size w w5) := bstep BX.out hb; clear y1 y2 hb)
            go_ret
            exact ⟨false, rfl, ⟨(fun h => nomatch h), fun h => absurd ((of_pok h).2.1 k h3) (by rw [← HX.out]; exact G.out)⟩, B5.out⟩
        · have hkm : m = k := by omega
          subst hkm
          go_wp2_with (go_at_call 26; go_loud (refine (whole_any K1.out D1.out.c0 D1.out.c1 (nl_of_own D1.out.o1) (ll_of_own D1.out.o2) (by omega) (by omega) NK.out).mono ?_); rintro e w5 ⟨r, rfl, hr, hb⟩; have B5 : Hid (Below w.heap.size w w5) := bstep BW.out hb; have R : Hid (r = true ↔ Full n m ns ls ∧ 0 < n) := hr; clear hr hb)
          go_ret
          exact ⟨r, rfl, ⟨fun h => pok_of hG.out hL.out (R.out.1 h).1 (R.out.1 h).2, fun h => R.out.2 ⟨(of_pok h).2.2, h.1.1⟩⟩, B5.out⟩

end Go.Proofs.YtiadfabhpagmpaaDoor
