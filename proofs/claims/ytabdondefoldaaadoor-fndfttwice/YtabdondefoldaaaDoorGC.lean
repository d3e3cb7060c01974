/- Rows in their order. -/
import Derived.Test.YtabdondefoldaaaDoorGB
namespace Go.Proofs.YtabdondefoldaaaDoor
open Go.RowKit

theorem vls_put (F : Nat → Value) (n j : Nat) (y : Value) : (vls F n).set j y = vls (fun i => if i = j then y else F i) n := by
  apply List.ext_getElem?
  intro i
  by_cases hi : i < n
  · by_cases e : i = j
    · subst e
      rw [List.getElem?_set_self (by rw [vls_length]; exact hi), vls_get hi, if_pos rfl]
    · rw [List.getElem?_set_ne (fun h => e h.symm), vls_get hi, vls_get hi, if_neg e]
  · rw [List.getElem?_eq_none (by rw [List.length_set, vls_length]; omega), List.getElem?_eq_none (by rw [vls_length]; omega)]

theorem vls_congr {F G : Nat → Value} {n : Nat} (h : ∀ k, k < n → F k = G k) : vls F n = vls G n := by
  apply List.ext_getElem?
  intro i
  by_cases hi : i < n
  · rw [vls_get hi, vls_get hi, h i hi]
  · rw [List.getElem?_eq_none (by rw [vls_length]; omega), List.getElem?_eq_none (by rw [vls_length]; omega)]

theorem made_vls (n : Nat) : (madeCells (Value.slice none 0 0).cells (n * 1)).toList = vls (fun _ => .slice none 0 0) n := by
  have e : (Value.slice none 0 0).cells = #[.slice none 0 0] := by simp [Value.cells]
  rw [e]
  apply List.ext_getElem
  · simp [madeCells, vls]
  · intro i h1 h2
    simp [madeCells, vls, Nat.mod_one]

theorem Tryd.info29 : (Tryd.prog.info? 29).map (fun i => (i.zero, i.size, i.bytes)) = some (some (.slice none 0 0), 1, 24) := by kernel_rfl

set_option maxHeartbeats 2000000 in
theorem inOrdR {w : World} {B g n cap m c : Nat} {gs cs : Nat → Nat} {M : Nat → Nat → Int} (hm : m ≤ 8) (hn : n = 2 ^ m) (h : Rws w B g n cap c gs cs M) :
    Calls Tryd.prog 20 #[.slice (some ⟨g, 0, none⟩) n cap] w fun e w' => ∃ u, e = .returned u ∧ w'.ownsRow w.heap.size 29 1 u n (vls (fun k => rv gs cs c (rvp m k)) n) ∧ Below w.heap.size w w' := by
  obtain ⟨i0, hi, hz0, hz1, hz2⟩ := info_parts Tryd.info29
  have hp : 1 ≤ n ∧ n ≤ 256 := by
    rw [hn]
    exact ⟨Nat.one_le_two_pow, by calc 2 ^ m ≤ 2 ^ 8 := Nat.pow_le_pow_right (by omega) hm
      _ = 256 := rfl⟩
  have i1 := fun W => lead_pow hm hn W
  have hcap : n ≤ cap := by
    rcases h.row.2 with ⟨h', _⟩ | ⟨g', cap', cur, h', _, _, hx, _⟩
    · simp at h'
    · injection h' with _ _ e3
      omega
  have HCL : Hid (Rws w B g n cap c gs cs M) := h
  clear h
  have HRV : Hid (∀ k, k < n → rvp m k < n ∧ rev64 (k : Int) / 2 ^ (64 - m) = (rvp m k : Int)) := fun k hk => by
    have := rev_facts hm (show k < 2 ^ m by omega)
    exact ⟨by rw [hn]; exact this.2.1, this.2.2⟩
  obtain ⟨w1, hmk, hrow, hgr⟩ := run_makeSlice_full (P := Tryd.prog) w w.heap.size 24 29 i0 (.slice none 0 0) 1 Tryd.underlying24 hi hz0 hz1 .i64 .i64 n (by omega) (by rw [hz2]; omega) (by unfold maxLen; omega) (Nat.le_refl _)
  have hbl : Below w.heap.size w w1 := (Below.refl _ _).grown hgr (Nat.le_refl _) (fun _ h => by cases h)
  rw [made_vls] at hrow
  clear hgr hi hz0 hz1 hz2 hn
  have HR : Hid (w1.ownsRow w.heap.size 29 1 (.slice (some ⟨w.heap.size, 0, none⟩) n n) n (vls (fun _ => .slice none 0 0) n)) := hrow
  have HB : Hid (Below w.heap.size w w1) := hbl
  clear hrow hbl
  go_enter Tryd.func20, Tryd.ntmps20
  go_wp2_with (go_at_call 34; refine (i1 _).mono ?_; rintro e w' ⟨rfl, hw⟩; obtain rfl := hw.symm)
  go_loopw [5, 16] (fun _ i wr => ∃ k : Nat, i = .int .i64 k ∧ k ≤ n ∧ Hid ((∃ F, wr.ownsRow w.heap.size 29 1 (.slice (some ⟨w.heap.size, 0, none⟩) n n) n (vls F n) ∧ ∀ j, j < k → F j = rv gs cs c (rvp m j)) ∧ Below w.heap.size w wr)) (fun _ i _ => n - (intOf i).toNat)
  case atStart => exact ⟨0, rfl, by omega, ⟨_, HR.out, fun j hj => by omega⟩, HB.out⟩
  case round =>
    obtain ⟨k, rfl, hk, hrel⟩ := hrel
    obtain ⟨⟨F, hrow, hF⟩, hbl⟩ := hrel.out
    by_cases h1 : k < n
    · obtain ⟨hr1, hr2⟩ := HRV.out k h1
      have i2 := rev_any (k : Int) (by omega) (by omega)
      obtain ⟨R, hR⟩ : ∃ R, R = rvp m k := ⟨_, rfl⟩
      obtain ⟨Z, hZ⟩ : ∃ Z, Z = rev64 (k : Int) := ⟨_, rfl⟩
      rw [← hR, ← hZ] at hr2
      rw [← hR] at hr1
      rw [← hZ] at i2
      have cc := (HCL.out.call hbl).cell hr1
      have hfz := hrow.frozenAt k
      have hst := (hrow.stored k (rv gs cs c R)).1
      have hce := hrow.cellAt k (by omega)
      rw [vls_get h1] at hce
      rw [vls_put] at hst
      have HS : Hid (∃ F', (wr.setCell ⟨w.heap.size, k, none⟩ (rv gs cs c R)).ownsRow w.heap.size 29 1 (.slice (some ⟨w.heap.size, 0, none⟩) n n) n (vls F' n) ∧ ∀ j, j < k + 1 → F' j = rv gs cs c (rvp m j)) := ⟨_, hst, fun j hj => by
        by_cases e : j = k
        · subst e; rw [if_pos rfl, hR]
        · rw [if_neg e]; exact hF j (by omega)⟩
      have HB2 : Hid (Below w.heap.size w (wr.setCell ⟨w.heap.size, k, none⟩ (rv gs cs c R))) := hbl.setCell (Nat.le_refl _) _
      rw [show 64 - m = 63 - m + 1 by omega] at hr2
      clear hst hbl hrow hrel hR hZ hF
      generalize F k = u at hce
      go_wp2_with (go_at_call 35; refine (i2 _).mono ?_; rintro e w' ⟨rfl, hw⟩; obtain rfl := hw.symm)
      go_roundw
      case rel => exact ⟨k + 1, by go_num, by omega, HS.out, HB2.out⟩
      case measure => simp [intOf]; omega
    · obtain rfl : k = n := by omega
      rw [vls_congr hF] at hrow
      have HR2 : Hid _ := hrow
      clear hrow hrel hF
      go_wp2
      go_ret
      exact ⟨_, rfl, HR2.out, hbl⟩
end Go.Proofs.YtabdondefoldaaaDoor
