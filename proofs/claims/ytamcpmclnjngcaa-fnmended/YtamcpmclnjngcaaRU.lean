/- Bytes that are the same; a word hurt. -/
import Derived.Test.YtamcpmclnjngcaaRS
import Derived.Lib.SlBytesRow
namespace Go.Proofs.Ytamcpmclnjngcaa
open Go.RowKit

theorem str_of {w : World} {b off n cap : Nat} {xs : Nat → Int} (h : ∀ k, k < n → w.cell? ⟨b, off + k, none⟩ = some (.int .u8 (xs k))) : (convert 22 9 (.slice (some ⟨b, off, none⟩) n cap)).run Try.prog w = .ok (.string (strOfNums ((List.range n).map xs))) w :=
  run_convert_bytes_arg (P := Try.prog) w 22 5 Try.underlying22 Try.underlying5 b off n cap ((List.range n).map xs) (by simp) (fun i hi => by
    rw [h i hi]
    simp [List.getD, hi]) 9 Try.underlying9

set_option maxHeartbeats 1000000 in
theorem bsame_yes {w : World} {v u : Value} {n : Nat} {xs ys : Nat → Int} (hv : Bl w v n xs) (hu : Bl w u n ys) (hn : 1 ≤ n) (he : ∀ k, k < n → xs k = ys k) :
    Calls Try.prog 13 #[v, u] w fun e w' => e = .returned (.bool true) ∧ w' = w := by
  obtain ⟨ao, cap, rfl, hcap, hc⟩ := hv
  obtain ⟨bo, cap2, rfl, hcap2, hc2⟩ := hu
  obtain ⟨b, off, rfl, hb, hcell⟩ := hc (by omega)
  obtain ⟨b2, off2, rfl, hb2, hcell2⟩ := hc2 (by omega)
  have h1 := str_of (cap := cap) hcell
  have h2 := str_of (cap := cap2) hcell2
  have e1 : (List.range n).map xs = (List.range n).map ys := List.map_congr_left fun k hk => he k (List.mem_range.1 hk)
  rw [e1] at h1
  generalize strOfNums ((List.range n).map ys) = S at h1 h2
  clear hc hc2 hcell hcell2 he e1
  go_enter Try.func13, Try.ntmps13
  go_wp2
  go_ret
  exact ⟨rfl, rfl⟩


/-- A code whose bytes are named. -/
def Rwz (w : World) (a : Option Addr) (n : Nat) (zs : Nat → Int) : Prop := ∀ i, i < n → ∃ b off, a = some ⟨b, off, none⟩ ∧ b < w.heap.size ∧ w.cell? ⟨b, off + i, none⟩ = some (.int .u8 (zs i)) ∧ 0 ≤ zs i ∧ zs i < 256

theorem rwz_of {w : World} {a : Option Addr} {n : Nat} (h : Row w a n) : ∃ zs, Rwz w a n zs := by
  refine ⟨fun i => if hi : i < n then (h i hi).choose_spec.choose_spec.choose else 0, fun i hi => ?_⟩
  obtain h' := (h i hi).choose_spec.choose_spec.choose_spec
  simp only [dif_pos hi]
  exact ⟨_, _, h'⟩

theorem Rwz.below {w w' : World} {a : Option Addr} {n : Nat} {zs : Nat → Int} (h : Rwz w a n zs) (hb : Below w.heap.size w w') : Rwz w' a n zs := fun i hi => by
  obtain ⟨b, off, h1, h2, h3, h4⟩ := h i hi
  exact ⟨b, off, h1, Nat.lt_of_lt_of_le h2 hb.size, (hb.cell (p := ⟨b, off + i, none⟩) h2).trans h3, h4⟩

/-- What at tells. -/
def atv (zs : Nat → Int) (n i : Nat) : Int := if i < n then zs i else ((i : Int) * 7 + n) % 256

theorem at_v {w : World} {a : Option Addr} {n cap i : Nat} {zs : Nat → Int} (hr : Rwz w a n zs) (hn : n ≤ 1048576) (hi : i ≤ 1048576) : Calls Try.prog 14 #[.slice a n cap, .int .i64 (i : Int)] w fun e w' => e = .returned (.int .i64 (atv zs n i)) ∧ w' = w := by
  by_cases h : i < n
  · obtain ⟨b, off, rfl, hb, hc, hz0, hz1⟩ := hr i h
    have hv : atv zs n i = zs i := if_pos h
    rw [hv]
    clear hr hb hv
    generalize zs i = z at *
    go_enter Try.func14, Try.ntmps14
    go_wp2
    go_ret
    exact ⟨rfl, rfl⟩
  · have hv : atv zs n i = ((i : Int) * 7 + n) % 256 := if_neg h
    rw [hv]
    clear hr hv
    go_enter Try.func14, Try.ntmps14
    go_wp2
    go_ret
    exact ⟨rfl, rfl⟩

theorem own_at {w w' : World} {B e s n : Nat} {v : Value} {xs : List Value} (h : w.ownsRow B e s v n xs) (q : ∀ g, v.ownBlock = some g → w'.heap[g]? = w.heap[g]?) : w'.ownsRow B e s v n xs := by
  refine ⟨h.1, ?_⟩
  rcases h.2 with h' | ⟨g, cap, cur, rfl, hb, hg, rest⟩
  · exact .inl h'
  · exact .inr ⟨g, cap, cur, rfl, hb, (q g rfl).trans hg, rest⟩

theorem own_set {w : World} {B e s n g k : Nat} {v x : Value} {xs : List Value} (h : w.ownsRow B e s v n xs) (hg : ∀ b, v.ownBlock = some b → b ≠ g) : (w.setCell ⟨g, k, none⟩ x).ownsRow B e s v n xs := own_at h (fun b hb => set_block (hg b hb))

/-- A word hurt at the first i places. -/
def hrt (C pl E : Nat → Nat) : Nat → Nat → Nat
  | 0 => C
  | i + 1 => fun q => if q = pl i then hrt C pl E i q ^^^ E i else hrt C pl E i q
theorem hrt_lt {C pl E : Nat → Nat} (hC : ∀ q, C q < 256) (hE : ∀ i, E i < 256) : ∀ i q, hrt C pl E i q < 256
  | 0, q => hC q
  | i + 1, q => by
    show (if q = pl i then _ else _) < 256
    split
    · exact xor_lt8 (hrt_lt hC hE i q) (hE i)
    · exact hrt_lt hC hE i q
theorem hrt_out {C pl E : Nat → Nat} {q : Nat} : ∀ k, (∀ i, i < k → pl i ≠ q) → hrt C pl E k q = C q
  | 0, _ => rfl
  | k + 1, h => by
    show (if q = pl k then _ else _) = _
    rw [if_neg (fun e => h k (by omega) e.symm)]
    exact hrt_out k (fun i hi => h i (by omega))
theorem hrt_in {C pl E : Nat → Nat} {i : Nat} : ∀ k, i < k → (∀ a b, a < b → b < k → pl a < pl b) → hrt C pl E k (pl i) = C (pl i) ^^^ E i
  | 0, h, _ => absurd h (by omega)
  | k + 1, h, hi => by
    show (if pl i = pl k then _ else _) = _
    by_cases e : i = k
    · subst e
      rw [if_pos rfl, hrt_out i (fun a ha e2 => by have := hi a i ha (by omega); omega)]
    · rw [if_neg (fun e2 => by have := hi i k (by omega) (by omega); omega)]
      exact hrt_in k (by omega) (fun a b ha hb => hi a b ha (by omega))
theorem xor_keep {a b : Nat} (h : b ≠ 0) : a ^^^ b ≠ a := fun e => h (by
  have : a ^^^ (a ^^^ b) = a ^^^ a := by rw [e]
  rw [xor_aab, Nat.xor_self] at this
  exact this)
end Go.Proofs.Ytamcpmclnjngcaa
