/- A frame's bytes, in plain numbers. -/
import Derived.Test.YtndagpompioooaaDoorRD
import Derived.Test.YtndagpompioooaaDoorPM
namespace Go.Proofs.YtndagpompioooaaDoor
open Go.RowKit

theorem ric_mem {k : Nat} {xs : Nat → Int} (i : Nat) : ∀ x ∈ ric k xs i, Bit x := by
  induction i with
  | zero => intro x hx; cases hx
  | succ i ih =>
    intro x hx
    have hx2 : x ∈ ((ric k xs i ++ List.replicate (zig (xs i) / 2 ^ k) 1) ++ [0]) ++ low (zig (xs i)) k k := hx
    rcases List.mem_append.1 hx2 with h | h
    · rcases List.mem_append.1 h with h | h
      · rcases List.mem_append.1 h with h | h
        · exact ih x h
        · exact .inr (List.eq_of_mem_replicate h)
      · exact .inl (List.mem_singleton.1 h)
    · unfold low at h
      obtain ⟨j, _, rfl⟩ := List.mem_map.1 h
      show _ = _ ∨ _ = _
      omega

theorem lf_mem {L : List Int} {i : Nat} (h : i < L.length) : lf L i ∈ L := by
  unfold lf
  rw [List.getD_eq_getElem?_getD, List.getElem?_eq_getElem h]
  exact List.getElem_mem h

theorem ric_bit {k : Nat} {xs : Nat → Int} {n N : Nat} (hN : N = rbt k xs n) : ∀ i, i < N → Bit (lf (ric k xs n) i) := fun i hi => ric_mem n _ (lf_mem (by rw [ric_len]; omega))

/-- A frame's bytes without the check. -/
def fr0 (n o k N : Nat) (L : Nat → Int) (i : Nat) : Int := if i = 0 then 70 else if i = 1 then ((n - 1 : Nat) : Int) else if i = 2 then ((32 * o + k : Nat) : Int) else pk8 N L (i - 3)

/-- A frame's bytes: M without the check. -/
def frm (M : Nat) (f : Nat → Int) (i : Nat) : Int := if i < M then f i else if i = M then ((crc f M / 256 : Nat) : Int) else ((crc f M % 256 : Nat) : Int)

theorem fr0_byt {n o k N q : Nat} {L : Nat → Int} (hn : n ≤ 128) (ho : o ≤ 3) (hk : k ≤ 30) (hL : ∀ i, i < N → Bit (L i)) : Byt (3 + q) (fr0 n o k N L) := by
  intro i _
  unfold fr0
  by_cases h0 : i = 0
  · rw [if_pos h0]; omega
  · rw [if_neg h0]
    by_cases h1 : i = 1
    · rw [if_pos h1]; omega
    · rw [if_neg h1]
      by_cases h2 : i = 2
      · rw [if_pos h2]; omega
      · rw [if_neg h2]
        have := nba_lt hL (8 * (i - 3)) 8
        unfold pk8
        omega

theorem fr0_all (n o k N q : Nat) (L : Nat → Int) : [Value.int .u8 70, .int .u8 ((n - 1 : Nat) : Int), .int .u8 ((32 * o + k : Nat) : Int)] ++ bls (pk8 N L) q = bls (fr0 n o k N L) (3 + q) := by
  apply List.ext_getElem?
  intro i
  by_cases h3 : i < 3
  · rw [List.getElem?_append_left (by simpa using h3), bls_get (by omega)]
    match i, h3 with
    | 0, _ => rfl
    | 1, _ => rfl
    | 2, _ => rfl
  · rw [List.getElem?_append_right (by simp; omega)]
    by_cases h : i < 3 + q
    · rw [bls_get h, bls_get (by simp; omega)]
      have e : fr0 n o k N L i = pk8 N L (i - 3) := by unfold fr0; rw [if_neg (by omega), if_neg (by omega), if_neg (by omega)]
      rw [e]
      rfl
    · rw [List.getElem?_eq_none (by rw [bls_length]; simp; omega), List.getElem?_eq_none (by rw [bls_length]; omega)]

theorem frm_all (M : Nat) (f : Nat → Int) : bls f M ++ [.int .u8 ((crc f M / 256 : Nat) : Int), .int .u8 ((crc f M % 256 : Nat) : Int)] = bls (frm M f) (M + 2) := by
  rw [show M + 2 = (M + 1) + 1 from rfl, bls_snoc, bls_snoc]
  have e0 : bls (frm M f) M = bls f M := bls_congr fun t ht => by unfold frm; rw [if_pos ht]
  have e1 : frm M f M = ((crc f M / 256 : Nat) : Int) := by unfold frm; rw [if_neg (by omega), if_pos rfl]
  have e2 : frm M f (M + 1) = ((crc f M % 256 : Nat) : Int) := by unfold frm; rw [if_neg (by omega), if_neg (by omega)]
  rw [e0, e1, e2, List.append_assoc]
  rfl

theorem three_own (w : World) (x y z : Int) : (w.alloc (.cells #[.int .u8 x, .int .u8 y, .int .u8 z] 5)).ownsRow w.heap.size 5 1 (.slice (some ⟨w.heap.size, 0, none⟩) 3 3) 3 [.int .u8 x, .int .u8 y, .int .u8 z] :=
  World.ownsRow_lit (base := w.heap.size) (e := 5) (size := 1) w #[.int .u8 x, .int .u8 y, .int .u8 z] 3 (Nat.le_refl _) (by decide) rfl

theorem twob_new (w : World) (x y : Value) (t : TypeId) : ∀ j u, [x, y][j]? = some u → (w.alloc (.cells #[x, y] t)).cell? ((⟨w.heap.size, 0, none⟩ : Addr).add j) = some u := by
  intro j u h
  match j, h with
  | 0, h => simp at h; subst h; simp [Addr.add]
  | 1, h => simp at h; subst h; simp [Addr.add]
  | j + 2, h => simp at h
end Go.Proofs.YtndagpompioooaaDoor
