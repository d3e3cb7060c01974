/- KR ZA ZC ZB ZD ZE ZF ZG AA ZP AB AC AD KX ZL ZM ZQ. -/
import Derived.Test.YtndagpompioooaaDoorRD
import Derived.Test.YtndagpompioooaaDoorRB
import Derived.Test.YtndagpompioooaaDoorUA
import Derived.Test.YtndagpompioooaaDoorM4
import Derived.Test.YtndagpompioooaaDoorPL
import Derived.Test.YtndagpompioooaaDoorAP
import Derived.Test.YtndagpompioooaaDoorMK
import Derived.Test.YtndagpompioooaaDoorRW
import Derived.Test.YtndagpompioooaaDoorD4
import Derived.BigQuiet
namespace Go.Proofs.YtndagpompioooaaDoor
open Go.RowKit

theorem ric_mem9 {k : Nat} {xs : Nat → Int} (i : Nat) : ∀ x ∈ ric k xs i, Bit x := by
  induction i with
  | zero => intro x hx; cases hx
  | succ i ih =>
    intro x hx
    have hx2 : x ∈ ((ric k xs i ++ List.replicate (zig (xs i) / 2 ^ k) 1) ++ [0]) ++ low (zig (xs i)) k k := hx
    rcases List.mem_append.1 hx2 with h | h
    · rcases List.mem_append.1 h with h | h
      · rcases List.mem_append.1 h with h | h
        · exact ih x h
        · exact .inr (List.eq_of_mem_replicate h)
      · exact .inl (List.mem_singleton.1 h)
    · unfold low at h
      obtain ⟨j, _, rfl⟩ := List.mem_map.1 h
      show _ = _ ∨ _ = _
      omega

theorem ric_more (k : Nat) (xs : Nat → Int) (j d : Nat) : ∃ S, ric k xs (j + d) = ric k xs j ++ S := by
  induction d with
  | zero => exact ⟨[], (List.append_nil _).symm⟩
  | succ d ih =>
    obtain ⟨S, hS⟩ := ih
    refine ⟨((S ++ List.replicate (zig (xs (j + d)) / 2 ^ k) 1) ++ [0]) ++ low (zig (xs (j + d))) k k, ?_⟩
    show ((ric k xs (j + d) ++ List.replicate (zig (xs (j + d)) / 2 ^ k) 1) ++ [0]) ++ low (zig (xs (j + d))) k k = _
    rw [hS, List.append_assoc, List.append_assoc, List.append_assoc, List.append_assoc, List.append_assoc]

/-- Where the bits of the number j stand. -/
theorem ric_at {k n j : Nat} {xs : Nat → Int} (T : List Int) (hj : j < n) {i : Nat} (hi : i < zig (xs j) / 2 ^ k + 1 + k) :
    lf (ric k xs n ++ T) (rbt k xs j + i) = lf ((List.replicate (zig (xs j) / 2 ^ k) 1 ++ [0]) ++ low (zig (xs j)) k k) i := by
  obtain ⟨S, hS⟩ := ric_more k xs (j + 1) (n - (j + 1))
  rw [show j + 1 + (n - (j + 1)) = n by omega] at hS
  have e : ric k xs n ++ T = ric k xs j ++ (((List.replicate (zig (xs j) / 2 ^ k) 1 ++ [0]) ++ low (zig (xs j)) k k) ++ (S ++ T)) := by
    rw [hS]
    show (((ric k xs j ++ List.replicate (zig (xs j) / 2 ^ k) 1) ++ [0]) ++ low (zig (xs j)) k k) ++ S ++ T = _
    simp only [List.append_assoc]
  have hl : ((List.replicate (zig (xs j) / 2 ^ k) (1 : Int) ++ [0]) ++ low (zig (xs j)) k k).length = zig (xs j) / 2 ^ k + 1 + k := by
    rw [List.length_append, List.length_append, List.length_replicate, List.length_singleton, low_len]
  rw [e, lf_right (by rw [ric_len]; omega), ric_len, show rbt k xs j + i - rbt k xs j = i by omega, lf_left (by rw [hl]; exact hi)]

theorem word_one {q u k i : Nat} (h : i < q) : lf ((List.replicate q (1 : Int) ++ [0]) ++ low u k k) i = 1 := by
  rw [lf_left (by rw [List.length_append, List.length_replicate]; omega), lf_left (by rw [List.length_replicate]; exact h)]
  unfold lf
  rw [List.getD_eq_getElem?_getD, List.getElem?_replicate, if_pos h]
  rfl
theorem word_nought {q u k : Nat} : lf ((List.replicate q (1 : Int) ++ [0]) ++ low u k k) q = 0 := by
  rw [lf_left (by rw [List.length_append, List.length_replicate, List.length_singleton]; omega), lf_right (by rw [List.length_replicate]; exact Nat.le_refl _), List.length_replicate, Nat.sub_self]
  rfl
theorem word_low {q u k i : Nat} (h : i < k) : lf ((List.replicate q (1 : Int) ++ [0]) ++ low u k k) (q + 1 + i) = (((u / 2 ^ (k - 1 - i)) % 2 : Nat) : Int) := by
  rw [lf_right (by rw [List.length_append, List.length_replicate, List.length_singleton]; omega), List.length_append, List.length_replicate, List.length_singleton, show q + 1 + i - (q + 1) = i by omega]
  unfold lf low
  rw [List.getD_eq_getElem?_getD, List.getElem?_map, List.getElem?_range h]
  rfl

theorem bv_low {b : Nat → Int} {f u k : Nat} (c : Nat) (hc : c ≤ k) (h : ∀ i, i < c → b (f + i) = (((u / 2 ^ (k - 1 - i)) % 2 : Nat) : Int)) : bv b f c = (u / 2 ^ (k - c)) % 2 ^ c := by
  induction c with
  | zero => rw [Nat.pow_zero, Nat.mod_one]; rfl
  | succ c ih =>
    rw [bv, ih (by omega) (fun i hi => h i (by omega)), h c (by omega), Int.toNat_natCast, show k - 1 - c = k - (c + 1) by omega]
    have e2 : 2 ^ (k - c) = 2 ^ (k - (c + 1)) * 2 := by rw [show k - c = k - (c + 1) + 1 by omega, Nat.pow_succ]
    have e : u / 2 ^ (k - c) = u / 2 ^ (k - (c + 1)) / 2 := by rw [Nat.div_div_eq_div_mul, e2]
    rw [e]
    generalize u / 2 ^ (k - (c + 1)) = v
    rw [Nat.pow_succ, Nat.mul_comm (2 ^ c) 2, Nat.mod_mul]
    omega

theorem unf_zig (x : Int) : unf (zig x) = x := by
  unfold unf
  by_cases h : x < 0
  · have := zig_neg h
    rw [if_pos (by omega)]
    omega
  · have := zig_pos h
    rw [if_neg (by omega)]
    omega

/-- The numbers come back from their bits, whatever stands behind these. -/
theorem ric_back {k n : Nat} {xs : Nat → Int} (T : List Int) (hk : k ≤ 30) (h : Wth 1000000000 n xs) (j : Nat) (hj : j ≤ n) :
    rdn (lf (ric k xs n ++ T)) (rbt k xs n + T.length) k j = some ((List.range j).map xs, rbt k xs j) := by
  induction j with
  | zero => rfl
  | succ j ih =>
    have hu := zig_le (h j (by omega))
    have hm := rbt_mono k xs (show j + 1 ≤ n from hj)
    have hs : rbt k xs (j + 1) = rbt k xs j + (zig (xs j) / 2 ^ k + 1 + k) := rfl
    have one : ∀ i, i < zig (xs j) / 2 ^ k → lf (ric k xs n ++ T) (rbt k xs j + i) = 1 := fun i hi => by rw [ric_at T (by omega) (by omega)]; exact word_one hi
    have zer : lf (ric k xs n ++ T) (rbt k xs j + zig (xs j) / 2 ^ k) = 0 := by rw [ric_at T (by omega) (by omega)]; exact word_nought
    have lo : ∀ i, i < k → lf (ric k xs n ++ T) (rbt k xs j + zig (xs j) / 2 ^ k + 1 + i) = (((zig (xs j) / 2 ^ (k - 1 - i)) % 2 : Nat) : Int) := fun i hi => by
      rw [show rbt k xs j + zig (xs j) / 2 ^ k + 1 + i = rbt k xs j + (zig (xs j) / 2 ^ k + 1 + i) by omega, ric_at T (by omega) (by omega)]
      exact word_low hi
    have hr := run1_eq (b := lf (ric k xs n ++ T)) (n := rbt k xs n + T.length) (a := rbt k xs j) (q := zig (xs j) / 2 ^ k) (by omega) one (.inr (by rw [zer]; decide))
    have hv := bv_low (b := lf (ric k xs n ++ T)) (f := rbt k xs j + zig (xs j) / 2 ^ k + 1) k (Nat.le_refl _) lo
    rw [Nat.sub_self, Nat.pow_zero, Nat.div_one] at hv
    have hd : zig (xs j) / 2 ^ k * 2 ^ k + zig (xs j) % 2 ^ k = zig (xs j) := by rw [Nat.mul_comm]; exact Nat.div_add_mod _ _
    have h1 := rd1_yes (k := k) hr (by omega) zer (by omega) (by omega) (fun i hi => by rw [lo i hi]; show _ = _ ∨ _ = _; omega) (by rw [hv, hd]; exact hu)
    rw [hv, hd] at h1
    have h2 := rdn_next (ih (by omega)) h1
    rw [h2, unf_zig, List.range_succ, List.map_append, hs]
    congr 2
    omega

theorem ric_all {k n : Nat} {xs : Nat → Int} {T : List Int} (hT : ∀ x ∈ T, Bit x) {N : Nat} (hN : N = rbt k xs n + T.length) : ∀ i, i < N → Bit (lf (ric k xs n ++ T) i) := by
  intro i hi
  have hl : (ric k xs n ++ T).length = N := by rw [List.length_append, ric_len, hN]
  have hm : lf (ric k xs n ++ T) i ∈ ric k xs n ++ T := by
    unfold lf
    rw [List.getD_eq_getElem?_getD, List.getElem?_eq_getElem (by omega)]
    exact List.getElem_mem _
  rcases List.mem_append.1 hm with h | h
  · exact ric_mem9 n _ h
  · exact hT _ h

/-- No k has fewer bits than the best. -/
theorem bst_least {n : Nat} {xs : Nat → Int} (K : Nat) : ∀ k, k < K → rbt k xs n ≤ 100000 → 0 ≤ (bst n xs K).1 ∧ (bst n xs K).2 ≤ rbt k xs n := by
  induction K with
  | zero => intro k hk; omega
  | succ K ih =>
    intro k hk hb
    by_cases hy : rbt K xs n ≤ 100000 ∧ ((bst n xs K).1 < 0 ∨ rbt K xs n < (bst n xs K).2)
    · rw [bst_yes hy.1 hy.2]
      refine ⟨by show 0 ≤ (K : Int); omega, ?_⟩
      show rbt K xs n ≤ rbt k xs n
      by_cases e : k = K
      · rw [e]; exact Nat.le_refl _
      · have h1 := ih k (by omega) hb
        rcases hy.2 with h2 | h2
        · omega
        · omega
    · rw [bst_no hy]
      by_cases e : k = K
      · subst e
        have h3 : ¬ ((bst n xs k).1 < 0 ∨ rbt k xs n < (bst n xs k).2) := fun h4 => hy ⟨hb, h4⟩
        exact ⟨by omega, by omega⟩
      · exact ih k (by omega) hb

theorem brv_least {n k : Nat} {xs : Nat → Int} (hr : Rc n xs) (hk : k ≤ 30) (hb : rbt k xs n ≤ 100000) : (brv n xs).2 ≤ rbt k xs n := by
  unfold brv
  rw [if_pos hr]
  exact (bst_least 31 k (by omega) hb).2
end Go.Proofs.YtndagpompioooaaDoor

namespace Go.Proofs.YtndagpompioooaaDoor
open Go.RowKit

/-- Whether a block has a frame, how many bytes it has, and which. -/
def fok (n : Nat) (xs : Nat → Int) : Bool := decide ((1 ≤ n ∧ n ≤ 128) ∧ Sig n xs ∧ 0 ≤ (shp n xs (min n 4)).1)
def fN (n : Nat) (xs : Nat → Int) : Nat := if fok n xs = true then 3 + ((shp n xs (min n 4)).2.2 + 7) / 8 + 2 else 0
def fY (n : Nat) (xs : Nat → Int) : Nat → Int := if fok n xs = true then frm (3 + ((shp n xs (min n 4)).2.2 + 7) / 8) (fr0 n (shp n xs (min n 4)).1.toNat (shp n xs (min n 4)).2.1.toNat (shp n xs (min n 4)).2.2 (lf (ric (shp n xs (min n 4)).2.1.toNat (gus (shp n xs (min n 4)).1.toNat xs) n))) else fun _ => 0

theorem frame_told {n : Nat} {xs : Nat → Int} (hn : n ≤ 1048576) : fN n xs ≤ 12600 ∧ (∀ W u, Il W u n xs → Calls Tryd.prog 26 #[u] W fun e w' => Psb W w' e (fN n xs) (fY n xs) (fok n xs)) ∧ ∀ W u, Il W u n xs → Calls Tryd.prog 20 #[u] W fun e w' => Psb W w' e (fN n xs) (fY n xs) (fok n xs) := by
  have no : ∀ (_ : ¬ ((1 ≤ n ∧ n ≤ 128) ∧ Sig n xs ∧ 0 ≤ (shp n xs (min n 4)).1)), fok n xs = false ∧ fN n xs = 0 := fun h => by
    have e : fok n xs = false := decide_eq_false h
    exact ⟨e, by unfold fN; rw [e]; rfl⟩
  by_cases h1 : 1 ≤ n ∧ n ≤ 128
  · by_cases h2 : Sig n xs
    · rcases shp_told (n := n) (xs := xs) (min n 4) with hs | ⟨a, k, C, hs, _, _, hC, _⟩
      · obtain ⟨e1, e2⟩ := no (fun h => by have := h.2.2; rw [hs] at this; exact absurd this (by show ¬ (0 : Int) ≤ -1; omega))
        rw [e1, e2]
        refine ⟨by omega, fun W u hu => sFrame_none hu h1 h2 rfl hs _, fun W u hu => iFrame_none hu h1 ?_ _⟩
        refine (shape_good hu h2 h1.2 rfl).mono ?_
        rintro e w' (⟨_, rfl, hb⟩ | ⟨a, k, C, u, e1, _⟩)
        · exact ⟨rfl, hb⟩
        · rw [hs] at e1
          injection e1 with e1 _
          omega
      · have e : fok n xs = true := decide_eq_true ⟨h1, h2, by rw [hs]; show 0 ≤ (a : Int); omega⟩
        have e2 : fN n xs = 3 + (C + 7) / 8 + 2 := by unfold fN; rw [if_pos e, hs]
        have e3 : fY n xs = frm (3 + (C + 7) / 8) (fr0 n a k C (lf (ric k (gus a xs) n))) := by unfold fY; rw [if_pos e, hs]; rfl
        rw [e, e2, e3]
        exact ⟨by omega, fun W u hu => sFrame_good hu h1 h2 rfl hs rfl, fun W u hu => iFrame_good hu h1 h2 rfl hs rfl⟩
    · obtain ⟨e1, e2⟩ := no (fun h => h2 h.2.1)
      rw [e1, e2]
      exact ⟨by omega, fun W u hu => sFrame_bad hu hn (fun h => h2 h.2) _, fun W u hu => iFrame_none hu h1 (shape_bad hu h2 h1.2 rfl) _⟩
  · obtain ⟨e1, e2⟩ := no (fun h => h1 h.1)
    rw [e1, e2]
    exact ⟨by omega, fun W u hu => sFrame_bad hu hn (fun h => h1 (by omega)) _, fun W u hu => iFrame_size hu h1 _⟩


theorem gus_congr {o n : Nat} {xs ys : Nat → Int} (h : ∀ j, j < n → xs j = ys j) : ∀ j, j < n → gus o xs j = gus o ys j := fun j hj => by
  unfold gus
  rw [h j hj, fore_congr (fun i hi => h i (by omega))]
theorem ugf_congr {o n : Nat} {xs ys : Nat → Int} (h : ∀ j, j < n → xs j = ys j) : ∀ j, j < n → ugf o xs j = ugf o ys j := by
  intro j
  induction j using Nat.strongRecOn with
  | ind j ih =>
    intro hj
    rw [ugf_eq, ugf_eq, h j hj, fore_congr (fun i hi => ih i hi (by omega))]
theorem rbt_congr {k n : Nat} {xs ys : Nat → Int} (h : ∀ j, j < n → xs j = ys j) : ∀ i, i ≤ n → rbt k xs i = rbt k ys i := by
  intro i
  induction i with
  | zero => intro _; rfl
  | succ i ih => intro hi; rw [rbt, rbt, ih (by omega), h i (by omega)]
theorem ric_congr {k n : Nat} {xs ys : Nat → Int} (h : ∀ j, j < n → xs j = ys j) : ∀ i, i ≤ n → ric k xs i = ric k ys i := by
  intro i
  induction i with
  | zero => intro _; rfl
  | succ i ih => intro hi; rw [ric, ric, ih (by omega), h i (by omega)]
theorem bst_congr {n : Nat} {xs ys : Nat → Int} (h : ∀ j, j < n → xs j = ys j) (K : Nat) : bst n xs K = bst n ys K := by
  induction K with
  | zero => rfl
  | succ K ih => rw [bst, bst, ih, rbt_congr h n (Nat.le_refl _)]
theorem brv_congr {n : Nat} {xs ys : Nat → Int} (h : ∀ j, j < n → xs j = ys j) : brv n xs = brv n ys := by
  unfold brv
  by_cases c : Rc n xs
  · have c2 : Rc n ys := ⟨c.1, fun k hk => by rw [← h k hk]; exact c.2 k hk⟩
    rw [if_pos c, if_pos c2, bst_congr h]
  · have c2 : ¬ Rc n ys := fun c2 => c ⟨c2.1, fun k hk => by rw [h k hk]; exact c2.2 k hk⟩
    rw [if_neg c, if_neg c2]
theorem shp_congr {n : Nat} {xs ys : Nat → Int} (h : ∀ j, j < n → xs j = ys j) (q : Nat) : shp n xs q = shp n ys q := by
  induction q with
  | zero => rfl
  | succ q ih => rw [shp, shp, ih, brv_congr (gus_congr (o := q) h)]
theorem fok_congr {n : Nat} {xs ys : Nat → Int} (h : ∀ j, j < n → xs j = ys j) : fok n xs = fok n ys := by
  unfold fok
  rw [shp_congr h]
  refine decide_eq_decide.2 ⟨fun c => ⟨c.1, ⟨c.2.1.1, fun k hk => by rw [← h k hk]; exact c.2.1.2 k hk⟩, c.2.2⟩, fun c => ⟨c.1, ⟨c.2.1.1, fun k hk => by rw [h k hk]; exact c.2.1.2 k hk⟩, c.2.2⟩⟩
theorem fN_congr {n : Nat} {xs ys : Nat → Int} (h : ∀ j, j < n → xs j = ys j) : fN n xs = fN n ys := by
  unfold fN
  rw [shp_congr h, fok_congr h]
theorem fY_congr {n : Nat} {xs ys : Nat → Int} (h : ∀ j, j < n → xs j = ys j) : fY n xs = fY n ys := by
  unfold fY
  rw [shp_congr h, fok_congr h, ric_congr (gus_congr (o := (shp n ys (min n 4)).1.toNat) h) n (Nat.le_refl _)]

/-- A frame's parts. -/
theorem fok_told {n : Nat} {xs : Nat → Int} (h : fok n xs = true) : (1 ≤ n ∧ n ≤ 128) ∧ Sig n xs ∧ ∃ o k C, o ≤ 3 ∧ k ≤ 30 ∧ C ≤ 100000 ∧ C = rbt k (gus o xs) n ∧ Rc n (gus o xs) ∧ fN n xs = 3 + (C + 7) / 8 + 2 ∧ fY n xs = frm (3 + (C + 7) / 8) (fr0 n o k C (lf (ric k (gus o xs) n))) := by
  obtain ⟨h1, h2, h3⟩ := of_decide_eq_true h
  rcases shp_told (n := n) (xs := xs) (min n 4) with hs | ⟨a, k, C, hs, ha, hk, hC, hCr, hR⟩
  · rw [hs] at h3; exact absurd h3 (by show ¬ (0 : Int) ≤ -1; omega)
  · refine ⟨h1, h2, a, k, C, by omega, hk, hC, hCr, hR, ?_, ?_⟩
    · unfold fN; rw [if_pos h, hs]
    · unfold fY; rw [if_pos h, hs]; rfl
theorem fok_not {n : Nat} {xs : Nat → Int} (h : fok n xs = false) : fN n xs = 0 := by
  unfold fN; rw [h]; rfl
theorem fY_byt (n : Nat) (xs : Nat → Int) : Byt (fN n xs) (fY n xs) := by
  cases h : fok n xs with
  | false => rw [fok_not h]; intro i hi; omega
  | true =>
    obtain ⟨h1, _, o, k, C, ho, hk, hC, hCr, _, e1, e2⟩ := fok_told h
    rw [e1, e2]
    exact frm_byt (fr0_byt h1.2 ho hk (ric_bit hCr))

theorem bv_congr {b b' : Nat → Int} {f : Nat} (c : Nat) (h : ∀ i, i < c → b (f + i) = b' (f + i)) : bv b f c = bv b' f c := by
  induction c with
  | zero => rfl
  | succ c ih => rw [bv, bv, ih (fun i hi => h i (by omega)), h c (by omega)]
theorem rd1_more {b b' : Nat → Int} {n n' k a u a' : Nat} (hb : ∀ i, i < n → b i = b' i) (hn : n ≤ n') (h : rd1 b n k a = some (u, a')) : rd1 b' n' k a = some (u, a') := by
  have h0 := h
  unfold rd1 at h
  split at h
  · rename_i h1
    obtain ⟨h1, h2, h3, h4, h5, h6⟩ := h1
    obtain ⟨q, hq⟩ : ∃ q, q = run1 b n a := ⟨_, rfl⟩
    rw [← hq] at h1 h2 h3 h4 h5 h6 h
    have hr : run1 b' n' a = q := run1_eq (by omega) (fun j hj => by rw [← hb _ (by omega)]; exact run1_ones b n a j (by omega)) (.inr (by rw [← hb _ (by omega), h2]; decide))
    have hv : bv b (a + q + 1) k = bv b' (a + q + 1) k := bv_congr k (fun i hi => hb _ (by omega))
    rw [hv] at h6 h
    rw [rd1_yes hr (by omega) (by rw [← hb _ (by omega)]; exact h2) h3 (by omega) (fun j hj => by rw [← hb _ (by omega)]; exact h5 j hj) h6]
    exact h
  · cases h
theorem rdn_more {b b' : Nat → Int} {n n' k : Nat} (hb : ∀ i, i < n → b i = b' i) (hn : n ≤ n') (m : Nat) : ∀ z, rdn b n k m = some z → rdn b' n' k m = some z := by
  induction m with
  | zero => intro z h; exact h
  | succ m ih =>
    intro z h
    rw [rdn] at h
    cases e : rdn b n k m with
    | none => rw [e] at h; cases h
    | some y =>
      obtain ⟨L, a⟩ := y
      rw [e] at h
      have h : (match rd1 b n k a with | none => none | some (u, a') => some (L ++ [unf u], a')) = some z := h
      cases e2 : rd1 b n k a with
      | none => rw [e2] at h; cases h
      | some x =>
        obtain ⟨u, a'⟩ := x
        rw [e2] at h
        rw [rdn_next (ih _ e) (rd1_more hb hn e2)]
        exact h

theorem crc_congr {xs ys : Nat → Int} (n : Nat) (h : ∀ i, i < n → xs i = ys i) : crc xs n = crc ys n := by
  induction n with
  | zero => rfl
  | succ n ih => rw [crc_succ, crc_succ, ih (fun i hi => h i (by omega)), h n (by omega)]

theorem nba_bit {n : Nat} {xs : Nat → Int} (h : ∀ k, k < n → Bit (xs k)) (f c j : Nat) (hj : j < c) : nba n xs f c / 2 ^ (c - 1 - j) % 2 = if f + j < n then nb xs (f + j) else 0 := by
  induction c with
  | zero => omega
  | succ c ih =>
    have hb : (if f + c < n then nb xs (f + c) else 0) ≤ 1 := by
      split
      · exact nb_le h (by assumption)
      · omega
    rw [nba]
    by_cases h1 : j = c
    · subst h1
      rw [show j + 1 - 1 - j = 0 by omega, Nat.pow_zero, Nat.div_one]
      omega
    · rw [show c + 1 - 1 - j = (c - 1 - j) + 1 by omega, Nat.pow_succ, Nat.mul_comm (2 ^ (c - 1 - j)) 2, ← Nat.div_div_eq_div_mul]
      rw [show (nba n xs f c * 2 + (if f + c < n then nb xs (f + c) else 0)) / 2 = nba n xs f c by omega]
      exact ih (by omega)

theorem ubv_pk {n : Nat} {xs : Nat → Int} (h : ∀ k, k < n → Bit (xs k)) (i : Nat) : ubv (pk8 n xs) i = if i < n then xs i else 0 := by
  unfold ubv pk8
  have h1 := nba_bit h (8 * (i / 8)) 8 (i % 8) (by omega)
  rw [show 8 * (i / 8) + i % 8 = i by omega, show 8 - 1 - i % 8 = 7 - i % 8 by omega] at h1
  have h2 : (((nba n xs (8 * (i / 8)) 8 : Nat) : Int) / 2 ^ (7 - i % 8)) % 2 = ((nba n xs (8 * (i / 8)) 8 / 2 ^ (7 - i % 8) % 2 : Nat) : Int) := by
    rw [Int.natCast_emod, Int.natCast_ediv, Int.natCast_pow]; rfl
  rw [h2, h1]
  by_cases h3 : i < n
  · rw [if_pos h3, if_pos h3]; exact (nb_eq h h3).symm
  · rw [if_neg h3, if_neg h3]; rfl

/-- What opening at a place tells: the head, the numbers, the end. -/
abbrev opH (y : Nat → Int) (a : Nat) : Prop := (y a).toNat = 70 ∧ (y (a + 1)).toNat + 1 ≤ 128 ∧ (y (a + 2)).toNat % 32 ≤ 30 ∧ (y (a + 2)).toNat / 32 ≤ 3
def opr (n : Nat) (y : Nat → Int) (a : Nat) : Option (List Int × Nat) := rdn (bob (fun i => y (a + 3 + i))) (8 * (n - (a + 3))) ((y (a + 2)).toNat % 32) ((y (a + 1)).toNat + 1)
def ope (a : Nat) (z : List Int × Nat) : Nat := a + 3 + (z.2 + 7) / 8
abbrev opA (y : Nat → Int) (a o : Nat) (R : List Int) (en : Nat) : Prop := Wth 10000000000 R.length (lf R) ∧ (∀ k, k < R.length → Smp (ugf o (lf R) k)) ∧ fN R.length (ugf o (lf R)) = en + 2 - a ∧ ∀ k, k < en + 2 - a → fY R.length (ugf o (lf R)) k = y (a + k)
abbrev opC (y : Nat → Int) (a : Nat) (z : List Int × Nat) : Prop := crv (ope a z - a) (fun i => y (a + i)) = ((y (ope a z)).toNat : Int) * 256 + ((y (ope a z + 1)).toNat : Int)
/-- How many samples, which, the place behind, the code. -/
def opn (n : Nat) (y : Nat → Int) (a : Nat) : Nat × (Nat → Int) × Nat × Nat :=
  if a + 3 ≤ n then
    if opH y a then
      match opr n y a with
      | none => (0, fun _ => 0, a, 3)
      | some z =>
        if ope a z + 2 ≤ n then
          if opC y a z then
            if opA y a ((y (a + 2)).toNat / 32) z.1 (ope a z) then (z.1.length, ugf ((y (a + 2)).toNat / 32) (lf z.1), ope a z + 2, 0) else (0, fun _ => 0, a, 5)
          else (0, fun _ => 0, a, 4)
        else (0, fun _ => 0, a, 1)
    else (0, fun _ => 0, a, 2)
  else (0, fun _ => 0, a, 1)

theorem opn_some {n a : Nat} {y : Nat → Int} {z : List Int × Nat} (h1 : a + 3 ≤ n) (h2 : opH y a) (h3 : opr n y a = some z) : opn n y a = if ope a z + 2 ≤ n then if opC y a z then if opA y a ((y (a + 2)).toNat / 32) z.1 (ope a z) then (z.1.length, ugf ((y (a + 2)).toNat / 32) (lf z.1), ope a z + 2, 0) else (0, fun _ => 0, a, 5) else (0, fun _ => 0, a, 4) else (0, fun _ => 0, a, 1) := by
  unfold opn
  rw [if_pos h1, if_pos h2, h3]
theorem opn_none {n a : Nat} {y : Nat → Int} (h1 : a + 3 ≤ n) (h2 : opH y a) (h3 : opr n y a = none) : opn n y a = (0, fun _ => 0, a, 3) := by
  unfold opn
  rw [if_pos h1, if_pos h2, h3]

theorem opn_ok {n a : Nat} {y : Nat → Int} (h : (opn n y a).2.2.2 = 0) : ∃ z, a + 3 ≤ n ∧ opH y a ∧ opr n y a = some z ∧ ope a z + 2 ≤ n ∧ opC y a z ∧ opA y a ((y (a + 2)).toNat / 32) z.1 (ope a z) ∧ opn n y a = (z.1.length, ugf ((y (a + 2)).toNat / 32) (lf z.1), ope a z + 2, 0) := by
  by_cases h1 : a + 3 ≤ n
  · by_cases h2 : opH y a
    · cases h3 : opr n y a with
      | none => rw [opn_none h1 h2 h3] at h; cases h
      | some z =>
        have e := opn_some h1 h2 h3
        by_cases h4 : ope a z + 2 ≤ n
        · rw [if_pos h4] at e
          by_cases h5 : opC y a z
          · rw [if_pos h5] at e
            by_cases h6 : opA y a ((y (a + 2)).toNat / 32) z.1 (ope a z)
            · rw [if_pos h6] at e; exact ⟨z, h1, h2, rfl, h4, h5, h6, e⟩
            · rw [if_neg h6] at e; rw [e] at h; cases h
          · rw [if_neg h5] at e; rw [e] at h; cases h
        · rw [if_neg h4] at e; rw [e] at h; cases h
    · have e : opn n y a = (0, fun _ => 0, a, 2) := by unfold opn; rw [if_pos h1, if_neg h2]
      rw [e] at h; cases h
  · have e : opn n y a = (0, fun _ => 0, a, 1) := by unfold opn; rw [if_neg h1]
    rw [e] at h; cases h

theorem opn_no {n a : Nat} {y : Nat → Int} (h : (opn n y a).2.2.2 ≠ 0) : (opn n y a).1 = 0 ∧ (opn n y a).2.2.1 = a ∧ (opn n y a).2.2.2 ≤ 5 := by
  by_cases h1 : a + 3 ≤ n
  · by_cases h2 : opH y a
    · cases h3 : opr n y a with
      | none => rw [opn_none h1 h2 h3]; exact ⟨rfl, rfl, by show 3 ≤ 5; omega⟩
      | some z =>
        have e := opn_some h1 h2 h3
        by_cases h4 : ope a z + 2 ≤ n
        · rw [if_pos h4] at e
          by_cases h5 : opC y a z
          · rw [if_pos h5] at e
            by_cases h6 : opA y a ((y (a + 2)).toNat / 32) z.1 (ope a z)
            · rw [if_pos h6] at e; rw [e] at h; exact absurd rfl h
            · rw [if_neg h6] at e; rw [e]; exact ⟨rfl, rfl, Nat.le_refl _⟩
          · rw [if_neg h5] at e; rw [e]; exact ⟨rfl, rfl, by show 4 ≤ 5; omega⟩
        · rw [if_neg h4] at e; rw [e]; exact ⟨rfl, rfl, by show 1 ≤ 5; omega⟩
    · have e : opn n y a = (0, fun _ => 0, a, 2) := by unfold opn; rw [if_pos h1, if_neg h2]
      rw [e]; exact ⟨rfl, rfl, by show 2 ≤ 5; omega⟩
  · have e : opn n y a = (0, fun _ => 0, a, 1) := by unfold opn; rw [if_neg h1]
    rw [e]; exact ⟨rfl, rfl, by show 1 ≤ 5; omega⟩

/-- A frame that is taken: how long it is. -/
theorem opn_yes {n a : Nat} {y : Nat → Int} (h : (opn n y a).2.2.2 = 0) : a + 5 ≤ (opn n y a).2.2.1 ∧ (opn n y a).2.2.1 ≤ n ∧ (opn n y a).1 = (y (a + 1)).toNat + 1 ∧ (opn n y a).1 ≤ 128 := by
  obtain ⟨z, h1, h2, h3, h4, _, _, e⟩ := opn_ok h
  rw [e]
  have hl := (rdn_told _ h3).1
  refine ⟨?_, h4, hl, ?_⟩
  · show a + 5 ≤ ope a z + 2
    unfold ope
    omega
  · show z.1.length ≤ 128
    rw [hl]
    exact h2.2.1

/-- A frame comes back. -/
theorem opn_back {n a m : Nat} {y xs : Nat → Int} (hf : fok m xs = true) (ha : a + fN m xs ≤ n) (hb : ∀ k, k < fN m xs → y (a + k) = fY m xs k) :
    (opn n y a).2.2.2 = 0 ∧ (opn n y a).1 = m ∧ (∀ k, k < m → (opn n y a).2.1 k = xs k) ∧ (opn n y a).2.2.1 = a + fN m xs := by
  obtain ⟨hm, hS, o, k, C, ho, hk, hC, hCr, hR, eN, eY⟩ := fok_told hf
  have hb0 : ∀ i, i < 3 + (C + 7) / 8 → y (a + i) = fr0 m o k C (lf (ric k (gus o xs) m)) i := fun i hi => by
    rw [hb i (by omega), eY]
    unfold frm
    rw [if_pos hi]
  have y0 : y a = 70 := hb0 0 (by omega)
  have y1 : y (a + 1) = ((m - 1 : Nat) : Int) := hb0 1 (by omega)
  have y2 : y (a + 2) = ((32 * o + k : Nat) : Int) := hb0 2 (by omega)
  have hH : opH y a := by
    unfold opH
    rw [y0, y1, y2]
    omega
  have eo : (y (a + 2)).toNat / 32 = o := by rw [y2]; omega
  have hL : ∀ i, i < C → Bit (lf (ric k (gus o xs) m) i) := ric_bit hCr
  have hr : opr n y a = some ((List.range m).map (gus o xs), C) := by
    unfold opr
    rw [y1, y2, show ((32 * o + k : Nat) : Int).toNat % 32 = k by omega, show ((m - 1 : Nat) : Int).toNat + 1 = m by omega]
    have h1 := ric_back (k := k) (n := m) (xs := gus o xs) [] hk hR.2 m (Nat.le_refl _)
    rw [List.append_nil, List.length_nil, Nat.add_zero, ← hCr] at h1
    refine rdn_more (fun i hi => ?_) (by omega) m _ h1
    have h2 := ubv_pk hL i
    rw [if_pos hi] at h2
    rw [← h2]
    unfold ubv bob
    have h3 := hb0 (3 + i / 8) (by omega)
    rw [← Nat.add_assoc] at h3
    show _ = y (a + 3 + i / 8) / 2 ^ (7 - i % 8) % 2
    rw [h3]
    unfold fr0
    rw [if_neg (by omega), if_neg (by omega), if_neg (by omega), show 3 + i / 8 - 3 = i / 8 by omega]
  have he : ope a ((List.range m).map (gus o xs), C) = a + (3 + (C + 7) / 8) := by unfold ope; omega
  have hcr : opC y a ((List.range m).map (gus o xs), C) := by
    unfold opC
    rw [he, show a + (3 + (C + 7) / 8) - a = 3 + (C + 7) / 8 by omega]
    have c1 := hb (3 + (C + 7) / 8) (by omega)
    have c2 := hb (3 + (C + 7) / 8 + 1) (by omega)
    rw [eY] at c1 c2
    unfold frm at c1 c2
    rw [if_neg (by omega), if_pos rfl] at c1
    rw [if_neg (by omega), if_neg (by omega)] at c2
    rw [c1, show a + (3 + (C + 7) / 8) + 1 = a + (3 + (C + 7) / 8 + 1) from Nat.add_assoc _ _ _, c2]
    unfold crv
    rw [if_neg (by omega), crc_congr (3 + (C + 7) / 8) hb0]
    omega
  have hl : ((List.range m).map (gus o xs)).length = m := by rw [List.length_map, List.length_range]
  have hlf : ∀ j, j < m → lf ((List.range m).map (gus o xs)) j = gus o xs j := fun j hj => by
    unfold lf
    rw [List.getD_eq_getElem?_getD, List.getElem?_map, List.getElem?_range hj]
    rfl
  have hug : ∀ j, j < m → ugf o (lf ((List.range m).map (gus o xs))) j = xs j := fun j hj => by
    rw [ugf_congr hlf j hj, ugf_gus]
  have hA : opA y a o ((List.range m).map (gus o xs)) (a + (3 + (C + 7) / 8)) := by
    unfold opA
    rw [hl]
    refine ⟨fun j hj => ?_, fun j hj => ?_, ?_, fun j hj => ?_⟩
    · rw [hlf j hj]
      have := gus_bounds (o := o) hS hj
      omega
    · rw [hug j hj]; exact hS.2 j hj
    · rw [fN_congr hug, eN]; omega
    · rw [fY_congr hug, hb j (by omega)]
  have e := opn_some (by omega) hH hr
  rw [if_pos (by rw [he]; omega), if_pos hcr, if_pos (by rw [eo, he]; exact hA), eo] at e
  rw [e]
  refine ⟨rfl, hl, hug, ?_⟩
  show ope a ((List.range m).map (gus o xs), C) + 2 = _
  rw [he, eN]
  omega

/-- What is taken is a frame. -/
theorem opn_is {n a : Nat} {y : Nat → Int} (h : (opn n y a).2.2.2 = 0) : fN (opn n y a).1 (opn n y a).2.1 = (opn n y a).2.2.1 - a ∧ ∀ k, k < (opn n y a).2.2.1 - a → fY (opn n y a).1 (opn n y a).2.1 k = y (a + k) := by
  obtain ⟨z, h1, h2, h3, h4, _, h6, e⟩ := opn_ok h
  rw [e]
  exact ⟨h6.2.2.1, h6.2.2.2⟩

/-- A frame that is cut is none. -/
theorem opn_cut {n a m : Nat} {y xs : Nat → Int} (hf : fok m xs = true) (ha : n < a + fN m xs) (hb : ∀ k, k < fN m xs → a + k < n → y (a + k) = fY m xs k) : (opn n y a).2.2.2 ≠ 0 := by
  intro h
  obtain ⟨z, h1, h2, h3, h4, _, _, _⟩ := opn_ok h
  -- the whole frame, told by the same bytes and those that are cut off
  have hy : ∀ i, i < n → (fun i => if i < n then y i else fY m xs (i - a)) i = y i := fun i hi => if_pos hi
  have h5 := opn_back (n := a + fN m xs) (a := a) (y := fun i => if i < n then y i else fY m xs (i - a)) hf (Nat.le_refl _) (fun k hk => by
    show (if a + k < n then y (a + k) else fY m xs (a + k - a)) = _
    by_cases c : a + k < n
    · rw [if_pos c]; exact hb k hk c
    · rw [if_neg c, show a + k - a = k by omega])
  obtain ⟨z', g1, g2, g3, g4, _, _, e'⟩ := opn_ok h5.1
  have hz : z' = z := by
    unfold opr at h3 g3
    rw [hy (a + 1) (by omega), hy (a + 2) (by omega)] at g3
    have := rdn_more (b' := bob (fun i => (fun i => if i < n then y i else fY m xs (i - a)) (a + 3 + i))) (n' := 8 * (a + fN m xs - (a + 3))) (fun i hi => by
      unfold bob
      show y (a + 3 + i / 8) / 2 ^ (7 - i % 8) % 2 = (fun i => if i < n then y i else fY m xs (i - a)) (a + 3 + i / 8) / 2 ^ (7 - i % 8) % 2
      rw [hy (a + 3 + i / 8) (by omega)]) (by omega) _ _ h3
    rw [this] at g3
    exact (Option.some.inj g3).symm
  have h6 := h5.2.2.2
  rw [e'] at h6
  have h6 : ope a z' + 2 = a + fN m xs := h6
  rw [hz] at h6
  omega
end Go.Proofs.YtndagpompioooaaDoor

namespace Go.Proofs.YtndagpompioooaaDoor
open Go.RowKit

/-- Where the t-th frame begins, and what is told ahead of it. -/
def oat (n : Nat) (y : Nat → Int) : Nat → Nat
  | 0 => 0
  | t + 1 => (opn n y (oat n y t)).2.2.1
def osm (n : Nat) (y : Nat → Int) : Nat → List Int
  | 0 => []
  | t + 1 => osm n y t ++ (List.range (opn n y (oat n y t)).1).map (opn n y (oat n y t)).2.1
def opl (n : Nat) (y : Nat → Int) : Nat → List Int
  | 0 => []
  | t + 1 => opl n y t ++ [(oat n y t : Int)]
/-- How many frames are read when t are, and the code of what ends them. -/
def otot (n : Nat) (y : Nat → Int) : Nat → Nat → Nat × Nat
  | 0, t => (t, if oat n y t < n then 5 else 0)
  | f + 1, t => if oat n y t < n then (if (opn n y (oat n y t)).2.2.2 = 0 then otot n y f (t + 1) else (t, (opn n y (oat n y t)).2.2.2)) else (t, 0)

theorem opl_len (n : Nat) (y : Nat → Int) (t : Nat) : (opl n y t).length = t := by
  induction t with
  | zero => rfl
  | succ t ih => rw [opl, List.length_append, ih]; rfl
theorem opl_at {n : Nat} {y : Nat → Int} {t i : Nat} (h : i < t) : lf (opl n y t) i = (oat n y i : Int) := by
  induction t with
  | zero => omega
  | succ t ih =>
    rw [opl]
    by_cases c : i < t
    · rw [lf_left (by rw [opl_len]; exact c)]; exact ih c
    · obtain rfl : i = t := by omega
      rw [lf_right (by rw [opl_len]; exact Nat.le_refl _), opl_len, Nat.sub_self]; rfl
theorem osm_len (n : Nat) (y : Nat → Int) (t : Nat) : (osm n y (t + 1)).length = (osm n y t).length + (opn n y (oat n y t)).1 := by
  rw [osm, List.length_append, List.length_map, List.length_range]
theorem osm_le {n : Nat} {y : Nat → Int} (t : Nat) : (osm n y t).length ≤ t * 128 := by
  induction t with
  | zero => exact Nat.le_refl _
  | succ t ih =>
    rw [osm_len]
    by_cases c : (opn n y (oat n y t)).2.2.2 = 0
    · have := (opn_yes c).2.2.2; omega
    · have := (opn_no c).1; omega
theorem osm_mono (n : Nat) (y : Nat → Int) {t u : Nat} (h : t ≤ u) : (osm n y t).length ≤ (osm n y u).length := by
  induction u with
  | zero => obtain rfl : t = 0 := by omega
            exact Nat.le_refl _
  | succ u ih =>
    by_cases c : t = u + 1
    · subst c; exact Nat.le_refl _
    · rw [osm_len]; exact Nat.le_trans (ih (by omega)) (Nat.le_add_right _ _)
theorem oat_le {n : Nat} {y : Nat → Int} (t : Nat) : oat n y t ≤ n := by
  induction t with
  | zero => exact Nat.zero_le _
  | succ t ih =>
    rw [oat]
    by_cases c : (opn n y (oat n y t)).2.2.2 = 0
    · exact (opn_yes c).2.1
    · rw [(opn_no c).2.1]; exact ih

/-- All frames that are read are whole. -/
theorem otot_told {n : Nat} {y : Nat → Int} (f : Nat) : ∀ t, (∀ i, i < t → oat n y i < n ∧ (opn n y (oat n y i)).2.2.2 = 0) → t ≤ (otot n y f t).1 ∧ (otot n y f t).1 ≤ t + f ∧ (otot n y f t).2 ≤ 5 ∧ ∀ i, i < (otot n y f t).1 → oat n y i < n ∧ (opn n y (oat n y i)).2.2.2 = 0 := by
  induction f with
  | zero =>
    intro t h
    rw [otot]
    refine ⟨Nat.le_refl _, Nat.le_refl _, ?_, h⟩
    show (if _ then 5 else 0) ≤ 5
    split <;> omega
  | succ f ih =>
    intro t h
    rw [otot]
    by_cases c : oat n y t < n
    · rw [if_pos c]
      by_cases d : (opn n y (oat n y t)).2.2.2 = 0
      · rw [if_pos d]
        have := ih (t + 1) (fun i hi => by
          by_cases e : i = t
          · subst e; exact ⟨c, d⟩
          · exact h i (by omega))
        exact ⟨by omega, by omega, this.2.2.1, this.2.2.2⟩
      · rw [if_neg d]
        exact ⟨Nat.le_refl _, by show t ≤ t + (f + 1); omega, (opn_no d).2.2, h⟩
    · rw [if_neg c]
      exact ⟨Nat.le_refl _, by show t ≤ t + (f + 1); omega, Nat.zero_le _, h⟩
def oT (n : Nat) (y : Nat → Int) : Nat := (otot n y 60 0).1
def oC (n : Nat) (y : Nat → Int) : Nat := (otot n y 60 0).2
theorem oT_told (n : Nat) (y : Nat → Int) : oT n y ≤ 60 ∧ oC n y ≤ 5 ∧ ∀ i, i < oT n y → oat n y i < n ∧ (opn n y (oat n y i)).2.2.2 = 0 := by
  have := otot_told (n := n) (y := y) 60 0 (fun i hi => absurd hi (Nat.not_lt_zero _))
  exact ⟨by unfold oT; omega, this.2.2.1, this.2.2.2⟩

theorem otot_end {n t f : Nat} {y : Nat → Int} (h : ¬ oat n y t < n) : otot n y f t = (t, 0) := by
  cases f with
  | zero => rw [otot, if_neg h]
  | succ f => rw [otot, if_neg h]
theorem otot_form {n t : Nat} {y : Nat → Int} (h : oat n y t < n) : otot n y 0 t = (t, 5) := by rw [otot, if_pos h]
theorem otot_stop {n t f : Nat} {y : Nat → Int} (h : oat n y t < n) (hc : (opn n y (oat n y t)).2.2.2 ≠ 0) : otot n y (f + 1) t = (t, (opn n y (oat n y t)).2.2.2) := by rw [otot, if_pos h, if_neg hc]
theorem otot_step {n t f : Nat} {y : Nat → Int} (h : oat n y t < n) (hc : (opn n y (oat n y t)).2.2.2 = 0) : otot n y (f + 1) t = otot n y f (t + 1) := by rw [otot, if_pos h, if_pos hc]

/-- What can be saved from a place on when k frames are told: the samples, and how many bytes are passed over. -/
def mnd (n : Nat) (y : Nat → Int) : Nat → Nat → Nat → List Int × Nat
  | 0, _, _ => ([], 0)
  | g + 1, a, k => if a < n then (if (opn n y a).2.2.2 = 0 ∧ k < 60 then ((List.range (opn n y a).1).map (opn n y a).2.1 ++ (mnd n y g (opn n y a).2.2.1 (k + 1)).1, (mnd n y g (opn n y a).2.2.1 (k + 1)).2) else ((mnd n y g (a + 1) k).1, (mnd n y g (a + 1) k).2 + 1)) else ([], 0)

theorem mnd_end {n a k : Nat} {y : Nat → Int} (h : ¬ a < n) (g : Nat) : mnd n y g a k = ([], 0) := by
  cases g with
  | zero => rfl
  | succ g => rw [mnd, if_neg h]
theorem mnd_full {n : Nat} {y : Nat → Int} {k : Nat} (hk : 60 ≤ k) (g : Nat) : ∀ a, n - a ≤ g → mnd n y g a k = ([], n - a) := by
  induction g with
  | zero => intro a h; rw [mnd, show n - a = 0 by omega]
  | succ g ih =>
    intro a h
    by_cases c : a < n
    · rw [mnd, if_pos c, if_neg (by omega), ih (a + 1) (by omega)]
      show (([] : List Int), n - (a + 1) + 1) = ([], n - a)
      rw [show n - (a + 1) + 1 = n - a by omega]
    · rw [mnd_end c, show n - a = 0 by omega]
/-- More to go on with tells the same. -/
theorem mnd_more {n : Nat} {y : Nat → Int} (g : Nat) : ∀ g' a k, n - a ≤ g → n - a ≤ g' → mnd n y g a k = mnd n y g' a k := by
  induction g with
  | zero => intro g' a k h _; rw [mnd_end (by omega), mnd_end (by omega)]
  | succ g ih =>
    intro g' a k h h'
    by_cases c : a < n
    · obtain ⟨d, rfl⟩ : ∃ d, g' = d + 1 := ⟨g' - 1, by omega⟩
      rw [mnd, mnd, if_pos c, if_pos c]
      by_cases e : (opn n y a).2.2.2 = 0 ∧ k < 60
      · have hy := opn_yes e.1
        rw [if_pos e, if_pos e, ih d _ _ (by omega) (by omega)]
      · rw [if_neg e, if_neg e, ih d _ _ (by omega) (by omega)]
    · rw [mnd_end c, mnd_end c]
theorem mnd_yes {n a k : Nat} {y : Nat → Int} (h : a < n) (hc : (opn n y a).2.2.2 = 0) (hk : k < 60) : mnd n y (n - a) a k = ((List.range (opn n y a).1).map (opn n y a).2.1 ++ (mnd n y (n - (opn n y a).2.2.1) (opn n y a).2.2.1 (k + 1)).1, (mnd n y (n - (opn n y a).2.2.1) (opn n y a).2.2.1 (k + 1)).2) := by
  have hy := opn_yes hc
  obtain ⟨d, hd⟩ : ∃ d, n - a = d + 1 := ⟨n - a - 1, by omega⟩
  rw [hd, mnd, if_pos h, if_pos ⟨hc, hk⟩, mnd_more d (n - (opn n y a).2.2.1) _ _ (by omega) (by omega)]
theorem mnd_no {n a k : Nat} {y : Nat → Int} (h : a < n) (hc : ¬ ((opn n y a).2.2.2 = 0 ∧ k < 60)) : mnd n y (n - a) a k = ((mnd n y (n - (a + 1)) (a + 1) k).1, (mnd n y (n - (a + 1)) (a + 1) k).2 + 1) := by
  obtain ⟨d, hd⟩ : ∃ d, n - a = d + 1 := ⟨n - a - 1, by omega⟩
  rw [hd, mnd, if_pos h, if_neg hc, mnd_more d (n - (a + 1)) _ _ (by omega) (by omega)]
/-- How many are saved, how many passed over. -/
theorem mnd_le {n : Nat} {y : Nat → Int} (g : Nat) : ∀ a k, a ≤ n → n - a ≤ g → (mnd n y g a k).1.length ≤ (60 - k) * 128 ∧ (mnd n y g a k).2 ≤ n - a := by
  induction g with
  | zero => intro a k _ _; exact ⟨Nat.zero_le _, Nat.zero_le _⟩
  | succ g ih =>
    intro a k h0 h
    by_cases c : a < n
    · rw [mnd, if_pos c]
      by_cases e : (opn n y a).2.2.2 = 0 ∧ k < 60
      · have hy := opn_yes e.1
        have := ih (opn n y a).2.2.1 (k + 1) (by omega) (by omega)
        rw [if_pos e]
        refine ⟨?_, by show (mnd n y g (opn n y a).2.2.1 (k + 1)).2 ≤ n - a; omega⟩
        show ((List.range (opn n y a).1).map (opn n y a).2.1 ++ (mnd n y g (opn n y a).2.2.1 (k + 1)).1).length ≤ _
        rw [List.length_append, List.length_map, List.length_range]
        omega
      · rw [if_neg e]
        have := ih (a + 1) k (by omega) (by omega)
        exact ⟨this.1, by show (mnd n y g (a + 1) k).2 + 1 ≤ n - a; omega⟩
    · rw [mnd_end c]
      exact ⟨Nat.zero_le _, Nat.zero_le _⟩
end Go.Proofs.YtndagpompioooaaDoor

namespace Go.Proofs.YtndagpompioooaaDoor
open Go.RowKit

set_option maxHeartbeats 4000000 in
theorem opn_told {n : Nat} {y : Nat → Int} (hn : n ≤ 1048576) (hy : Byt n y) (a : Nat) (hat : a ≤ 9223372036854775807) :
    (∀ W u, Eg W → Bl W u n y → Calls Tryd.prog 27 #[u, .int .i64 (a : Int)] W fun e w' => Pof W w' e (opn n y a).1 (opn n y a).2.1 ((opn n y a).2.2.1 : Int) ((opn n y a).2.2.2 : Int)) ∧ ∀ W u, Bl W u n y → Calls Tryd.prog 33 #[u, .int .i64 (a : Int)] W fun e w' => Pof W w' e (opn n y a).1 (opn n y a).2.1 ((opn n y a).2.2.1 : Int) ((opn n y a).2.2.2 : Int) := by
  by_cases ha : a + 3 ≤ n
  rotate_left
  · have e : opn n y a = (0, fun _ => 0, a, 1) := by unfold opn; rw [if_neg ha]
    rw [e]
    refine ⟨fun W u hg hu => iOf_bad hg hu (fun X hX => ?_) _, fun W u hu => so_short hu hn (by omega) (by omega) _⟩
    refine (rf_short (hu.below hX) hn (by omega) (by omega)).mono ?_
    rintro e w' ⟨rfl, rfl⟩
    exact ⟨rfl, Below.refl _ _⟩
  have e0 : y a = (((y a).toNat : Nat) : Int) := by have := hy a (by omega); omega
  have e1 : y (a + 1) = (((y (a + 1)).toNat : Nat) : Int) := by have := hy (a + 1) (by omega); omega
  have e2 : y (a + 2) = (((y (a + 2)).toNat : Nat) : Int) := by have := hy (a + 2) (by omega); omega
  have b0 : (y a).toNat < 256 := by have := hy a (by omega); omega
  have b1 : (y (a + 1)).toNat < 256 := by have := hy (a + 1) (by omega); omega
  have b2 : (y (a + 2)).toNat < 256 := by have := hy (a + 2) (by omega); omega
  by_cases hh : opH y a
  rotate_left
  · have e : opn n y a = (0, fun _ => 0, a, 2) := by unfold opn; rw [if_pos ha, if_neg hh]
    rw [e]
    exact ⟨fun W u hg hu => iOf_bad hg hu (fun X hX => rf_head (hu.below hX) hn ha e0 e1 e2 b0 b1 b2 hh) _, fun W u hu => so_head hu hn ha e0 e1 e2 b0 b1 b2 hh _⟩
  cases hr : opr n y a with
  | none =>
    rw [opn_none ha hh hr]
    exact ⟨fun W u hg hu => iOf_bad hg hu (fun X hX => rf_bits (hu.below hX) hy hn ha e0 e1 e2 b0 b1 b2 hh hr) _, fun W u hu => so_bits hu hy hn ha e0 e1 e2 b0 b1 b2 hh hr _⟩
  | some z =>
    have eo := opn_some ha hh hr
    obtain ⟨R, a'⟩ := z
    obtain ⟨en, hE⟩ : ∃ en : Nat, en = a + 3 + (a' + 7) / 8 := ⟨_, rfl⟩
    have hen : ope a (R, a') = en := hE.symm
    unfold opC at eo
    rw [hen] at eo
    by_cases hE5 : en + 2 ≤ n
    rotate_left
    · rw [if_neg hE5] at eo
      rw [eo]
      exact ⟨fun W u hg hu => iOf_bad hg hu (fun X hX => rf_end (hu.below hX) hy hn ha e0 e1 e2 b0 b1 b2 hh hr (by omega)) _, fun W u hu => so_end hu hy hn ha e0 e1 e2 b0 b1 b2 hh hr hE hE5 _⟩
    rw [if_pos hE5] at eo
    have eY0 : y en = (((y en).toNat : Nat) : Int) := by have := hy en (by omega); omega
    have eY1 : y (en + 1) = (((y (en + 1)).toNat : Nat) : Int) := by have := hy (en + 1) (by omega); omega
    have bY0 : (y en).toNat < 256 := by have := hy en (by omega); omega
    have bY1 : (y (en + 1)).toNat < 256 := by have := hy (en + 1) (by omega); omega
    by_cases hck : crv (en - a) (fun i => y (a + i)) = (((y en).toNat : Nat) : Int) * 256 + (((y (en + 1)).toNat : Nat) : Int)
    rotate_left
    · rw [if_neg hck] at eo
      rw [eo]
      exact ⟨fun W u hg hu => iOf_bad hg hu (fun X hX => rf_check (hu.below hX) hy hn ha e0 e1 e2 b0 b1 b2 hh hr hE hE5 eY0 eY1 bY0 bY1 hck) _, fun W u hu => so_check hu hy hn ha e0 e1 e2 b0 b1 b2 hh hr hE hE5 eY0 eY1 bY0 bY1 hck _⟩
    rw [if_pos hck] at eo
    have hRl := (rdn_told _ hr).1
    by_cases hA : opA y a ((y (a + 2)).toNat / 32) R en
    · rw [if_pos hA] at eo
      rw [eo]
      have hsm : decide (∀ k, k < R.length → Smp (ugf ((y (a + 2)).toNat / 32) (lf R) k)) = true := decide_eq_true hA.2.1
      have hUi : ∀ W u, Il W u R.length (lf R) → Calls Tryd.prog 87 #[.int .i64 (((y (a + 2)).toNat / 32 : Nat) : Int), u] W fun e w' => Pst W w' e R.length (ugf ((y (a + 2)).toNat / 32) (lf R)) true := fun W u hu => iUnG_good hu (by omega) hA.1 hh.2.2.2 true hsm.symm _ rfl
      have hUs : ∀ W u, Il W u R.length (lf R) → Calls Tryd.prog 71 #[.int .i64 (((y (a + 2)).toNat / 32 : Nat) : Int), u] W fun e w' => Pst W w' e R.length (ugf ((y (a + 2)).toNat / 32) (lf R)) true := fun W u hu => sUnG_good hu (by omega) hA.1 hh.2.2.2 true hsm.symm _ rfl
      obtain ⟨hf1, hPs, hPi⟩ := frame_told (n := R.length) (xs := ugf ((y (a + 2)).toNat / 32) (lf R)) (by omega)
      have hok : fok R.length (ugf ((y (a + 2)).toNat / 32) (lf R)) = true := by
        cases h9 : fok R.length (ugf ((y (a + 2)).toNat / 32) (lf R)) with
        | true => rfl
        | false => have h8 := fok_not h9; have h7 := hA.2.2.1; omega
      rw [hok] at hPs hPi
      have hEq : true = decide (fN R.length (ugf ((y (a + 2)).toNat / 32) (lf R)) = en + 2 - a ∧ ∀ k, k < fN R.length (ugf ((y (a + 2)).toNat / 32) (lf R)) → fY R.length (ugf ((y (a + 2)).toNat / 32) (lf R)) k = y (a + k)) := (decide_eq_true ⟨hA.2.2.1, fun k hk => hA.2.2.2 k (by rw [hA.2.2.1] at hk; exact hk)⟩).symm
      refine ⟨fun W u hg hu => iOf_ok hg hu (fun X hX => ?_), fun W u hu => so_last hu hy hn ha e0 e1 e2 b0 b1 b2 hh hr hE hE5 eY0 eY1 bY0 bY1 hck hUs hPs (fY_byt _ _) hEq (fun _ _ => ⟨rfl, rfl, rfl, rfl⟩) (fun h9 => absurd ⟨rfl, rfl⟩ h9)⟩
      have := rf_last (hu.below hX) hy hn ha e0 e1 e2 b0 b1 b2 hh hr hE hE5 eY0 eY1 bY0 bY1 hck hUi hPi (fY_byt _ _) hEq
      simpa using this
    · rw [if_neg hA] at eo
      rw [eo]
      obtain ⟨N, zs, A, hN, hNA, hUi, hUs⟩ : ∃ (N : Nat) (zs : Nat → Int) (A : Bool), N ≤ 512 ∧ (A = true → N = R.length ∧ zs = ugf ((y (a + 2)).toNat / 32) (lf R) ∧ Wth 10000000000 R.length (lf R) ∧ ∀ k, k < R.length → Smp (zs k)) ∧ (∀ W u, Il W u R.length (lf R) → Calls Tryd.prog 87 #[.int .i64 (((y (a + 2)).toNat / 32 : Nat) : Int), u] W fun e w' => Pst W w' e N zs A) ∧ ∀ W u, Il W u R.length (lf R) → Calls Tryd.prog 71 #[.int .i64 (((y (a + 2)).toNat / 32 : Nat) : Int), u] W fun e w' => Pst W w' e N zs A := by
        by_cases h : Wth 10000000000 R.length (lf R)
        · refine ⟨_, _, decide (∀ k, k < R.length → Smp (ugf ((y (a + 2)).toNat / 32) (lf R) k)), ?_, fun h9 => ⟨?_, rfl, h, of_decide_eq_true h9⟩, fun W u hu => iUnG_good hu (by omega) h hh.2.2.2 _ rfl _ rfl, fun W u hu => sUnG_good hu (by omega) h hh.2.2.2 _ rfl _ rfl⟩
          · split <;> omega
          · rw [if_pos h9]
        · exact ⟨0, fun _ => 0, false, by omega, (fun h9 => Bool.noConfusion h9), fun W u hu => iUnG_bad hu (by omega) (fun h9 => h h9.2.2) _, fun W u hu => sUnG_bad hu (by omega) (fun h9 => h h9.2.2) _⟩
      obtain ⟨hf1, hPs, hPi⟩ := frame_told (n := N) (xs := zs) (by omega)
      obtain ⟨Eq, hEq⟩ : ∃ Eq : Bool, Eq = decide (fN N zs = en + 2 - a ∧ ∀ k, k < fN N zs → fY N zs k = y (a + k)) := ⟨_, rfl⟩
      have hc : ¬ (A = true ∧ Eq = true) := by
        rintro ⟨h8, h9⟩
        obtain ⟨g1, g2, g3, g4⟩ := hNA h8
        rw [h9, g1, g2] at hEq
        have g5 := of_decide_eq_true hEq.symm
        rw [g2] at g4
        exact hA ⟨g3, g4, g5.1, fun k hk => g5.2 k (by rw [g5.1]; exact hk)⟩
      refine ⟨fun W u hg hu => iOf_bad hg hu (fun X hX => ?_) _, fun W u hu => so_last hu hy hn ha e0 e1 e2 b0 b1 b2 hh hr hE hE5 eY0 eY1 bY0 bY1 hck hUs hPs (fY_byt _ _) hEq (zz := fun _ => 0) (fun h1 h2 => absurd ⟨h1, h2⟩ hc) (fun _ => ⟨rfl, rfl, rfl⟩)⟩
      have := rf_last (hu.below hX) hy hn ha e0 e1 e2 b0 b1 b2 hh hr hE hE5 eY0 eY1 bY0 bY1 hck hUi hPi (fY_byt _ _) hEq
      have hf : (A && fok N zs && Eq) = false := and_not hc
      rw [hf] at this
      simpa using this
end Go.Proofs.YtndagpompioooaaDoor

namespace Go.Proofs.YtndagpompioooaaDoor
open Go.RowKit

theorem apart_app {w : World} {B s n : Nat} {e : TypeId} {t o v' : Value} {xs : List Value} (ht : w.ownsRow B e s t n xs) (ha : Apart t o) (hu : v'.ownBlock = o.ownBlock ∨ v'.ownBlock = some w.heap.size) : Apart t v' := by
  rcases hu with hu | hu
  · unfold Apart at *
    rw [hu]
    exact ha
  · refine .inr (fun e => ?_)
    rw [hu] at e
    have := World.ownsRow.lt ht _ e
    omega

/-- An append, and where the row lies behind it. -/
theorem wpList_app {P : Program} (w : World) {ops : Array Oper} {rest : List Oper} {o : Oper} {a : Act} {Q : Exit → Act → World → Prop} (hgd : o.guard = none) (s x : Operand) (t : TypeId)
    (ho : o.op = .call { callee := .builtin .append, args := #[s, x], argTypes := #[t, t] })
    (base : Nat) (e : TypeId) (i : TypeInfo) (z : Value) (size bytes : Nat) (ht : P.underlying t = some (.slice e)) (hi : P.info? e = some i) (hz : i.zero = some z)
    (hsize : i.size = size) (hby : i.bytes = bytes) (hzs : z.cells.size = size) (hsz : 0 < size)
    (v : Value) (n : Nat) (xs : List Value) (hs : a.eval s = v) (hown : w.ownsRow base e size v n xs)
    (ad : Addr) (m c : Nat) (news : List Value) (hx : a.eval x = .slice (some ad) m c) (hl : news.length = m * size) (hnews : ∀ j u, news[j]? = some u → w.cell? (ad.add j) = some u) (h1 : ∀ u ∈ news, u.oneCell' = true)
    (h63 : n + m ≤ maxLen) (hbytes : (n + m) * bytes ≤ 140737488355328) (hbase : base ≤ w.heap.size) (hm : 0 < m)
    (h : ∀ v' w', w'.ownsRow base e size v' (n + m) (xs ++ news) → w.grownBy w' v.ownBlock → (v'.ownBlock = v.ownBlock ∨ (v'.ownBlock = some w.heap.size ∧ Below w.heap.size w w')) → wpList P ops Q rest (a.put o.dst v') w') : wpList P ops Q (o :: rest) a w :=
  wpList_plain hgd fun _ hK => wp_app w s x t ho base e i z size bytes ht hi hz hsize hby hzs hsz v n xs hs hown ad m c news hx hl hnews h1 h63 hbytes hbase hm fun v' w' h2 h3 h4 => hK _ _ (h v' w' h2 h3 h4)

/-- A row apart from the one that grew is as it was. -/
theorem own_grown {w w' : World} {B s n : Nat} {e : TypeId} {t o : Value} {xs : List Value} (h : w.ownsRow B e s t n xs) (hg : w.grownBy w' o.ownBlock) (ha : Apart t o) : w'.ownsRow B e s t n xs := by
  refine ⟨h.1, ?_⟩
  rcases h.2 with h' | ⟨g', cap', cur, h', hb', hg', rest⟩
  · exact .inl h'
  · refine .inr ⟨g', cap', cur, h', hb', (hg.block g' (Array.getElem?_eq_some_iff.1 hg').1 (fun e => ?_)).trans hg', rest⟩
    subst h'
    rcases ha with ha | ha
    · cases ha
    · exact ha e

/-- A list that came in put behind a row, and where the row lies. -/
theorem wpList_appj {w : World} {ops : Array Oper} {rest : List Oper} {o : Oper} {a : Act} {Q : Exit → Act → World → Prop} (hgd : o.guard = none) (s x : Operand)
    (ho : o.op = .call { callee := .builtin .append, args := #[s, x], argTypes := #[24, 24] }) (base : Nat) (v xv : Value) (n m : Nat) (xs : List Value) (ys : Nat → Int) (hs : a.eval s = v) (hx : a.eval x = xv)
    (hown : w.ownsRow base 3 1 v n xs) (hsrc : Il w xv m ys) (hm : 0 < m) (hnm : n + m ≤ 1048576) (hbase : base ≤ w.heap.size)
    (h : ∀ v' w', w'.ownsRow base 3 1 v' (n + m) (xs ++ ils ys m) → w.grownBy w' v.ownBlock → (v'.ownBlock = v.ownBlock ∨ v'.ownBlock = some w.heap.size) → wpList Tryd.prog ops Q rest (a.put o.dst v') w') : wpList Tryd.prog ops Q (o :: rest) a w := by
  obtain ⟨i0, hi, hz0, hz1, hz2⟩ := info_parts Tryd.info3
  obtain ⟨ao, cap, rfl, hcap, hc⟩ := hsrc
  obtain ⟨b, off, rfl, hlt, hcell⟩ := hc hm
  refine wpList_app w hgd s x 24 ho base 3 i0 (.int .i64 0) 1 8 Tryd.underlying24 hi hz0 hz1 hz2 rfl (by decide) v n xs hs hown ⟨b, off, none⟩ m cap (ils ys m) hx (by rw [ils_length, Nat.mul_one]) (fun j u hu => ?_) (ils_one _ _) (by unfold maxLen; omega) (by omega) hbase hm (fun v' w' h2 h3 h4 => h v' w' h2 h3 (h4.imp id (fun h5 => h5.1)))
  by_cases hj : j < m
  · rw [ils_get hj] at hu
    have h6 := (hcell j hj).trans hu
    unfold Addr.add
    split
    · rename_i h7
      obtain rfl : j = 0 := by simpa using h7
      exact h6
    · exact h6
  · rw [List.getElem?_eq_none (by rw [ils_length]; omega)] at hu
    cases hu

theorem il_new (W : World) (x : Int) : Il (W.alloc (.cells #[.int .i64 x] 3)) (.slice (some ⟨W.heap.size, 0, none⟩) 1 1) 1 (fun _ => x) :=
  ⟨_, _, rfl, Nat.le_refl _, fun _ => ⟨_, 0, rfl, by rw [show (W.alloc (.cells #[.int .i64 x] 3)).heap.size = W.heap.size + 1 from Array.size_push _]; omega, fun k hk => by
    obtain rfl : k = 0 := by omega
    simp [go_sem]⟩⟩

/-- A list put behind a list, as rows. -/
theorem il_cat (L : List Int) (g : Nat → Int) (m : Nat) : ils (lf L) L.length ++ ils g m = ils (lf (L ++ (List.range m).map g)) (L.length + m) := by
  apply List.ext_getElem?
  intro i
  by_cases h : i < L.length
  · rw [List.getElem?_append_left (by rw [ils_length]; exact h), ils_get h, ils_get (by omega), lf_left h]
  · rw [List.getElem?_append_right (by rw [ils_length]; omega), ils_length]
    by_cases h2 : i < L.length + m
    · rw [ils_get (by omega), ils_get h2, lf_right (by omega)]
      unfold lf
      rw [List.getD_eq_getElem?_getD, List.getElem?_map, List.getElem?_range (by omega)]
      rfl
    · rw [List.getElem?_eq_none (by rw [ils_length]; omega), List.getElem?_eq_none (by rw [ils_length]; omega)]
theorem il_one (L : List Int) (x : Int) : ils (lf L) L.length ++ ils (fun _ => x) 1 = ils (lf (L ++ [x])) (L.length + 1) := il_cat L (fun _ => x) 1

/-- What OpenAll tells. -/
def Pob (w w' : World) (e : Ending) (N : Nat) (f : Nat → Int) (M : Nat) (g : Nat → Int) (c : Int) : Prop := ∃ u v, e = .returned (.tuple #[u, v, .int .i64 c]) ∧ w'.ownsRow w.heap.size 3 1 u N (ils f N) ∧ w'.ownsRow w.heap.size 3 1 v M (ils g M) ∧ Apart u v ∧ Below w.heap.size w w'
abbrev Poa (w w' : World) (e : Ending) (R P : List Int) (c : Nat) : Prop := Pob w w' e R.length (lf R) P.length (lf P) (c : Int)

theorem opn_i {n : Nat} {y : Nat → Int} (hn : n ≤ 20000) (hy : Byt n y) : ∀ a : Nat, a ≤ 20000 → ∀ W u, Eg W → Bl W u n y → Calls Tryd.prog 27 #[u, .int .i64 (a : Int)] W fun e w' => Pof W w' e (opn n y a).1 (opn n y a).2.1 ((opn n y a).2.2.1 : Int) ((opn n y a).2.2.2 : Int) := by
  intro a ha
  have h2 : a ≤ 9223372036854775807 := Nat.le_trans ha (by decide)
  exact (opn_told (Nat.le_trans hn (by decide)) hy a h2).1

theorem opn_s {n : Nat} {y : Nat → Int} (hn : n ≤ 20000) (hy : Byt n y) : ∀ a : Nat, a ≤ 20000 → ∀ W u, Bl W u n y → Calls Tryd.prog 33 #[u, .int .i64 (a : Int)] W fun e w' => Pof W w' e (opn n y a).1 (opn n y a).2.1 ((opn n y a).2.2.1 : Int) ((opn n y a).2.2.2 : Int) := by
  intro a ha
  have h2 : a ≤ 9223372036854775807 := Nat.le_trans ha (by decide)
  exact (opn_told (Nat.le_trans hn (by decide)) hy a h2).2
end Go.Proofs.YtndagpompioooaaDoor

namespace Go.Proofs.YtndagpompioooaaDoor
open Go.RowKit

set_option maxRecDepth 20000 in
set_option maxHeartbeats 16000000 in
theorem iOA_good {w : World} {v : Value} {n : Nat} {y : Nat → Int} (hg : Eg w) (hv : Bl w v n y) (hy : Byt n y) (hn : n ≤ 20000) : Calls Tryd.prog 21 #[v] w fun e w' => Poa w w' e (osm n y (oT n y)) (opl n y (oT n y)) (oC n y) := by
  have HV : Hid (Bl w v n y) := hv
  have HY : Hid (Byt n y) := hy
  have HG : Hid (Eg w) := hg
  have hs1 : (w.alloc (.cells #[] 3)).heap.size = w.heap.size + 1 := Array.size_push _
  have HS : Hid (((w.alloc (.cells #[] 3)).alloc (.cells #[] 3)).ownsRow w.heap.size 3 1 (.slice (some ⟨w.heap.size, 0, none⟩) 0 0) 0 []) := own_below (own_empty w 3 1) (below_one _ _)
  have HP : Hid (((w.alloc (.cells #[] 3)).alloc (.cells #[] 3)).ownsRow w.heap.size 3 1 (.slice (some ⟨w.heap.size + 1, 0, none⟩) 0 0) 0 []) := by
    have h9 := own_base (B' := w.heap.size) (own_empty (w.alloc (.cells #[] 3)) 3 1) (by omega)
    rw [hs1] at h9
    exact h9
  have HA : Hid (Apart (.slice (some ⟨w.heap.size, 0, none⟩) 0 0) (.slice (some ⟨w.heap.size + 1, 0, none⟩) 0 0)) := .inr (by simp [Value.ownBlock])
  have HB : Hid (Below w.heap.size w ((w.alloc (.cells #[] 3)).alloc (.cells #[] 3))) := bstep (below_one _ _) (below_one _ _)
  obtain ⟨T, hT⟩ : ∃ T, T = oT n y := ⟨_, rfl⟩
  obtain ⟨CC, hCC⟩ : ∃ CC, CC = oC n y := ⟨_, rfl⟩
  have HTC : Hid (otot n y 60 0 = (T, CC)) := by rw [hT, hCC]; rfl
  rw [← hT, ← hCC]
  have HOP : Hid (∀ a : Nat, a ≤ 20000 → ∀ W u, Eg W → Bl W u n y → Calls Tryd.prog 27 #[u, .int .i64 (a : Int)] W fun e w' => Pof W w' e (opn n y a).1 (opn n y a).2.1 ((opn n y a).2.2.1 : Int) ((opn n y a).2.2.2 : Int)) := opn_i hn hy
  obtain ⟨ao, cap, rfl, hcap, hc⟩ := hv
  clear hc hy hT hCC hg
  go_enter Tryd.func21, Tryd.ntmps21
  go_wp2
  generalize (w.alloc (.cells #[] 3)).alloc (.cells #[] 3) = W at *
  clear hs1
  go_loopw [5, 6, 7, 8, 9, 10] (fun sv pv av _ _ _ wr => ∃ (t a : Nat), av = .int .i64 (a : Int) ∧ t ≤ 60 ∧ a ≤ n ∧ Hid (a = oat n y t ∧ otot n y (60 - t) t = (T, CC)) ∧ Hid (wr.ownsRow w.heap.size 3 1 sv (osm n y t).length (ils (lf (osm n y t)) (osm n y t).length) ∧ wr.ownsRow w.heap.size 3 1 pv t (ils (lf (opl n y t)) t) ∧ Apart sv pv ∧ Below w.heap.size w wr)) (fun _ _ av _ _ _ _ => n - (intOf av).toNat)
  case atStart => exact ⟨0, 0, rfl, by omega, by omega, ⟨rfl, HTC.out⟩, HS.out, HP.out, HA.out, HB.out⟩
  case round =>
    clear HS HP HA HB
    obtain ⟨t, a, rfl, ht, ha, hta, hrel⟩ := hrel
    have HS : Hid _ := hrel.out.1
    have HP : Hid _ := hrel.out.2.1
    have HA : Hid (Apart _ _) := hrel.out.2.2.1
    have HB : Hid (Below w.heap.size w _) := hrel.out.2.2.2
    obtain ⟨qa, qc, hq9⟩ := own_slice3 HS.out
    subst hq9
    obtain ⟨pa, pc, hp9⟩ := own_slice3 HP.out
    subst hp9
    clear hrel
    have hol := opl_len n y
    by_cases hlt : a < n
    · by_cases h60 : t = 60
      · have HF : Hid (T = 60 ∧ CC = 5) := by
          have h9 := hta.out.2
          rw [h60] at h9
          rw [otot_form (by rw [← h60, ← hta.out.1]; exact hlt)] at h9
          injection h9 with h1 h2
          exact ⟨h1.symm, h2.symm⟩
        subst h60
        go_wp2
        go_ret3
        rw [HF.out.1, HF.out.2]
        exact ⟨_, _, rfl, HS.out, by rw [hol]; exact HP.out, HA.out, HB.out⟩
      · have h60' : t < 60 := by omega
        obtain ⟨Nf, hNf⟩ : ∃ Nf, Nf = (opn n y a).1 := ⟨_, rfl⟩
        obtain ⟨Yf, hYf⟩ : ∃ Yf, Yf = (opn n y a).2.1 := ⟨_, rfl⟩
        obtain ⟨X, hX⟩ : ∃ X, X = (opn n y a).2.2.1 := ⟨_, rfl⟩
        obtain ⟨C, hC⟩ : ∃ C, C = (opn n y a).2.2.2 := ⟨_, rfl⟩
        have HOA : Hid (∀ W u, Eg W → Bl W u n y → Calls Tryd.prog 27 #[u, .int .i64 (a : Int)] W fun e w' => Pof W w' e Nf Yf (X : Int) (C : Int)) := by rw [hNf, hYf, hX, hC]; exact HOP.out a (by omega)
        have hml := osm_le (n := n) (y := y) t
        by_cases hc0 : C = 0
        · subst hc0
          obtain ⟨k1, k2, k3, k4⟩ := opn_yes hC.symm
          rw [← hX] at k1 k2
          rw [← hNf] at k3 k4
          have hN0 : 0 < Nf := by omega
          have HN : Hid (oat n y (t + 1) = X ∧ otot n y (60 - (t + 1)) (t + 1) = (T, CC) ∧ osm n y (t + 1) = osm n y t ++ (List.range Nf).map Yf ∧ opl n y (t + 1) = opl n y t ++ [(a : Int)]) := by
            obtain ⟨z1, z2⟩ := hta.out
            refine ⟨by rw [oat, ← z1, hX], ?_, by rw [osm, ← z1, hNf, hYf], by rw [opl, ← z1]⟩
            rw [← z2, show 60 - t = (60 - (t + 1)) + 1 by omega]
            rw [otot_step (by rw [← z1]; exact hlt) (by rw [← z1]; exact hC.symm)]
          clear k3 hNf hYf hX hC hta
          go_wp2_with (first
            | (go_at_call 27; refine (HOA.out _ _ (keepc HB.out HG.out) (HV.out.below HB.out)).mono ?_; rintro e w2 ⟨x2, rfl, hown, hb⟩; obtain ⟨xa, xc, hx9⟩ := own_slice3 hown; subst hx9; have HX2 : Hid (Il w2 (.slice xa Nf xc) Nf Yf) := il_of_own hown; have HS2 : Hid _ := own_below HS.out hb; have HP2 : Hid _ := own_below HP.out hb; have HB2 : Hid (Below w.heap.size w w2) := bstep HB.out hb; clear hown hb)
            | (at_builtin; refine wpList_appj rfl _ _ rfl w.heap.size _ _ (osm n y t).length Nf _ Yf rfl rfl HS2.out HX2.out hN0 (by omega) HB2.out.size ?_; intro x3 w3 hown hgrow hblk; have HS3 : Hid (w3.ownsRow w.heap.size 3 1 x3 (osm n y (t + 1)).length (ils (lf (osm n y (t + 1))) (osm n y (t + 1)).length)) := (by rw [HN.out.2.2.1, List.length_append, List.length_map, List.length_range, ← il_cat]; exact hown); have HP3 : Hid _ := own_grown HP2.out hgrow (apart_symm HA.out); have HA3 : Hid (Apart _ x3) := apart_app HP2.out (apart_symm HA.out) hblk; have HB3 : Hid (Below w.heap.size w w3) := grown_below HB2.out (Nat.le_refl _) HS2.out hgrow; clear hown hgrow hblk)
            | (at_builtin; refine wpList_appj rfl _ _ rfl w.heap.size _ _ t 1 _ (fun _ => (a : Int)) rfl rfl (own_below HP3.out (below_one _ _)) (il_new _ _) (by omega) (by omega) (Nat.le_trans HB3.out.size (below_one _ _).size) ?_; intro x4 w4 hown hgrow hblk; have HP4 : Hid (w4.ownsRow w.heap.size 3 1 x4 (t + 1) (ils (lf (opl n y (t + 1))) (t + 1))) := (by have h9 := il_one (opl n y t) (a : Int); rw [hol] at h9; rw [HN.out.2.2.2, ← h9]; exact hown); have HS4 : Hid (w4.ownsRow w.heap.size 3 1 _ _ _) := own_grown (own_below HS3.out (below_one _ _)) hgrow (apart_symm HA3.out); have HA4 : Hid (Apart _ x4) := apart_app (own_below HS3.out (below_one _ _)) (apart_symm HA3.out) hblk; have HB4 : Hid (Below w.heap.size w w4) := grown_below (bstep HB3.out (below_one _ _)) (Nat.le_refl _) (own_below HP3.out (below_one _ _)) hgrow; clear hown hgrow hblk))
          go_roundw
          case rel => exact ⟨t + 1, X, rfl, by omega, by omega, ⟨HN.out.1.symm, HN.out.2.1⟩, HS4.out, HP4.out, HA4.out, HB4.out⟩
          case measure => simp [intOf]; omega
        · have hc1 : ¬ ((C : Int) = 0) := by omega
          have HF : Hid (T = t ∧ CC = C) := by
            obtain ⟨z1, z2⟩ := hta.out
            rw [show 60 - t = (60 - (t + 1)) + 1 by omega, otot_stop (by rw [← z1]; exact hlt) (by rw [← z1, ← hC]; exact hc0), ← z1, ← hC] at z2
            injection z2 with h1 h2
            exact ⟨h1.symm, h2.symm⟩
          clear hNf hYf hX hC hta
          go_wp2_with (first
            | (go_at_call 27; refine (HOA.out _ _ (keepc HB.out HG.out) (HV.out.below HB.out)).mono ?_; rintro e w2 ⟨x2, rfl, hown, hb⟩; obtain ⟨xa, xc, hx9⟩ := own_slice3 hown; subst hx9; have HS2 : Hid _ := own_below HS.out hb; have HP2 : Hid _ := own_below HP.out hb; have HB2 : Hid (Below w.heap.size w w2) := bstep HB.out hb; clear hown hb))
          go_ret3
          rw [HF.out.1, HF.out.2]
          exact ⟨_, _, rfl, HS2.out, by rw [hol]; exact HP2.out, HA.out, HB2.out⟩
    · have HF : Hid (T = t ∧ CC = 0) := by
        obtain ⟨z1, z2⟩ := hta.out
        rw [otot_end (by rw [← z1]; exact hlt)] at z2
        injection z2 with h1 h2
        exact ⟨h1.symm, h2.symm⟩
      clear hta
      go_wp2
      go_ret3
      rw [HF.out.1, HF.out.2]
      exact ⟨_, _, rfl, HS.out, by rw [hol]; exact HP.out, HA.out, HB.out⟩
end Go.Proofs.YtndagpompioooaaDoor

namespace Go.Proofs.YtndagpompioooaaDoor
open Go.RowKit

/-- What Mend tells. -/
def Pmd (w w' : World) (e : Ending) (R : List Int) (l : Nat) : Prop := ∃ u, e = .returned (.tuple #[u, .int .i64 (l : Int)]) ∧ w'.ownsRow w.heap.size 3 1 u R.length (ils (lf R) R.length) ∧ Below w.heap.size w w'

set_option maxRecDepth 20000 in
set_option maxHeartbeats 16000000 in
theorem iMd_good {w : World} {v : Value} {n : Nat} {y : Nat → Int} (hg : Eg w) (hv : Bl w v n y) (hy : Byt n y) (hn : n ≤ 20000) : Calls Tryd.prog 22 #[v] w fun e w' => Pmd w w' e (mnd n y n 0 0).1 (mnd n y n 0 0).2 := by
  have HV : Hid (Bl w v n y) := hv
  have HG : Hid (Eg w) := hg
  have OW : Hid ((w.alloc (.cells #[] 3)).ownsRow w.heap.size 3 1 (.slice (some ⟨w.heap.size, 0, none⟩) 0 0) 0 []) := own_empty w 3 1
  have BL : Hid (Below w.heap.size w (w.alloc (.cells #[] 3))) := below_one _ _
  obtain ⟨M, hM⟩ : ∃ M, M = mnd n y n 0 0 := ⟨_, rfl⟩
  have HM : Hid (mnd n y (n - 0) 0 0 = M) := hM.symm
  rw [← hM]
  have HOP : Hid (∀ a : Nat, a ≤ 20000 → ∀ W u, Eg W → Bl W u n y → Calls Tryd.prog 27 #[u, .int .i64 (a : Int)] W fun e w' => Pof W w' e (opn n y a).1 (opn n y a).2.1 ((opn n y a).2.2.1 : Int) ((opn n y a).2.2.2 : Int)) := opn_i hn hy
  obtain ⟨ao, cap, rfl, hcap, hc⟩ := hv
  clear hc hy hM hg
  go_enter Tryd.func22, Tryd.ntmps22
  go_wp2
  generalize w.alloc (.cells #[] 3) = W at *
  go_loopw [4, 5, 6, 7, 8, 9, 10] (fun sv av lv kv _ _ _ wr => ∃ (a l k : Nat) (R : List Int), av = .int .i64 (a : Int) ∧ lv = .int .i64 (l : Int) ∧ kv = .int .i64 (k : Int) ∧ a ≤ n ∧ l ≤ a ∧ k ≤ 60 ∧ R.length ≤ k * 128 ∧ Hid (M.1 = R ++ (mnd n y (n - a) a k).1 ∧ M.2 = l + (mnd n y (n - a) a k).2) ∧ Hid (wr.ownsRow w.heap.size 3 1 sv R.length (ils (lf R) R.length) ∧ Below w.heap.size w wr)) (fun sv av lv kv _ _ _ _ => n - (intOf av).toNat)
  case atStart => exact ⟨0, 0, 0, [], rfl, rfl, rfl, by omega, by omega, by omega, Nat.le_refl _, ⟨by rw [HM.out]; rfl, by rw [HM.out, Nat.zero_add]⟩, OW.out, BL.out⟩
  case round =>
    clear OW BL HM
    obtain ⟨a, l, k, R, rfl, rfl, rfl, ha, hla, hk, hR, hM, hrel⟩ := hrel
    have HS : Hid _ := hrel.out.1
    have HB : Hid (Below w.heap.size w _) := hrel.out.2
    obtain ⟨qa, qc, hq9⟩ := own_slice3 HS.out
    subst hq9
    clear hrel
    by_cases hlt : a < n
    · by_cases hk6 : k < 60
      · obtain ⟨Nf, hNf⟩ : ∃ Nf, Nf = (opn n y a).1 := ⟨_, rfl⟩
        obtain ⟨Yf, hYf⟩ : ∃ Yf, Yf = (opn n y a).2.1 := ⟨_, rfl⟩
        obtain ⟨X, hX⟩ : ∃ X, X = (opn n y a).2.2.1 := ⟨_, rfl⟩
        obtain ⟨C, hC⟩ : ∃ C, C = (opn n y a).2.2.2 := ⟨_, rfl⟩
        have HOA : Hid (∀ W u, Eg W → Bl W u n y → Calls Tryd.prog 27 #[u, .int .i64 (a : Int)] W fun e w' => Pof W w' e Nf Yf (X : Int) (C : Int)) := by rw [hNf, hYf, hX, hC]; exact HOP.out a (by omega)
        by_cases hc0 : C = 0
        · subst hc0
          obtain ⟨k1, k2, k3, k4⟩ := opn_yes hC.symm
          rw [← hX] at k1 k2
          rw [← hNf] at k3 k4
          have hN0 : 0 < Nf := by omega
          have HN : Hid (M.1 = (R ++ (List.range Nf).map Yf) ++ (mnd n y (n - X) X (k + 1)).1 ∧ M.2 = l + (mnd n y (n - X) X (k + 1)).2) := by
            have h9 := hM.out
            rw [mnd_yes hlt hC.symm hk6, ← hNf, ← hYf, ← hX] at h9
            exact ⟨by rw [h9.1, List.append_assoc], h9.2⟩
          clear k3 hNf hYf hX hC hM
          go_wp2_with (first
            | (go_at_call 27; refine (HOA.out _ _ (keepc HB.out HG.out) (HV.out.below HB.out)).mono ?_; rintro e w2 ⟨x2, rfl, hown, hb⟩; obtain ⟨xa, xc, hx9⟩ := own_slice3 hown; subst hx9; have HX2 : Hid (Il w2 (.slice xa Nf xc) Nf Yf) := il_of_own hown; have HS2 : Hid _ := own_below HS.out hb; have HB2 : Hid (Below w.heap.size w w2) := bstep HB.out hb; clear hown hb)
            | (at_builtin; refine wpList_appj rfl _ _ rfl w.heap.size _ _ R.length Nf _ Yf rfl rfl HS2.out HX2.out hN0 (by omega) HB2.out.size ?_; intro x3 w3 hown hgrow hblk; have HS3 : Hid (w3.ownsRow w.heap.size 3 1 x3 (R ++ (List.range Nf).map Yf).length (ils (lf (R ++ (List.range Nf).map Yf)) (R ++ (List.range Nf).map Yf).length)) := (by rw [List.length_append, List.length_map, List.length_range, ← il_cat]; exact hown); have HB3 : Hid (Below w.heap.size w w3) := grown_below HB2.out (Nat.le_refl _) HS2.out hgrow; clear hown hgrow hblk))
          go_roundw
          case rel => exact ⟨X, l, k + 1, R ++ (List.range Nf).map Yf, rfl, rfl, by go_num, by omega, by omega, by omega, by rw [List.length_append, List.length_map, List.length_range]; omega, HN.out, HS3.out, HB3.out⟩
          case measure => simp [intOf]; omega
        · have hc1 : ¬ ((C : Int) = 0) := by omega
          have HN : Hid (M.1 = R ++ (mnd n y (n - (a + 1)) (a + 1) k).1 ∧ M.2 = (l + 1) + (mnd n y (n - (a + 1)) (a + 1) k).2) := by
            have h9 := hM.out
            rw [mnd_no hlt (fun h8 => hc0 (by rw [hC]; exact h8.1))] at h9
            exact ⟨h9.1, by rw [h9.2]; show l + ((mnd n y (n - (a + 1)) (a + 1) k).2 + 1) = _; omega⟩
          clear hNf hYf hX hC hM
          go_wp2_with (first
            | (go_at_call 27; refine (HOA.out _ _ (keepc HB.out HG.out) (HV.out.below HB.out)).mono ?_; rintro e w2 ⟨x2, rfl, hown, hb⟩; obtain ⟨xa, xc, hx9⟩ := own_slice3 hown; subst hx9; have HX2 : Hid (Il w2 (.slice xa Nf xc) Nf Yf) := il_of_own hown; have HS2 : Hid _ := own_below HS.out hb; have HB2 : Hid (Below w.heap.size w w2) := bstep HB.out hb; clear hown hb))
          go_roundw
          case rel => exact ⟨a + 1, l + 1, k, R, by go_num, by go_num, rfl, by omega, by omega, by omega, hR, HN.out, HS2.out, HB2.out⟩
          case measure => simp [intOf]; omega
      · have HF : Hid (M.1 = R ∧ M.2 = l + (n - a)) := by
          have h9 := hM.out
          rw [mnd_full (by omega) (n - a) a (Nat.le_refl _), List.append_nil] at h9
          exact h9
        obtain ⟨q, hq⟩ : ∃ q, q = l + (n - a) := ⟨_, rfl⟩
        have e9 : (l : Int) + (n : Int) - (a : Int) = (q : Int) := by omega
        clear hM
        go_wp2
        go_ret2
        rw [HF.out.1, HF.out.2, ← hq]
        exact ⟨_, by first | rfl | (rw [show (q : Int) = (l : Int) + ((n - a : Nat) : Int) by omega]; rfl), HS.out, HB.out⟩
    · have HF : Hid (M.1 = R ∧ M.2 = l) := by
        have h9 := hM.out
        rw [mnd_end hlt, List.append_nil] at h9
        exact h9
      obtain rfl : a = n := by omega
      have e9 : (l : Int) + (a : Int) - (a : Int) = (l : Int) := by omega
      clear hM
      go_wp2
      go_ret2
      rw [HF.out.1, HF.out.2]
      exact ⟨_, by first | rfl | (rw [show (l : Int) = (l : Int) + ((a - a : Nat) : Int) by omega]; rfl), HS.out, HB.out⟩
end Go.Proofs.YtndagpompioooaaDoor

namespace Go.Proofs.YtndagpompioooaaDoor
open Go.RowKit

theorem iOA_big {w : World} {v : Value} {n : Nat} {y : Nat → Int} (hv : Bl w v n y) (hn : 20000 < n) : Calls Tryd.prog 21 #[v] w fun e w' => Poa w w' e [] [] 1 := by
  have e9 : decide ((20000 : Int) < (n : Int)) = true := decide_eq_true (by omega)
  have e8 : (20000 : Int) < (n : Int) := by omega
  obtain ⟨ao, cap, rfl, hcap, hc⟩ := hv
  clear hc hn
  have hs1 : (w.alloc (.cells #[] 3)).heap.size = w.heap.size + 1 := Array.size_push _
  have HS : Hid (((w.alloc (.cells #[] 3)).alloc (.cells #[] 3)).ownsRow w.heap.size 3 1 (.slice (some ⟨w.heap.size, 0, none⟩) 0 0) 0 []) := own_below (own_empty w 3 1) (below_one _ _)
  have HP : Hid (((w.alloc (.cells #[] 3)).alloc (.cells #[] 3)).ownsRow w.heap.size 3 1 (.slice (some ⟨w.heap.size + 1, 0, none⟩) 0 0) 0 []) := by
    have h9 := own_base (B' := w.heap.size) (own_empty (w.alloc (.cells #[] 3)) 3 1) (by omega)
    rw [hs1] at h9
    exact h9
  have HA : Hid (Apart (.slice (some ⟨w.heap.size, 0, none⟩) 0 0) (.slice (some ⟨w.heap.size + 1, 0, none⟩) 0 0)) := .inr (by simp [Value.ownBlock])
  have HB : Hid (Below w.heap.size w ((w.alloc (.cells #[] 3)).alloc (.cells #[] 3))) := bstep (below_one _ _) (below_one _ _)
  clear hs1
  go_enter Tryd.func21, Tryd.ntmps21
  go_wp2
  go_ret3
  exact ⟨_, _, rfl, HS.out, HP.out, HA.out, HB.out⟩

theorem iMd_big {w : World} {v : Value} {n : Nat} {y : Nat → Int} (hv : Bl w v n y) (hn : 20000 < n) : Calls Tryd.prog 22 #[v] w fun e w' => Pmd w w' e [] 0 := by
  have e9 : decide ((20000 : Int) < (n : Int)) = true := decide_eq_true (by omega)
  have e8 : (20000 : Int) < (n : Int) := by omega
  obtain ⟨ao, cap, rfl, hcap, hc⟩ := hv
  clear hc hn
  have OW : Hid ((w.alloc (.cells #[] 3)).ownsRow w.heap.size 3 1 (.slice (some ⟨w.heap.size, 0, none⟩) 0 0) 0 []) := own_empty w 3 1
  have BL : Hid (Below w.heap.size w (w.alloc (.cells #[] 3))) := below_one _ _
  go_enter Tryd.func22, Tryd.ntmps22
  go_wp2
  go_ret2
  exact ⟨_, rfl, OW.out, BL.out⟩

set_option maxRecDepth 20000 in
set_option maxHeartbeats 16000000 in
theorem iSk_good {w : World} {v : Value} {n : Nat} {y : Nat → Int} (hg : Eg w) (hv : Bl w v n y) (hy : Byt n y) (hn : n ≤ 20000) {s pl ah : Int} (hyes : ∀ i, i < oT n y → (((osm n y i).length : Int) ≤ s ∧ s < ((osm n y (i + 1)).length : Int)) → pl = (oat n y i : Int) ∧ ah = ((osm n y i).length : Int)) (hno : (∀ i, i < oT n y → ¬ (((osm n y i).length : Int) ≤ s ∧ s < ((osm n y (i + 1)).length : Int))) → pl = -1 ∧ ah = 0) :
    Calls Tryd.prog 23 #[v, .int .i64 s] w fun e w' => e = .returned (.tuple #[.int .i64 pl, .int .i64 ah]) ∧ Below w.heap.size w w' := by
  have HV : Hid (Bl w v n y) := hv
  have HG : Hid (Eg w) := hg
  have HY : Hid (∀ i, i < oT n y → (((osm n y i).length : Int) ≤ s ∧ s < ((osm n y (i + 1)).length : Int)) → pl = (oat n y i : Int) ∧ ah = ((osm n y i).length : Int)) := hyes
  have HN : Hid ((∀ i, i < oT n y → ¬ (((osm n y i).length : Int) ≤ s ∧ s < ((osm n y (i + 1)).length : Int))) → pl = -1 ∧ ah = 0) := hno
  have HO : Hid (∀ W u, Eg W → Bl W u n y → Calls Tryd.prog 21 #[u] W fun e w' => Poa W w' e (osm n y (oT n y)) (opl n y (oT n y)) (oC n y)) := fun W u hg hu => iOA_good hg hu hy hn
  have HT : Hid (∀ i, i < oT n y → oat n y i < n ∧ (opn n y (oat n y i)).2.2.2 = 0) := (oT_told n y).2.2
  have hT6 := (oT_told n y).1
  have HOP : Hid (∀ a : Nat, a ≤ 20000 → ∀ W u, Eg W → Bl W u n y → Calls Tryd.prog 27 #[u, .int .i64 (a : Int)] W fun e w' => Pof W w' e (opn n y a).1 (opn n y a).2.1 ((opn n y a).2.2.1 : Int) ((opn n y a).2.2.2 : Int)) := opn_i hn hy
  have HBY : Hid (Byt n y) := hy
  obtain ⟨T, hT⟩ : ∃ T, T = oT n y := ⟨_, rfl⟩
  obtain ⟨CC, hCC⟩ : ∃ CC : Int, CC = (oC n y : Int) := ⟨_, rfl⟩
  obtain ⟨R, hR⟩ : ∃ R, R = osm n y (oT n y) := ⟨_, rfl⟩
  unfold Poa at HO
  rw [← hCC, ← hR] at HO
  rw [← hT] at HO HY HN HT hT6
  have hol := opl_len n y T
  rw [hol] at HO
  clear hyes hno hCC hR hol hT
  obtain ⟨ao, cap, rfl, hcap, hc⟩ := hv
  have HC : Hid (0 < n → ∃ b off, ao = some ⟨b, off, none⟩ ∧ b < w.heap.size ∧ ∀ k, k < n → w.cell? ⟨b, off + k, none⟩ = some (.int .u8 (y k))) := hc
  clear hc hy hg
  go_enter Tryd.func23, Tryd.ntmps23
  go_wp2_with (first
    | (go_at_call 21; refine (HO.out _ _ HG.out HV.out).mono ?_; rintro e w1 ⟨xr, xp, rfl, ho1, ho2, _, hb⟩; obtain ⟨ra, rc, hr9⟩ := own_slice3 ho1; subst hr9; obtain ⟨pa, pc, hp9⟩ := own_slice3 ho2; subst hp9; have HP : Hid (w1.ownsRow w.heap.size 3 1 (.slice pa T pc) T (ils (lf (opl n y T)) T)) := ho2; have HB : Hid (Below w.heap.size w w1) := hb; clear ho1 ho2 hb))
  go_loopw [9, 11, 12, 21] (fun av _ _ iv wr => ∃ q : Nat, iv = .int .i64 (q : Int) ∧ av = .int .i64 ((osm n y q).length : Int) ∧ q ≤ T ∧ Hid (∀ i, i < q → ¬ (((osm n y i).length : Int) ≤ s ∧ s < ((osm n y (i + 1)).length : Int))) ∧ Hid (wr.ownsRow w.heap.size 3 1 (.slice pa T pc) T (ils (lf (opl n y T)) T) ∧ Below w.heap.size w wr)) (fun av _ _ iv _ => T - (intOf iv).toNat)
  case atStart => exact ⟨0, rfl, rfl, by omega, fun i hi => absurd hi (Nat.not_lt_zero _), HP.out, HB.out⟩
  case round =>
    clear HP HB HO
    obtain ⟨q, rfl, rfl, hq, hnot, hrel⟩ := hrel
    have HP : Hid _ := hrel.out.1
    have HB : Hid (Below w.heap.size w _) := hrel.out.2
    by_cases h1 : q < T
    · obtain ⟨g, hg9⟩ : ∃ g, pa = some ⟨g, 0, none⟩ := by
        rcases HP.out.2 with ⟨_, h2⟩ | ⟨g, cap', cur, h2, _⟩
        · omega
        · injection h2 with h3
          exact ⟨g, h3⟩
      subst hg9
      have d0 := World.ownsRow.cellAt HP.out q (by omega)
      obtain ⟨a, ha⟩ : ∃ a, a = oat n y q := ⟨_, rfl⟩
      rw [ils_get h1, opl_at h1, ← ha] at d0
      obtain ⟨k0, kc⟩ := HT.out q h1
      rw [← ha] at k0 kc
      obtain ⟨k1, k2, k3, k4⟩ := opn_yes kc
      obtain ⟨m, hm⟩ : ∃ m : Nat, y (a + 1) = (m : Int) := ⟨(y (a + 1)).toNat, by have := HBY.out (a + 1) (by omega); omega⟩
      have hm8 : m < 256 := by have := HBY.out (a + 1) (by omega); omega
      have k3' : (opn n y a).1 = m + 1 := by rw [k3, hm]; omega
      obtain ⟨A, hA⟩ : ∃ A, A = (osm n y q).length := ⟨_, rfl⟩
      have hA2 : (osm n y (q + 1)).length = A + (m + 1) := by rw [osm_len, ← ha, k3', hA]
      have hAl : A ≤ 7680 := by have := osm_le (n := n) (y := y) q; omega
      have HYQ : Hid ((A : Int) ≤ s ∧ s < (A : Int) + (m : Int) + 1 → pl = (a : Int) ∧ ah = (A : Int)) := fun h9 => by
        have h8 := HY.out q h1 (by rw [hA2, ← hA]; omega)
        rw [← hA, ← ha] at h8
        exact h8
      have HNX : Hid (¬ ((A : Int) ≤ s ∧ s < (A : Int) + (m : Int) + 1) → ∀ i, i < q + 1 → ¬ (((osm n y i).length : Int) ≤ s ∧ s < ((osm n y (i + 1)).length : Int))) := fun h9 i hi => by
        by_cases h8 : i = q
        · subst h8
          rw [hA2, ← hA]
          omega
        · exact hnot.out i (by omega)
      have HX : Hid ((osm n y (q + 1)).length = A + (m + 1)) := hA2
      rw [← hA]
      have HA9 : Hid (A = (osm n y q).length) := hA
      obtain ⟨b, off, rfl, hlt, hcell⟩ := HC.out (by omega)
      have d1 := (HB.out.cell (p := ⟨b, off + (a + 1), none⟩) hlt).trans (hcell (a + 1) (by omega))
      rw [hm] at d1
      clear hcell
      clear k3 k3' hA2 ha kc hA
      by_cases hin : (A : Int) ≤ s
      · by_cases hin2 : s < (A : Int) + (m : Int) + 1
        · obtain ⟨e1, e2⟩ := HYQ.out ⟨hin, hin2⟩
          have HE : Hid (pl = (a : Int) ∧ ah = (A : Int)) := ⟨e1, e2⟩
          clear e1 e2 hnot hrel hm
          go_wp2_with (first | (go_quiet (fail)))
          go_ret2
          rw [HE.out.1, HE.out.2]
          exact ⟨rfl, HB.out⟩
        · have HN1 : Hid (∀ i, i < q + 1 → ¬ (((osm n y i).length : Int) ≤ s ∧ s < ((osm n y (i + 1)).length : Int))) := HNX.out (fun h9 => hin2 h9.2)
          clear hnot hrel hm
          go_wp2_with (first | (go_quiet (fail)))
          go_roundw
          case rel => exact ⟨q + 1, by go_num, by rw [HX.out]; go_num, by omega, HN1.out, HP.out, HB.out⟩
          case measure => simp [intOf]; omega
      · have HN1 : Hid (∀ i, i < q + 1 → ¬ (((osm n y i).length : Int) ≤ s ∧ s < ((osm n y (i + 1)).length : Int))) := HNX.out (fun h9 => hin h9.1)
        clear hnot hrel hm
        go_wp2_with (first | (go_quiet (fail)))
        go_roundw
        case rel => exact ⟨q + 1, by go_num, by rw [HX.out]; go_num, by omega, HN1.out, HP.out, HB.out⟩
        case measure => simp [intOf]; omega
    · obtain rfl : q = T := by omega
      obtain ⟨e1, e2⟩ := HN.out hnot.out
      have HE : Hid (pl = -1 ∧ ah = 0) := ⟨e1, e2⟩
      clear e1 e2 hnot hrel
      go_wp2_with (first | (go_quiet (fail)))
      go_ret2
      rw [HE.out.1, HE.out.2]
      exact ⟨rfl, HB.out⟩

theorem iSk_big {w : World} {v : Value} {n : Nat} {y : Nat → Int} (hv : Bl w v n y) (hn : 20000 < n) (s : Int) : Calls Tryd.prog 23 #[v, .int .i64 s] w fun e w' => e = .returned (.tuple #[.int .i64 (-1), .int .i64 0]) ∧ Below w.heap.size w w' := by
  have HO : Hid (Calls Tryd.prog 21 #[v] w fun e w' => Poa w w' e [] [] 1) := iOA_big hv hn
  obtain ⟨ao, cap, rfl, hcap, hc⟩ := hv
  clear hc hn
  go_enter Tryd.func23, Tryd.ntmps23
  go_wp2_with (first
    | (go_at_call 21; refine HO.out.mono ?_; rintro e w1 ⟨xr, xp, rfl, ho1, ho2, _, hb⟩; obtain ⟨ra, rc, hr9⟩ := own_slice3 ho1; subst hr9; obtain ⟨pa, pc, hp9⟩ := own_slice3 ho2; subst hp9; have HB : Hid (Below w.heap.size w w1) := hb; clear ho1 ho2 hb))
  go_loopw [9, 11, 12, 21] (fun av _ _ iv wr => iv = .int .i64 0 ∧ wr = w1) (fun av _ _ iv _ => 0)
  case atStart => exact ⟨rfl, rfl⟩
  case round =>
    obtain ⟨rfl, rfl⟩ := hrel
    go_wp2
    go_ret2
    exact ⟨rfl, HB.out⟩
end Go.Proofs.YtndagpompioooaaDoor

namespace Go.Proofs.YtndagpompioooaaDoor
open Go.RowKit

/-- Block t: how long it is, and what it is. -/
def pcn (n s t : Nat) : Nat := min (t * s + s) n - t * s
def pcx (s : Nat) (xs : Nat → Int) (t : Nat) (j : Nat) : Int := xs (t * s + j)

/-- The bytes of the first t frames. -/
def pal (n s : Nat) (xs : Nat → Int) : Nat → List Int
  | 0 => []
  | t + 1 => pal n s xs t ++ (List.range (fN (pcn n s t) (pcx s xs t))).map (fY (pcn n s t) (pcx s xs t))

theorem pal_len (n s : Nat) (xs : Nat → Int) (t : Nat) : (pal n s xs (t + 1)).length = (pal n s xs t).length + fN (pcn n s t) (pcx s xs t) := by
  show (pal n s xs t ++ _).length = _
  rw [List.length_append, List.length_map, List.length_range]

theorem pal_mono (n s : Nat) (xs : Nat → Int) {t u : Nat} (h : t ≤ u) : (pal n s xs t).length ≤ (pal n s xs u).length := by
  induction u with
  | zero => obtain rfl : t = 0 := by omega
            exact Nat.le_refl _
  | succ u ih =>
    by_cases h1 : t = u + 1
    · subst h1; exact Nat.le_refl _
    · rw [pal_len]
      exact Nat.le_trans (ih (by omega)) (Nat.le_add_right _ _)

/-- A row put behind one that is a list. -/
theorem bl_cat (L : List Int) (g : Nat → Int) (m : Nat) : bls (lf L) L.length ++ bls g m = bls (lf (L ++ (List.range m).map g)) (L.length + m) := by
  apply List.ext_getElem?
  intro i
  by_cases h : i < L.length
  · rw [List.getElem?_append_left (by rw [bls_length]; exact h), bls_get h, bls_get (by omega), lf_left h]
  · rw [List.getElem?_append_right (by rw [bls_length]; omega), bls_length]
    by_cases h2 : i < L.length + m
    · rw [bls_get (by omega), bls_get h2, lf_right (by omega)]
      unfold lf
      rw [List.getD_eq_getElem?_getD, List.getElem?_map, List.getElem?_range (by omega)]
      rfl
    · rw [List.getElem?_eq_none (by rw [bls_length]; omega), List.getElem?_eq_none (by rw [bls_length]; omega)]

/-- What PackAll asks of all its blocks. -/
abbrev Pgd (n s P : Nat) (xs : Nat → Int) : Prop := (∀ t, t < P → fok (pcn n s t) (pcx s xs t) = true) ∧ (pal n s xs P).length ≤ 20000
end Go.Proofs.YtndagpompioooaaDoor

namespace Go.Proofs.YtndagpompioooaaDoor
open Go.RowKit

theorem pal_more (n s : Nat) (xs : Nat → Int) (t d : Nat) : ∃ S, pal n s xs (t + d) = pal n s xs t ++ S := by
  induction d with
  | zero => exact ⟨[], (List.append_nil _).symm⟩
  | succ d ih =>
    obtain ⟨S, hS⟩ := ih
    exact ⟨S ++ (List.range (fN (pcn n s (t + d)) (pcx s xs (t + d)))).map (fY (pcn n s (t + d)) (pcx s xs (t + d))), by rw [← Nat.add_assoc, pal, hS, List.append_assoc]⟩

/-- Where the bytes of the frame t stand. -/
theorem pal_at {n s P t : Nat} {xs : Nat → Int} (ht : t < P) {k : Nat} (hk : k < fN (pcn n s t) (pcx s xs t)) : lf (pal n s xs P) ((pal n s xs t).length + k) = fY (pcn n s t) (pcx s xs t) k := by
  obtain ⟨S, hS⟩ := pal_more n s xs (t + 1) (P - (t + 1))
  rw [show t + 1 + (P - (t + 1)) = P by omega, pal] at hS
  rw [hS, List.append_assoc, lf_right (by omega), lf_left (by rw [List.length_map, List.length_range]; omega), show (pal n s xs t).length + k - (pal n s xs t).length = k by omega]
  unfold lf
  rw [List.getD_eq_getElem?_getD, List.getElem?_map, List.getElem?_range hk]
  rfl

theorem fN_pos {n : Nat} {xs : Nat → Int} (h : fok n xs = true) : 5 ≤ fN n xs := by
  obtain ⟨_, _, o, k, C, _, _, _, _, _, e, _⟩ := fok_told h
  omega

theorem range_cat (f : Nat → Int) (a b : Nat) : (List.range (a + b)).map f = (List.range a).map f ++ (List.range b).map (fun k => f (a + k)) := by
  induction b with
  | zero => rw [Nat.add_zero]; exact (List.append_nil _).symm
  | succ b ih => rw [← Nat.add_assoc, List.range_succ, List.map_append, ih, List.range_succ, List.map_append, List.append_assoc]; rfl

theorem map_congr9 {f g : Nat → Int} (m : Nat) (h : ∀ k, k < m → f k = g k) : (List.range m).map f = (List.range m).map g := by
  apply List.map_congr_left
  intro k hk
  exact h k (List.mem_range.1 hk)

section
variable {n s P M : Nat} {xs : Nat → Int}

/-- A file that is cut at M: its whole frames are opened. -/
theorem cut_opn (hG : ∀ t, t < P → fok (pcn n s t) (pcx s xs t) = true) {t : Nat} (ht : t < P) (hM : (pal n s xs (t + 1)).length ≤ M) :
    (opn M (lf (pal n s xs P)) (pal n s xs t).length).2.2.2 = 0 ∧ (opn M (lf (pal n s xs P)) (pal n s xs t).length).1 = pcn n s t ∧ (∀ k, k < pcn n s t → (opn M (lf (pal n s xs P)) (pal n s xs t).length).2.1 k = pcx s xs t k) ∧ (opn M (lf (pal n s xs P)) (pal n s xs t).length).2.2.1 = (pal n s xs (t + 1)).length := by
  rw [pal_len] at hM ⊢
  exact opn_back (hG t ht) hM (fun k hk => pal_at ht hk)

theorem cut_oat (hG : ∀ t, t < P → fok (pcn n s t) (pcx s xs t) = true) (t : Nat) (ht : t ≤ P) (hM : (pal n s xs t).length ≤ M) : oat M (lf (pal n s xs P)) t = (pal n s xs t).length := by
  induction t with
  | zero => rfl
  | succ t ih =>
    have h1 := ih (by omega) (Nat.le_trans (pal_mono n s xs (Nat.le_succ t)) hM)
    rw [oat, h1]
    exact (cut_opn hG (by omega) hM).2.2.2

theorem cut_osm (hG : ∀ t, t < P → fok (pcn n s t) (pcx s xs t) = true) (hPn : ∀ t, t < P ↔ t * s < n) (t : Nat) (ht : t ≤ P) (hM : (pal n s xs t).length ≤ M) : osm M (lf (pal n s xs P)) t = (List.range (min (t * s) n)).map xs := by
  induction t with
  | zero => rw [Nat.zero_mul, Nat.zero_min]; rfl
  | succ t ih =>
    have h0 := Nat.le_trans (pal_mono n s xs (Nat.le_succ t)) hM
    have h1 := ih (by omega) h0
    have h2 := cut_opn hG (show t < P by omega) hM
    have h3 := cut_oat (M := M) hG t (by omega) h0
    have h4 := (hPn t).1 (by omega)
    rw [osm, h1, h3, h2.2.1, map_congr9 _ h2.2.2.1, show min (t * s) n = t * s by omega]
    have h5 := range_cat xs (t * s) (pcn n s t)
    have h6 : t * s + pcn n s t = min ((t + 1) * s) n := by unfold pcn; rw [Nat.add_mul, Nat.one_mul]; omega
    rw [h6] at h5
    rw [h5]
    rfl

theorem cut_len (hG : ∀ t, t < P → fok (pcn n s t) (pcx s xs t) = true) (hPn : ∀ t, t < P ↔ t * s < n) (t : Nat) (ht : t ≤ P) (hM : (pal n s xs t).length ≤ M) : (osm M (lf (pal n s xs P)) t).length = min (t * s) n := by
  rw [cut_osm hG hPn t ht hM, List.length_map, List.length_range]

/-- Frame by frame to the last one that is whole. -/
theorem cut_otot (hG : ∀ t, t < P → fok (pcn n s t) (pcx s xs t) = true) {q : Nat} (hq : q ≤ P) (hM : (pal n s xs q).length ≤ M) (f : Nat) : ∀ t, t + f = q → ∀ g, otot M (lf (pal n s xs P)) (f + g) t = otot M (lf (pal n s xs P)) g q := by
  induction f with
  | zero => intro t ht g; rw [Nat.zero_add, ← ht, Nat.add_zero]
  | succ f ih =>
    intro t ht g
    have h1 := Nat.le_trans (pal_mono n s xs (show t + 1 ≤ q by omega)) hM
    have h2 := cut_opn hG (show t < P by omega) h1
    have h3 := cut_oat (M := M) hG t (by omega) (Nat.le_trans (pal_mono n s xs (Nat.le_succ t)) h1)
    have h4 := fN_pos (hG t (by omega))
    rw [pal_len] at h1
    rw [show f + 1 + g = (f + g) + 1 by omega, otot_step (by rw [h3]; omega) (by rw [h3]; exact h2.1)]
    exact ih (t + 1) (by omega) g

/-- The whole file: how many frames are read. -/
theorem whole_tot (hG : ∀ t, t < P → fok (pcn n s t) (pcx s xs t) = true) (hM : M = (pal n s xs P).length) : (oT M (lf (pal n s xs P)) = min P 60) ∧ (oC M (lf (pal n s xs P)) = if P ≤ 60 then 0 else 5) := by
  have h0 : (pal n s xs (min P 60)).length ≤ M := by rw [hM]; exact pal_mono n s xs (by omega)
  have h1 := cut_otot (M := M) hG (show min P 60 ≤ P by omega) h0 (min P 60) 0 (by omega) (60 - min P 60)
  rw [show min P 60 + (60 - min P 60) = 60 by omega] at h1
  have h2 := cut_oat (M := M) hG (min P 60) (by omega) h0
  by_cases c : P ≤ 60
  · have e : min P 60 = P := by omega
    rw [e] at h1 h2 ⊢
    have h1 := h1.trans (otot_end (by rw [h2]; omega))
    unfold oT oC
    rw [h1, if_pos c]
    exact ⟨rfl, rfl⟩
  · have e : min P 60 = 60 := by omega
    rw [e] at h1 h2 ⊢
    have h4 := fN_pos (hG 60 (by omega))
    have h5 := pal_mono n s xs (show 60 + 1 ≤ P by omega)
    rw [pal_len] at h5
    rw [Nat.sub_self] at h1
    have h1 := h1.trans (otot_form (by rw [h2]; omega))
    unfold oT oC
    rw [h1, if_neg c]
    exact ⟨rfl, rfl⟩

/-- A file that is cut: how many frames are read, and the code. -/
theorem cut_tot (hG : ∀ t, t < P → fok (pcn n s t) (pcx s xs t) = true) (hP : P ≤ 59) {q : Nat} (hq : q < P) (h1 : (pal n s xs q).length ≤ M) (h2 : M < (pal n s xs (q + 1)).length) : oT M (lf (pal n s xs P)) = q ∧ (oC M (lf (pal n s xs P)) = 0 → (pal n s xs q).length = M) := by
  have h3 := cut_otot (M := M) hG (show q ≤ P by omega) h1 q 0 (by omega) (60 - q)
  rw [show q + (60 - q) = 60 by omega] at h3
  have h4 := cut_oat (M := M) hG q (by omega) h1
  by_cases c : (pal n s xs q).length = M
  · have h3 := h3.trans (otot_end (by rw [h4]; omega))
    unfold oT oC
    rw [h3]
    exact ⟨rfl, fun _ => c⟩
  · have h5 : (opn M (lf (pal n s xs P)) (pal n s xs q).length).2.2.2 ≠ 0 := opn_cut (hG q hq) (by rw [← pal_len]; exact h2) (fun k hk _ => pal_at hq hk)
    rw [show 60 - q = (60 - (q + 1)) + 1 by omega] at h3
    have h3 := h3.trans (otot_stop (by rw [h4]; omega) (by rw [h4]; exact h5))
    unfold oT oC
    rw [h3, h4]
    exact ⟨rfl, fun h9 => absurd h9 h5⟩

/-- Nothing of a whole file is passed over. -/
theorem whole_mnd (hG : ∀ t, t < P → fok (pcn n s t) (pcx s xs t) = true) (hM : M = (pal n s xs P).length) (hP : P ≤ 60) (d : Nat) : ∀ t, t + d = P → osm M (lf (pal n s xs P)) t ++ (mnd M (lf (pal n s xs P)) (M - oat M (lf (pal n s xs P)) t) (oat M (lf (pal n s xs P)) t) t).1 = osm M (lf (pal n s xs P)) P ∧ (mnd M (lf (pal n s xs P)) (M - oat M (lf (pal n s xs P)) t) (oat M (lf (pal n s xs P)) t) t).2 = 0 := by
  induction d with
  | zero =>
    intro t ht
    obtain rfl : t = P := by omega
    have h1 := cut_oat (M := M) hG t (Nat.le_refl _) (Nat.le_of_eq hM.symm)
    rw [mnd_end (by rw [h1]; omega)]
    exact ⟨List.append_nil _, rfl⟩
  | succ d ih =>
    intro t ht
    have h0 := pal_mono n s xs (show t + 1 ≤ P by omega)
    have h1 : (pal n s xs (t + 1)).length ≤ M := by omega
    have h2 := cut_opn hG (show t < P by omega) h1
    have h3 := cut_oat (M := M) hG t (by omega) (Nat.le_trans (pal_mono n s xs (Nat.le_succ t)) h1)
    have h4 := fN_pos (hG t (by omega))
    rw [pal_len] at h1
    have h5 := ih (t + 1) (by omega)
    rw [osm, oat] at h5
    rw [mnd_yes (by rw [h3]; omega) (by rw [h3]; exact h2.1) (by omega)]
    exact ⟨by rw [← List.append_assoc]; exact h5.1, h5.2⟩

theorem whole_mend (hG : ∀ t, t < P → fok (pcn n s t) (pcx s xs t) = true) (hM : M = (pal n s xs P).length) (hP : P ≤ 60) : (mnd M (lf (pal n s xs P)) M 0 0).1 = osm M (lf (pal n s xs P)) P ∧ (mnd M (lf (pal n s xs P)) M 0 0).2 = 0 := by
  have h := whole_mnd hG hM hP P 0 (by omega)
  exact h
end

theorem blocks_lt {n s P : Nat} (hs : 1 ≤ s) (hP : P = (n + s - 1) / s) : ∀ t, t < P ↔ t * s < n := fun t => by
  rw [hP]
  constructor
  · intro h9
    have h8 : (t + 1) * s ≤ n + s - 1 := Nat.le_trans (Nat.mul_le_mul_right s h9) (Nat.div_mul_le_self _ _)
    rw [Nat.add_mul, Nat.one_mul] at h8
    omega
  · intro h9
    refine (Nat.le_div_iff_mul_le (by omega)).2 ?_
    have h8 : (t + 1) * s = t * s + s := by rw [Nat.add_mul, Nat.one_mul]
    show (t + 1) * s ≤ n + s - 1
    omega
end Go.Proofs.YtndagpompioooaaDoor

namespace Go.Proofs.YtndagpompioooaaDoor
open Go.RowKit

set_option maxRecDepth 20000 in
set_option maxHeartbeats 16000000 in
theorem iAll_good {w : World} {v : Value} {n : Nat} {xs : Nat → Int} (hv : Il w v n xs) (h : Sig n xs) {s : Nat} (hs : 1 ≤ s ∧ s ≤ 128) {P : Nat} (hP : P = (n + s - 1) / s) (A : Bool) (hA : A = decide (Pgd n s P xs)) (N : Nat) (hN : N = if A = true then (pal n s xs P).length else 0) :
    Calls Tryd.prog 18 #[v, .int .i64 (s : Int)] w fun e w' => Psb w w' e N (lf (pal n s xs P)) A := by
  have h5 := h.1
  have HBT : Hid (∀ k, k < n → Smp (xs k)) := h.2
  have HA : Hid (A = decide (Pgd n s P xs)) := hA
  have HN : Hid (N = if A = true then (pal n s xs P).length else 0) := hN
  have HLN : Hid (∀ t, (pal n s xs t).length ≤ t * 12600) := fun t => by
    induction t with
    | zero => exact Nat.zero_le _
    | succ t ih =>
      rw [pal_len]
      have h9 := (frame_told (n := pcn n s t) (xs := pcx s xs t) (by unfold pcn; omega)).1
      omega
  have hPn : ∀ t, t < P ↔ t * s < n := fun t => by
    rw [hP]
    constructor
    · intro h9
      have h8 : (t + 1) * s ≤ n + s - 1 := Nat.le_trans (Nat.mul_le_mul_right s h9) (Nat.div_mul_le_self _ _)
      rw [Nat.add_mul, Nat.one_mul] at h8
      omega
    · intro h9
      refine (Nat.le_div_iff_mul_le (by omega)).2 ?_
      have h8 : (t + 1) * s = t * s + s := by rw [Nat.add_mul, Nat.one_mul]
      show (t + 1) * s ≤ n + s - 1
      omega
  have i1 := iSig_any hv (by omega)
  rw [decide_eq_true h] at i1
  have i2 := size_any (s : Int)
  rw [decide_eq_true (by omega)] at i2
  have i3 := pieces_any (n := n) (r := s) (q := P) (by omega) (by omega) (by omega) hP
  have hPb : P ≤ n := by
    rcases Nat.eq_zero_or_pos P with h0 | h0
    · omega
    · have h7 := (hPn (P - 1)).1 (by omega)
      have h6 : P - 1 ≤ (P - 1) * s := Nat.le_mul_of_pos_right _ (by omega)
      omega
  have HPN : Hid (∀ t, t < P ↔ t * s < n) := hPn
  have OW : Hid ((w.alloc (.cells #[] 5)).ownsRow w.heap.size 5 1 (.slice (some ⟨w.heap.size, 0, none⟩) 0 0) 0 []) := own_empty w 5 1
  have BL : Hid (Below w.heap.size w (w.alloc (.cells #[] 5))) := below_one _ _
  obtain ⟨ao, cap, rfl, hcap, hc⟩ := hv
  have HC : Hid (0 < n → ∃ b off, ao = some ⟨b, off, none⟩ ∧ b < w.heap.size ∧ ∀ k, k < n → w.cell? ⟨b, off + k, none⟩ = some (.int .i64 (xs k))) := hc
  clear hc h hA hN hP hPn
  go_enter Tryd.func18, Tryd.ntmps18
  go_wp2_with (first | (go_at_call 55; (with_reducible refine (i1).mono ?_); rintro e w' ⟨rfl, hw⟩; obtain rfl := hw.symm) | (go_at_call 56; (with_reducible refine (i2 _).mono ?_); rintro e w' ⟨rfl, hw⟩; obtain rfl := hw.symm) | (go_at_call 57; (with_reducible refine (i3 _).mono ?_); rintro e w' ⟨rfl, hw⟩; obtain rfl := hw.symm))
  clear i1 i2 i3
  generalize w.alloc (.cells #[] 5) = W at *
  go_loopw [6, 7, 8, 9, 24] (fun q _ _ _ iv wr => ∃ (t : Nat) (R : List Int), iv = .int .i64 t ∧ t ≤ P ∧ R.length ≤ 20000 ∧ Hid (R = pal n s xs t ∧ wr.ownsRow w.heap.size 5 1 q R.length (bls (lf R) R.length) ∧ Below w.heap.size w wr ∧ ∀ u, u < t → fok (pcn n s u) (pcx s xs u) = true)) (fun _ _ _ _ iv _ => P - (intOf iv).toNat)
  case atStart => exact ⟨0, [], rfl, by omega, Nat.zero_le _, rfl, OW.out, BL.out, fun u hu => absurd hu (Nat.not_lt_zero _)⟩
  case round =>
    clear OW BL
    obtain ⟨t, R, rfl, ht, hR, hrel⟩ := hrel
    by_cases h1 : t < P
    · have hm9 := (HPN.out t).1 h1
      obtain ⟨b, off, rfl, hlt, hcell⟩ := HC.out (by omega)
      obtain ⟨m, hm⟩ : ∃ m : Nat, m = t * s := ⟨_, rfl⟩
      have e0 : (t : Int) * (s : Int) = (m : Int) := by rw [hm, Int.natCast_mul]
      obtain ⟨m2, hm2⟩ : ∃ m2 : Nat, m2 = m + s := ⟨_, rfl⟩
      have e1 : ((t : Int) + 1) * (s : Int) = (m2 : Int) := by rw [hm2, hm, Int.add_mul, Int.one_mul, Int.natCast_add, Int.natCast_mul]
      rw [← hm] at hm9
      have hmm : m ≤ m2 ∧ m2 ≤ 640 := by omega
      by_cases hE : m2 ≤ n
      · have hpc : pcn n s t = m2 - m := by unfold pcn; rw [← hm]; omega
        obtain ⟨hf1, hf2, hf3⟩ := frame_told (n := pcn n s t) (xs := pcx s xs t) (by unfold pcn; omega)
        have HIL : Hid (∀ c, m2 - m ≤ c → Il wr (.slice (some ⟨b, off + m, none⟩) (m2 - m) c) (m2 - m) (pcx s xs t)) := fun c hc => ⟨_, _, rfl, hc, fun _ => ⟨b, off + m, rfl, Nat.lt_of_lt_of_le hlt hrel.out.2.2.1.size, fun j hj => by
          have h9 := (hrel.out.2.2.1.cell (p := ⟨b, off + (m + j), none⟩) hlt).trans (hcell (m + j) (by omega))
          unfold pcx
          rw [← hm, Nat.add_assoc]
          exact h9⟩⟩
        have HF : Hid (∀ W u, Il W u (m2 - m) (pcx s xs t) → Calls Tryd.prog 20 #[u] W fun e w' => Psb W w' e (fN (pcn n s t) (pcx s xs t)) (fY (pcn n s t) (pcx s xs t)) (fok (pcn n s t) (pcx s xs t))) := by rw [hpc] at hf3 ⊢; exact hf3
        have HX : Hid (pal n s xs (t + 1) = R ++ (List.range (fN (pcn n s t) (pcx s xs t))).map (fY (pcn n s t) (pcx s xs t))) := by rw [hrel.out.1]; rfl
        have HO : Hid (wr.ownsRow w.heap.size 5 1 _ R.length (bls (lf R) R.length)) := hrel.out.2.1
        have HB : Hid (Below w.heap.size w wr) := hrel.out.2.2.1
        have HAL : Hid (∀ u, u < t → fok (pcn n s u) (pcx s xs u) = true) := hrel.out.2.2.2
        obtain ⟨qa, qc, hq9⟩ := own_sliceb HO.out
        subst hq9
        obtain ⟨Nf, hNf⟩ : ∃ Nf, Nf = fN (pcn n s t) (pcx s xs t) := ⟨_, rfl⟩
        obtain ⟨Yf, hYf⟩ : ∃ Yf, Yf = fY (pcn n s t) (pcx s xs t) := ⟨_, rfl⟩
        obtain ⟨Kf, hKf⟩ : ∃ Kf, Kf = fok (pcn n s t) (pcx s xs t) := ⟨_, rfl⟩
        rw [← hNf, ← hYf, ← hKf] at HF
        rw [← hNf, ← hYf] at HX
        rw [← hNf] at hf1
        have HK : Hid (Kf = fok (pcn n s t) (pcx s xs t)) := hKf
        have hl9 : (R ++ (List.range Nf).map Yf).length = R.length + Nf := by rw [List.length_append, List.length_map, List.length_range]
        clear hcell hrel hf2 hf3 hpc hNf hYf hKf hm hm2
        by_cases hk : Kf = true
        · subst hk
          by_cases hl : R.length + Nf ≤ 20000
          · go_wp2_with (first
              | (go_at_call 20; refine (HF.out _ _ (HIL.out _ (by omega))).mono ?_; rintro e w2 ⟨x2, rfl, hown, hb⟩; obtain ⟨xa, xc, hx9⟩ := own_sliceb hown; subst hx9; have HX2 : Hid (Bl w2 (.slice xa Nf xc) Nf Yf) := bl_of_own hown; have HO2 : Hid (w2.ownsRow w.heap.size 5 1 (.slice qa R.length qc) R.length (bls (lf R) R.length)) := own_below HO.out hb; have HB2 : Hid (Below w.heap.size w w2) := bstep HB.out hb; clear hown hb)
              | (at_builtin; refine wpList_appb rfl _ _ rfl w.heap.size _ _ R.length Nf _ Yf rfl rfl HO2.out HX2.out (by omega) HB2.out.size ?_; intro x3 w3 hown hgrow; have HO3 : Hid (w3.ownsRow w.heap.size 5 1 x3 (R ++ (List.range Nf).map Yf).length (bls (lf (R ++ (List.range Nf).map Yf)) (R ++ (List.range Nf).map Yf).length)) := (by rw [hl9, ← bl_cat]; exact hown); have HB3 : Hid (Below w.heap.size w w3) := grown_below HB2.out (Nat.le_refl _) HO2.out hgrow; clear hown hgrow))
            go_roundw
            case rel => exact ⟨t + 1, R ++ (List.range Nf).map Yf, by go_num, by omega, by omega, HX.out.symm, HO3.out, HB3.out, fun u hu => by
              by_cases hut : u = t
              · subst hut; exact HK.out.symm
              · exact HAL.out u (by omega)⟩
            case measure => simp [intOf]; omega
          · have hF : Hid (A = false) := by
              show A = false
              rw [HA.out]
              refine decide_eq_false (fun h9 => ?_)
              have h8 := pal_mono n s xs (show t + 1 ≤ P by omega)
              rw [HX.out, hl9] at h8
              have h7 := h9.2
              omega
            go_wp2_with (first
              | (go_at_call 20; refine (HF.out _ _ (HIL.out _ (by omega))).mono ?_; rintro e w2 ⟨x2, rfl, hown, hb⟩; obtain ⟨xa, xc, hx9⟩ := own_sliceb hown; subst hx9; have HX2 : Hid (Bl w2 (.slice xa Nf xc) Nf Yf) := bl_of_own hown; have HO2 : Hid (w2.ownsRow w.heap.size 5 1 (.slice qa R.length qc) R.length (bls (lf R) R.length)) := own_below HO.out hb; have HB2 : Hid (Below w.heap.size w w2) := bstep HB.out hb; clear hown hb))
            go_ret2
            rw [hF.out, show N = 0 by rw [HN.out, hF.out]; rfl]
            exact ⟨_, rfl, own_base (own_empty w2 5 1) HB2.out.size, bstep HB2.out (below_one _ _)⟩
        · have hk2 : Kf = false := by cases Kf <;> simp_all
          subst hk2
          have hF : Hid (A = false) := by
            show A = false
            rw [HA.out]
            refine decide_eq_false (fun h9 => ?_)
            have h8 := h9.1 t h1
            rw [← HK.out] at h8
            cases h8
          go_wp2_with (first
            | (go_at_call 20; refine (HF.out _ _ (HIL.out _ (by omega))).mono ?_; rintro e w2 ⟨x2, rfl, hown, hb⟩; obtain ⟨xa, xc, hx9⟩ := own_sliceb hown; subst hx9; have HX2 : Hid (Bl w2 (.slice xa Nf xc) Nf Yf) := bl_of_own hown; have HO2 : Hid (w2.ownsRow w.heap.size 5 1 (.slice qa R.length qc) R.length (bls (lf R) R.length)) := own_below HO.out hb; have HB2 : Hid (Below w.heap.size w w2) := bstep HB.out hb; clear hown hb))
          go_ret2
          rw [hF.out, show N = 0 by rw [HN.out, hF.out]; rfl]
          exact ⟨_, rfl, own_base (own_empty w2 5 1) HB2.out.size, bstep HB2.out (below_one _ _)⟩
      · have hpc : pcn n s t = n - m := by unfold pcn; rw [← hm]; omega
        obtain ⟨hf1, hf2, hf3⟩ := frame_told (n := pcn n s t) (xs := pcx s xs t) (by unfold pcn; omega)
        have HIL : Hid (∀ c, n - m ≤ c → Il wr (.slice (some ⟨b, off + m, none⟩) (n - m) c) (n - m) (pcx s xs t)) := fun c hc => ⟨_, _, rfl, hc, fun _ => ⟨b, off + m, rfl, Nat.lt_of_lt_of_le hlt hrel.out.2.2.1.size, fun j hj => by
          have h9 := (hrel.out.2.2.1.cell (p := ⟨b, off + (m + j), none⟩) hlt).trans (hcell (m + j) (by omega))
          unfold pcx
          rw [← hm, Nat.add_assoc]
          exact h9⟩⟩
        have HF : Hid (∀ W u, Il W u (n - m) (pcx s xs t) → Calls Tryd.prog 20 #[u] W fun e w' => Psb W w' e (fN (pcn n s t) (pcx s xs t)) (fY (pcn n s t) (pcx s xs t)) (fok (pcn n s t) (pcx s xs t))) := by rw [hpc] at hf3 ⊢; exact hf3
        have HX : Hid (pal n s xs (t + 1) = R ++ (List.range (fN (pcn n s t) (pcx s xs t))).map (fY (pcn n s t) (pcx s xs t))) := by rw [hrel.out.1]; rfl
        have HO : Hid (wr.ownsRow w.heap.size 5 1 _ R.length (bls (lf R) R.length)) := hrel.out.2.1
        have HB : Hid (Below w.heap.size w wr) := hrel.out.2.2.1
        have HAL : Hid (∀ u, u < t → fok (pcn n s u) (pcx s xs u) = true) := hrel.out.2.2.2
        obtain ⟨qa, qc, hq9⟩ := own_sliceb HO.out
        subst hq9
        obtain ⟨Nf, hNf⟩ : ∃ Nf, Nf = fN (pcn n s t) (pcx s xs t) := ⟨_, rfl⟩
        obtain ⟨Yf, hYf⟩ : ∃ Yf, Yf = fY (pcn n s t) (pcx s xs t) := ⟨_, rfl⟩
        obtain ⟨Kf, hKf⟩ : ∃ Kf, Kf = fok (pcn n s t) (pcx s xs t) := ⟨_, rfl⟩
        rw [← hNf, ← hYf, ← hKf] at HF
        rw [← hNf, ← hYf] at HX
        rw [← hNf] at hf1
        have HK : Hid (Kf = fok (pcn n s t) (pcx s xs t)) := hKf
        have hl9 : (R ++ (List.range Nf).map Yf).length = R.length + Nf := by rw [List.length_append, List.length_map, List.length_range]
        clear hcell hrel hf2 hf3 hpc hNf hYf hKf hm hm2
        by_cases hk : Kf = true
        · subst hk
          by_cases hl : R.length + Nf ≤ 20000
          · go_wp2_with (first
              | (go_at_call 20; refine (HF.out _ _ (HIL.out _ (by omega))).mono ?_; rintro e w2 ⟨x2, rfl, hown, hb⟩; obtain ⟨xa, xc, hx9⟩ := own_sliceb hown; subst hx9; have HX2 : Hid (Bl w2 (.slice xa Nf xc) Nf Yf) := bl_of_own hown; have HO2 : Hid (w2.ownsRow w.heap.size 5 1 (.slice qa R.length qc) R.length (bls (lf R) R.length)) := own_below HO.out hb; have HB2 : Hid (Below w.heap.size w w2) := bstep HB.out hb; clear hown hb)
              | (at_builtin; refine wpList_appb rfl _ _ rfl w.heap.size _ _ R.length Nf _ Yf rfl rfl HO2.out HX2.out (by omega) HB2.out.size ?_; intro x3 w3 hown hgrow; have HO3 : Hid (w3.ownsRow w.heap.size 5 1 x3 (R ++ (List.range Nf).map Yf).length (bls (lf (R ++ (List.range Nf).map Yf)) (R ++ (List.range Nf).map Yf).length)) := (by rw [hl9, ← bl_cat]; exact hown); have HB3 : Hid (Below w.heap.size w w3) := grown_below HB2.out (Nat.le_refl _) HO2.out hgrow; clear hown hgrow))
            go_roundw
            case rel => exact ⟨t + 1, R ++ (List.range Nf).map Yf, by go_num, by omega, by omega, HX.out.symm, HO3.out, HB3.out, fun u hu => by
              by_cases hut : u = t
              · subst hut; exact HK.out.symm
              · exact HAL.out u (by omega)⟩
            case measure => simp [intOf]; omega
          · have hF : Hid (A = false) := by
              show A = false
              rw [HA.out]
              refine decide_eq_false (fun h9 => ?_)
              have h8 := pal_mono n s xs (show t + 1 ≤ P by omega)
              rw [HX.out, hl9] at h8
              have h7 := h9.2
              omega
            go_wp2_with (first
              | (go_at_call 20; refine (HF.out _ _ (HIL.out _ (by omega))).mono ?_; rintro e w2 ⟨x2, rfl, hown, hb⟩; obtain ⟨xa, xc, hx9⟩ := own_sliceb hown; subst hx9; have HX2 : Hid (Bl w2 (.slice xa Nf xc) Nf Yf) := bl_of_own hown; have HO2 : Hid (w2.ownsRow w.heap.size 5 1 (.slice qa R.length qc) R.length (bls (lf R) R.length)) := own_below HO.out hb; have HB2 : Hid (Below w.heap.size w w2) := bstep HB.out hb; clear hown hb))
            go_ret2
            rw [hF.out, show N = 0 by rw [HN.out, hF.out]; rfl]
            exact ⟨_, rfl, own_base (own_empty w2 5 1) HB2.out.size, bstep HB2.out (below_one _ _)⟩
        · have hk2 : Kf = false := by cases Kf <;> simp_all
          subst hk2
          have hF : Hid (A = false) := by
            show A = false
            rw [HA.out]
            refine decide_eq_false (fun h9 => ?_)
            have h8 := h9.1 t h1
            rw [← HK.out] at h8
            cases h8
          go_wp2_with (first
            | (go_at_call 20; refine (HF.out _ _ (HIL.out _ (by omega))).mono ?_; rintro e w2 ⟨x2, rfl, hown, hb⟩; obtain ⟨xa, xc, hx9⟩ := own_sliceb hown; subst hx9; have HX2 : Hid (Bl w2 (.slice xa Nf xc) Nf Yf) := bl_of_own hown; have HO2 : Hid (w2.ownsRow w.heap.size 5 1 (.slice qa R.length qc) R.length (bls (lf R) R.length)) := own_below HO.out hb; have HB2 : Hid (Below w.heap.size w w2) := bstep HB.out hb; clear hown hb))
          go_ret2
          rw [hF.out, show N = 0 by rw [HN.out, hF.out]; rfl]
          exact ⟨_, rfl, own_base (own_empty w2 5 1) HB2.out.size, bstep HB2.out (below_one _ _)⟩
    · obtain rfl : t = P := by omega
      have hF : A = true := by rw [HA.out]; exact decide_eq_true ⟨hrel.out.2.2.2, by rw [← hrel.out.1]; exact hR⟩
      have hN : N = R.length := by rw [HN.out, hF, hrel.out.1]; rfl
      go_wp2
      go_ret2
      rw [hF, hN, ← hrel.out.1]
      exact ⟨_, rfl, hrel.out.2.1, hrel.out.2.2.1⟩
end Go.Proofs.YtndagpompioooaaDoor

namespace Go.Proofs.YtndagpompioooaaDoor
open Go.RowKit

theorem wpList_appc {w : World} {ops : Array Oper} {rest : List Oper} {o : Oper} {a : Act} {Q : Exit → Act → World → Prop} (hgd : o.guard = none) (s x : Operand)
    (ho : o.op = .call { callee := .builtin .append, args := #[s, x], argTypes := #[22, 22] }) (base : Nat) (v xv : Value) (n m : Nat) (xs : List Value) (ys : Nat → Int) (hs : a.eval s = v) (hx : a.eval x = xv)
    (hown : w.ownsRow base 5 1 v n xs) (hsrc : Bl w xv m ys) (hnm : n + m ≤ 16777216) (hbase : base ≤ w.heap.size)
    (h : ∀ v' w', w'.ownsRow base 5 1 v' (n + m) (xs ++ bls ys m) → w.grownBy w' v.ownBlock → wpList Tryd.prog ops Q rest (a.put o.dst v') w') : wpList Tryd.prog ops Q (o :: rest) a w := by
  obtain ⟨i0, hi, hz0, hz1, hz2⟩ := info_parts Tryd.info5
  obtain ⟨ao, cap, rfl, hcap, hc⟩ := hsrc
  by_cases hm : 0 < m
  · obtain ⟨b, off, rfl, hlt, hcell⟩ := hc hm
    refine wpList_append_own _ hgd s x 22 ho base 5 i0 (.int .u8 0) 1 1 Tryd.underlying22 hi hz0 hz1 hz2 rfl (by decide) v n xs hs hown ⟨b, off, none⟩ m cap (bls ys m) hx (by rw [bls_length, Nat.mul_one]) (fun j u hu => ?_) (bls_one _ _) (by unfold maxLen; omega) (by omega) hbase (fun v' w' h2 h3 _ => h v' w' h2 h3)
    by_cases hj : j < m
    · rw [bls_get hj] at hu
      have h6 := (hcell j hj).trans hu
      unfold Addr.add
      split
      · rename_i h7
        obtain rfl : j = 0 := by simpa using h7
        exact h6
      · exact h6
    · rw [List.getElem?_eq_none (by rw [bls_length]; omega)] at hu
      cases hu
  · obtain rfl : m = 0 := by omega
    cases ao with
    | none =>
      refine wpList_plain hgd fun K hK => ?_
      have hr := run_app_none (P := Tryd.prog) (w := w) base 22 o.type 5 i0 1 Tryd.underlying22 hi v n xs hown cap
      unfold Oper.wp execOp
      simp only [ho, resolve, invoke, builtin, Sem.run_bind, Sem.run_pure, Result.andThen_ok, List.map_toArray, List.map_cons, List.map_nil, hs, hx, hr]
      exact hK _ _ (h v w (by simpa [bls] using hown) (grown_refl _ _))
    | some ad => exact wpList_append_own _ hgd s x 22 ho base 5 i0 (.int .u8 0) 1 1 Tryd.underlying22 hi hz0 hz1 hz2 rfl (by decide) v n xs hs hown ad 0 cap (bls ys 0) hx (by rw [bls_length, Nat.mul_one]) (fun j u hu => by cases hu) (bls_one _ _) (by unfold maxLen; omega) (by omega) hbase (fun v' w' h2 h3 _ => h v' w' h2 h3)

theorem least_any {x y z : Nat} (hx : x ≤ 1048576) (hy : y ≤ 1048576) (hz : x < y ∧ z = x ∨ y ≤ x ∧ z = y) (w : World) : Calls Tryd.prog 60 #[.int .i64 (x : Int), .int .i64 (y : Int)] w fun e w' => e = .returned (.int .i64 (z : Int)) ∧ w' = w := by
  rcases hz with ⟨h, rfl⟩ | ⟨h, rfl⟩
  · go_enter Tryd.func60, Tryd.ntmps60
    go_wp2
    go_ret
    exact ⟨rfl, rfl⟩
  · go_enter Tryd.func60, Tryd.ntmps60
    go_wp2
    go_ret
    exact ⟨rfl, rfl⟩

set_option maxRecDepth 20000 in
set_option maxHeartbeats 16000000 in
theorem sAll_good {w : World} {v : Value} {n : Nat} {xs : Nat → Int} (hv : Il w v n xs) (h : Sig n xs) {s : Nat} (hs : 1 ≤ s ∧ s ≤ 128) {P : Nat} (hP : P = (n + s - 1) / s) (A : Bool) (hA : A = decide (Pgd n s P xs)) (N : Nat) (hN : N = if A = true then (pal n s xs P).length else 0) :
    Calls Tryd.prog 19 #[v, .int .i64 (s : Int)] w fun e w' => Psb w w' e N (lf (pal n s xs P)) A := by
  have h5 := h.1
  have HBT : Hid (∀ k, k < n → Smp (xs k)) := h.2
  have HA : Hid (A = decide (Pgd n s P xs)) := hA
  have HN : Hid (N = if A = true then (pal n s xs P).length else 0) := hN
  have HLN : Hid (∀ t, (pal n s xs t).length ≤ t * 12600) := fun t => by
    induction t with
    | zero => exact Nat.zero_le _
    | succ t ih =>
      rw [pal_len]
      have h9 := (frame_told (n := pcn n s t) (xs := pcx s xs t) (by unfold pcn; omega)).1
      omega
  have hPn : ∀ t, t < P ↔ t * s < n := fun t => by
    rw [hP]
    constructor
    · intro h9
      have h8 : (t + 1) * s ≤ n + s - 1 := Nat.le_trans (Nat.mul_le_mul_right s h9) (Nat.div_mul_le_self _ _)
      rw [Nat.add_mul, Nat.one_mul] at h8
      omega
    · intro h9
      refine (Nat.le_div_iff_mul_le (by omega)).2 ?_
      have h8 : (t + 1) * s = t * s + s := by rw [Nat.add_mul, Nat.one_mul]
      show (t + 1) * s ≤ n + s - 1
      omega
  have i1 := sSig_any (hv.below (below_one w (.cells #[] 5))) (by omega)
  rw [decide_eq_true h] at i1
  have i2 := in_any (s : Int) 1 128
  rw [decide_eq_true (by omega)] at i2
  have hPb : P ≤ n := by
    rcases Nat.eq_zero_or_pos P with h0 | h0
    · omega
    · have h7 := (hPn (P - 1)).1 (by omega)
      have h6 : P - 1 ≤ (P - 1) * s := Nat.le_mul_of_pos_right _ (by omega)
      omega
  have HPN : Hid (∀ t, t < P ↔ t * s < n) := hPn
  have OW : Hid ((w.alloc (.cells #[] 5)).ownsRow w.heap.size 5 1 (.slice (some ⟨w.heap.size, 0, none⟩) 0 0) 0 []) := own_empty w 5 1
  have BL : Hid (Below w.heap.size w (w.alloc (.cells #[] 5))) := below_one _ _
  obtain ⟨ao, cap, rfl, hcap, hc⟩ := hv
  have HC : Hid (0 < n → ∃ b off, ao = some ⟨b, off, none⟩ ∧ b < w.heap.size ∧ ∀ k, k < n → w.cell? ⟨b, off + k, none⟩ = some (.int .i64 (xs k))) := hc
  clear hc h hA hN hP hPn
  go_enter Tryd.func19, Tryd.ntmps19
  go_wp2_with (first | (go_at_call 58; (with_reducible refine (i1).mono ?_); rintro e w' ⟨rfl, hw⟩; obtain rfl := hw.symm) | (go_at_call 59; (with_reducible refine (i2 _).mono ?_); rintro e w' ⟨rfl, hw⟩; obtain rfl := hw.symm))
  clear i1 i2
  generalize w.alloc (.cells #[] 5) = W at *
  go_loopw [6, 7, 8, 9, 10] (fun q iv _ _ _ wr => ∃ (t m : Nat) (R : List Int), iv = .int .i64 (m : Int) ∧ t ≤ P ∧ m ≤ 640 ∧ Hid (m = t * s) ∧ Hid (R = pal n s xs t ∧ wr.ownsRow w.heap.size 5 1 q R.length (bls (lf R) R.length) ∧ Below w.heap.size w wr ∧ ∀ u, u < t → fok (pcn n s u) (pcx s xs u) = true)) (fun _ iv _ _ _ _ => n - (intOf iv).toNat)
  case atStart => exact ⟨0, 0, [], rfl, by omega, by omega, (Nat.zero_mul _).symm, rfl, OW.out, BL.out, fun u hu => absurd hu (Nat.not_lt_zero _)⟩
  case round =>
    clear OW BL
    obtain ⟨t, m, R, rfl, ht, hm6, hmq, hrel⟩ := hrel
    have hR : R.length ≤ t * 12600 := by rw [hrel.out.1]; exact HLN.out t
    have hm := hmq.out
    have ht5 : t ≤ 512 := by omega
    by_cases hm9 : m < n
    · have h1 : t < P := (HPN.out t).2 (by rw [← hm]; exact hm9)
      obtain ⟨b, off, rfl, hlt, hcell⟩ := HC.out (by omega)
      obtain ⟨m2, hm2⟩ : ∃ m2 : Nat, m2 = m + s := ⟨_, rfl⟩
      have e1 : (m : Int) + (s : Int) = (m2 : Int) := by omega
      have hmm : m ≤ m2 ∧ m2 ≤ 640 := by omega
      have hmm2 : m2 ≤ m + s ∧ m + s ≤ m2 := by omega
      by_cases hE : m2 < n
      · have hpc : pcn n s t = m2 - m := by unfold pcn; rw [← hm]; omega
        have il := least_any (x := m2) (y := n) (z := m2) (by omega) (by omega) (.inl ⟨hE, rfl⟩)
        obtain ⟨hf1, hf2, hf3⟩ := frame_told (n := pcn n s t) (xs := pcx s xs t) (by unfold pcn; omega)
        have HIL : Hid (∀ c, m2 - m ≤ c → Il wr (.slice (some ⟨b, off + m, none⟩) (m2 - m) c) (m2 - m) (pcx s xs t)) := fun c hc => ⟨_, _, rfl, hc, fun _ => ⟨b, off + m, rfl, Nat.lt_of_lt_of_le hlt hrel.out.2.2.1.size, fun j hj => by
          have h9 := (hrel.out.2.2.1.cell (p := ⟨b, off + (m + j), none⟩) hlt).trans (hcell (m + j) (by omega))
          unfold pcx
          rw [← hm, Nat.add_assoc]
          exact h9⟩⟩
        have HF : Hid (∀ W u, Il W u (m2 - m) (pcx s xs t) → Calls Tryd.prog 26 #[u] W fun e w' => Psb W w' e (fN (pcn n s t) (pcx s xs t)) (fY (pcn n s t) (pcx s xs t)) (fok (pcn n s t) (pcx s xs t))) := by rw [hpc] at hf2 ⊢; exact hf2
        have HX : Hid (pal n s xs (t + 1) = R ++ (List.range (fN (pcn n s t) (pcx s xs t))).map (fY (pcn n s t) (pcx s xs t))) := by rw [hrel.out.1]; rfl
        have HO : Hid (wr.ownsRow w.heap.size 5 1 _ R.length (bls (lf R) R.length)) := hrel.out.2.1
        have HB : Hid (Below w.heap.size w wr) := hrel.out.2.2.1
        have HAL : Hid (∀ u, u < t → fok (pcn n s u) (pcx s xs u) = true) := hrel.out.2.2.2
        obtain ⟨qa, qc, hq9⟩ := own_sliceb HO.out
        subst hq9
        obtain ⟨Nf, hNf⟩ : ∃ Nf, Nf = fN (pcn n s t) (pcx s xs t) := ⟨_, rfl⟩
        obtain ⟨Yf, hYf⟩ : ∃ Yf, Yf = fY (pcn n s t) (pcx s xs t) := ⟨_, rfl⟩
        obtain ⟨Kf, hKf⟩ : ∃ Kf, Kf = fok (pcn n s t) (pcx s xs t) := ⟨_, rfl⟩
        rw [← hNf, ← hYf, ← hKf] at HF
        rw [← hNf, ← hYf] at HX
        rw [← hNf] at hf1
        have HK : Hid (Kf = fok (pcn n s t) (pcx s xs t)) := hKf
        have hl9 : (R ++ (List.range Nf).map Yf).length = R.length + Nf := by rw [List.length_append, List.length_map, List.length_range]
        have HMM : Hid (m = t * s) := hm
        clear hcell hrel hf2 hf3 hpc hNf hYf hKf hm hm2
        by_cases hk : Kf = true
        · subst hk
          go_wp2_with (first
            | (go_at_call 60; (with_reducible refine (il _).mono ?_); rintro e w' ⟨rfl, hw⟩; obtain rfl := hw.symm)
            | (go_at_call 26; refine (HF.out _ _ (HIL.out _ (by omega))).mono ?_; rintro e w2 ⟨x2, rfl, hown, hb⟩; obtain ⟨xa, xc, hx9⟩ := own_sliceb hown; subst hx9; have HX2 : Hid (Bl w2 (.slice xa Nf xc) Nf Yf) := bl_of_own hown; have HO2 : Hid (w2.ownsRow w.heap.size 5 1 (.slice qa R.length qc) R.length (bls (lf R) R.length)) := own_below HO.out hb; have HB2 : Hid (Below w.heap.size w w2) := bstep HB.out hb; clear hown hb)
            | (at_builtin; refine wpList_appc rfl _ _ rfl w.heap.size _ _ R.length Nf _ Yf rfl rfl HO2.out HX2.out (by omega) HB2.out.size ?_; intro x3 w3 hown hgrow; have HO3 : Hid (w3.ownsRow w.heap.size 5 1 x3 (R ++ (List.range Nf).map Yf).length (bls (lf (R ++ (List.range Nf).map Yf)) (R ++ (List.range Nf).map Yf).length)) := (by rw [hl9, ← bl_cat]; exact hown); have HB3 : Hid (Below w.heap.size w w3) := grown_below HB2.out (Nat.le_refl _) HO2.out hgrow; clear hown hgrow))
          go_roundw
          case rel => exact ⟨t + 1, m + s, R ++ (List.range Nf).map Yf, by go_num, by omega, by omega, by show m + s = (t + 1) * s; rw [HMM.out, Nat.add_mul, Nat.one_mul], HX.out.symm, HO3.out, HB3.out, fun u hu => by
            by_cases hut : u = t
            · subst hut; exact HK.out.symm
            · exact HAL.out u (by omega)⟩
          case measure => simp [intOf]; omega
        · have hk2 : Kf = false := by cases Kf <;> simp_all
          subst hk2
          have hF : Hid (A = false) := by
            show A = false
            rw [HA.out]
            refine decide_eq_false (fun h9 => ?_)
            have h8 := h9.1 t h1
            rw [← HK.out] at h8
            cases h8
          go_wp2_with (first
            | (go_at_call 60; (with_reducible refine (il _).mono ?_); rintro e w' ⟨rfl, hw⟩; obtain rfl := hw.symm)
            | (go_at_call 26; refine (HF.out _ _ (HIL.out _ (by omega))).mono ?_; rintro e w2 ⟨x2, rfl, hown, hb⟩; obtain ⟨xa, xc, hx9⟩ := own_sliceb hown; subst hx9; have HX2 : Hid (Bl w2 (.slice xa Nf xc) Nf Yf) := bl_of_own hown; have HO2 : Hid (w2.ownsRow w.heap.size 5 1 (.slice qa R.length qc) R.length (bls (lf R) R.length)) := own_below HO.out hb; have HB2 : Hid (Below w.heap.size w w2) := bstep HB.out hb; clear hown hb))
          go_ret2
          rw [hF.out, show N = 0 by rw [HN.out, hF.out]; rfl]
          exact ⟨_, rfl, own_base (own_empty w2 5 1) HB2.out.size, bstep HB2.out (below_one _ _)⟩
      · have hpc : pcn n s t = n - m := by unfold pcn; rw [← hm]; omega
        have il := least_any (x := m2) (y := n) (z := n) (by omega) (by omega) (.inr ⟨by omega, rfl⟩)
        obtain ⟨hf1, hf2, hf3⟩ := frame_told (n := pcn n s t) (xs := pcx s xs t) (by unfold pcn; omega)
        have HIL : Hid (∀ c, n - m ≤ c → Il wr (.slice (some ⟨b, off + m, none⟩) (n - m) c) (n - m) (pcx s xs t)) := fun c hc => ⟨_, _, rfl, hc, fun _ => ⟨b, off + m, rfl, Nat.lt_of_lt_of_le hlt hrel.out.2.2.1.size, fun j hj => by
          have h9 := (hrel.out.2.2.1.cell (p := ⟨b, off + (m + j), none⟩) hlt).trans (hcell (m + j) (by omega))
          unfold pcx
          rw [← hm, Nat.add_assoc]
          exact h9⟩⟩
        have HF : Hid (∀ W u, Il W u (n - m) (pcx s xs t) → Calls Tryd.prog 26 #[u] W fun e w' => Psb W w' e (fN (pcn n s t) (pcx s xs t)) (fY (pcn n s t) (pcx s xs t)) (fok (pcn n s t) (pcx s xs t))) := by rw [hpc] at hf2 ⊢; exact hf2
        have HX : Hid (pal n s xs (t + 1) = R ++ (List.range (fN (pcn n s t) (pcx s xs t))).map (fY (pcn n s t) (pcx s xs t))) := by rw [hrel.out.1]; rfl
        have HO : Hid (wr.ownsRow w.heap.size 5 1 _ R.length (bls (lf R) R.length)) := hrel.out.2.1
        have HB : Hid (Below w.heap.size w wr) := hrel.out.2.2.1
        have HAL : Hid (∀ u, u < t → fok (pcn n s u) (pcx s xs u) = true) := hrel.out.2.2.2
        obtain ⟨qa, qc, hq9⟩ := own_sliceb HO.out
        subst hq9
        obtain ⟨Nf, hNf⟩ : ∃ Nf, Nf = fN (pcn n s t) (pcx s xs t) := ⟨_, rfl⟩
        obtain ⟨Yf, hYf⟩ : ∃ Yf, Yf = fY (pcn n s t) (pcx s xs t) := ⟨_, rfl⟩
        obtain ⟨Kf, hKf⟩ : ∃ Kf, Kf = fok (pcn n s t) (pcx s xs t) := ⟨_, rfl⟩
        rw [← hNf, ← hYf, ← hKf] at HF
        rw [← hNf, ← hYf] at HX
        rw [← hNf] at hf1
        have HK : Hid (Kf = fok (pcn n s t) (pcx s xs t)) := hKf
        have hl9 : (R ++ (List.range Nf).map Yf).length = R.length + Nf := by rw [List.length_append, List.length_map, List.length_range]
        have HMM : Hid (m = t * s) := hm
        clear hcell hrel hf2 hf3 hpc hNf hYf hKf hm hm2
        by_cases hk : Kf = true
        · subst hk
          go_wp2_with (first
            | (go_at_call 60; (with_reducible refine (il _).mono ?_); rintro e w' ⟨rfl, hw⟩; obtain rfl := hw.symm)
            | (go_at_call 26; refine (HF.out _ _ (HIL.out _ (by omega))).mono ?_; rintro e w2 ⟨x2, rfl, hown, hb⟩; obtain ⟨xa, xc, hx9⟩ := own_sliceb hown; subst hx9; have HX2 : Hid (Bl w2 (.slice xa Nf xc) Nf Yf) := bl_of_own hown; have HO2 : Hid (w2.ownsRow w.heap.size 5 1 (.slice qa R.length qc) R.length (bls (lf R) R.length)) := own_below HO.out hb; have HB2 : Hid (Below w.heap.size w w2) := bstep HB.out hb; clear hown hb)
            | (at_builtin; refine wpList_appc rfl _ _ rfl w.heap.size _ _ R.length Nf _ Yf rfl rfl HO2.out HX2.out (by omega) HB2.out.size ?_; intro x3 w3 hown hgrow; have HO3 : Hid (w3.ownsRow w.heap.size 5 1 x3 (R ++ (List.range Nf).map Yf).length (bls (lf (R ++ (List.range Nf).map Yf)) (R ++ (List.range Nf).map Yf).length)) := (by rw [hl9, ← bl_cat]; exact hown); have HB3 : Hid (Below w.heap.size w w3) := grown_below HB2.out (Nat.le_refl _) HO2.out hgrow; clear hown hgrow))
          go_roundw
          case rel => exact ⟨t + 1, m + s, R ++ (List.range Nf).map Yf, by go_num, by omega, by omega, by show m + s = (t + 1) * s; rw [HMM.out, Nat.add_mul, Nat.one_mul], HX.out.symm, HO3.out, HB3.out, fun u hu => by
            by_cases hut : u = t
            · subst hut; exact HK.out.symm
            · exact HAL.out u (by omega)⟩
          case measure => simp [intOf]; omega
        · have hk2 : Kf = false := by cases Kf <;> simp_all
          subst hk2
          have hF : Hid (A = false) := by
            show A = false
            rw [HA.out]
            refine decide_eq_false (fun h9 => ?_)
            have h8 := h9.1 t h1
            rw [← HK.out] at h8
            cases h8
          go_wp2_with (first
            | (go_at_call 60; (with_reducible refine (il _).mono ?_); rintro e w' ⟨rfl, hw⟩; obtain rfl := hw.symm)
            | (go_at_call 26; refine (HF.out _ _ (HIL.out _ (by omega))).mono ?_; rintro e w2 ⟨x2, rfl, hown, hb⟩; obtain ⟨xa, xc, hx9⟩ := own_sliceb hown; subst hx9; have HX2 : Hid (Bl w2 (.slice xa Nf xc) Nf Yf) := bl_of_own hown; have HO2 : Hid (w2.ownsRow w.heap.size 5 1 (.slice qa R.length qc) R.length (bls (lf R) R.length)) := own_below HO.out hb; have HB2 : Hid (Below w.heap.size w w2) := bstep HB.out hb; clear hown hb))
          go_ret2
          rw [hF.out, show N = 0 by rw [HN.out, hF.out]; rfl]
          exact ⟨_, rfl, own_base (own_empty w2 5 1) HB2.out.size, bstep HB2.out (below_one _ _)⟩
    · have h1 : ¬ t < P := fun h9 => hm9 (by rw [hm]; exact (HPN.out t).1 h9)
      have e9 : P = t := by omega
      subst e9
      obtain ⟨qa, qc, hq9⟩ := own_sliceb hrel.out.2.1
      subst hq9
      clear hm hmq
      by_cases hl : R.length ≤ 20000
      · have hF : A = true := by rw [HA.out]; exact decide_eq_true ⟨hrel.out.2.2.2, by rw [← hrel.out.1]; exact hl⟩
        have hN : N = R.length := by rw [HN.out, hF, hrel.out.1]; rfl
        have HFF : Hid (A = true ∧ N = R.length) := ⟨hF, hN⟩
        clear hF hN
        go_wp2
        go_ret2
        rw [HFF.out.1, HFF.out.2, ← hrel.out.1]
        exact ⟨_, rfl, hrel.out.2.1, hrel.out.2.2.1⟩
      · have hF : A = false := by rw [HA.out]; exact decide_eq_false (fun h9 => hl (by rw [hrel.out.1]; exact h9.2))
        have hN : N = 0 := by rw [HN.out, hF]; rfl
        have HFF : Hid (A = false ∧ N = 0) := ⟨hF, hN⟩
        clear hF hN
        go_wp2
        go_ret2
        rw [HFF.out.1, HFF.out.2]
        exact ⟨_, rfl, own_base (own_empty wr 5 1) hrel.out.2.2.1.size, bstep hrel.out.2.2.1 (below_one _ _)⟩
end Go.Proofs.YtndagpompioooaaDoor

namespace Go.Proofs.YtndagpompioooaaDoor
open Go.RowKit

set_option maxHeartbeats 2000000 in
theorem iAll_bad {w : World} {v : Value} {n : Nat} {xs : Nat → Int} (hv : Il w v n xs) (hn : n ≤ 1048576) {sz : Int} (h : ¬ (Sig n xs ∧ 1 ≤ sz ∧ sz ≤ 128)) (ys : Nat → Int) :
    Calls Tryd.prog 18 #[v, .int .i64 sz] w fun e w' => Psb w w' e 0 ys false := by
  have i1 := iSig_any hv hn
  have i2 := size_any sz
  obtain ⟨ao, cap, rfl, hcap, hc⟩ := hv
  clear hc
  by_cases c1 : Sig n xs
  · rw [decide_eq_true c1] at i1
    rw [decide_eq_false (fun c2 => h ⟨c1, c2⟩)] at i2
    clear h c1
    go_enter Tryd.func18, Tryd.ntmps18
    go_wp2_with (first | (go_at_call 55; (with_reducible refine (i1).mono ?_); rintro e w' ⟨rfl, hw⟩; obtain rfl := hw.symm) | (go_at_call 56; (with_reducible refine (i2 _).mono ?_); rintro e w' ⟨rfl, hw⟩; obtain rfl := hw.symm))
    go_ret2
    exact ⟨_, rfl, own_empty w 5 1, below_one _ _⟩
  · rw [decide_eq_false c1] at i1
    clear h c1
    clear i2
    go_enter Tryd.func18, Tryd.ntmps18
    go_wp2_with (first | (go_at_call 55; (with_reducible refine (i1).mono ?_); rintro e w' ⟨rfl, hw⟩; obtain rfl := hw.symm))
    go_ret2
    exact ⟨_, rfl, own_empty w 5 1, below_one _ _⟩
set_option maxHeartbeats 2000000 in
theorem sAll_bad {w : World} {v : Value} {n : Nat} {xs : Nat → Int} (hv : Il w v n xs) (hn : n ≤ 1048576) {sz : Int} (h : ¬ (Sig n xs ∧ 1 ≤ sz ∧ sz ≤ 128)) (ys : Nat → Int) :
    Calls Tryd.prog 19 #[v, .int .i64 sz] w fun e w' => Psb w w' e 0 ys false := by
  have i1 := sSig_any (hv.below (below_one w (.cells #[] 5))) hn
  have i2 := in_any sz 1 128
  obtain ⟨ao, cap, rfl, hcap, hc⟩ := hv
  clear hc
  by_cases c1 : Sig n xs
  · rw [decide_eq_true c1] at i1
    rw [decide_eq_false (fun c2 => h ⟨c1, c2⟩)] at i2
    clear h c1
    go_enter Tryd.func19, Tryd.ntmps19
    go_wp2_with (first | (go_at_call 58; (with_reducible refine (i1).mono ?_); rintro e w' ⟨rfl, hw⟩; obtain rfl := hw.symm) | (go_at_call 59; (with_reducible refine (i2 _).mono ?_); rintro e w' ⟨rfl, hw⟩; obtain rfl := hw.symm))
    go_ret2
    exact ⟨_, rfl, own_empty w 5 1, below_one _ _⟩
  · rw [decide_eq_false c1] at i1
    clear h c1
    clear i2
    go_enter Tryd.func19, Tryd.ntmps19
    go_wp2_with (first | (go_at_call 58; (with_reducible refine (i1).mono ?_); rintro e w' ⟨rfl, hw⟩; obtain rfl := hw.symm))
    go_ret2
    exact ⟨_, rfl, own_empty w 5 1, below_one _ _⟩
end Go.Proofs.YtndagpompioooaaDoor

namespace Go.Proofs.YtndagpompioooaaDoor
open Go.RowKit

set_option maxHeartbeats 1000000 in
theorem pick_p {w : World} {c : Nat} {a : Option Addr} {len cap : Nat} (h : Cu w c a len cap) {g n cp : Nat} {xs : Nat → Int} (hg : g ≠ c) (hlt : g < w.heap.size) (h0 : 0 < n) (h1 : n ≤ 256) (hx : ∀ k, k < n → w.cell? ⟨g, k, none⟩ = some (.int .i64 (xs k))) (P : Int → Prop) (hP : ∀ k, k < n → P (xs k)) :
    Calls Tryd.prog 54 #[.pointer (some ⟨c, 0, none⟩), .slice (some ⟨g, 0, none⟩) n cp] w fun e w' => ∃ x : Int, P x ∧ e = .returned (.int .i64 x) ∧ Cu w' c a len cap ∧ Keep c w w' := by
  have HC : Hid (Cu w c a len cap) := h
  have HX : Hid _ := hx
  have HP : Hid (∀ k, k < n → P (xs k)) := hP
  clear h hx hP
  go_enter Tryd.func54, Tryd.ntmps54
  go_wp2_with (go_at_call 65; refine (below_x HC.out n).mono ?_; rintro e w' ⟨x, hx0, hx1, hx2, rfl, hc, hk⟩; have hx3 := hx2 (by omega); obtain ⟨k, rfl⟩ := Int.eq_ofNat_of_zero_le hx0; have HC2 : Hid (Cu w' c a len cap) := hc; have HK : Hid (Keep c w w') := hk; have cc : w'.cell? ⟨g, k, none⟩ = some (.int .i64 (xs k)) := (hk.cell (p := ⟨g, k, none⟩) hg hlt).trans (HX.out k (by omega)); clear hc hk hx2)
  go_ret
  exact ⟨_, HP.out k (by omega), rfl, HC2.out, HK.out⟩

theorem pick_lp (L : List Int) (h0 : 0 < L.length) (h1 : L.length ≤ 256) (P : Int → Prop) (hP : ∀ k, k < L.length → P (L.getD k 0)) {W : World} {c : Nat} {a : Option Addr} {len cap : Nat} (h : Cu W c a len cap) :
    Calls Tryd.prog 54 #[.pointer (some ⟨c, 0, none⟩), .slice (some ⟨W.heap.size, 0, none⟩) L.length L.length] (W.alloc (.cells (L.map (fun x => Value.int .i64 x)).toArray 3)) fun e w' => ∃ x : Int, P x ∧ e = .returned (.int .i64 x) ∧ Cu w' c a len cap ∧ Keep c W w' := by
  refine (pick_p (h.call (below_one _ _)) (Nat.ne_of_gt h.lt) (by simp) h0 h1 (lit_cells W L 3) P hP).mono ?_
  rintro e w' ⟨x, hx, rfl, hc, hk⟩
  exact ⟨x, hx, rfl, hc, ((Keep.refl _ _).call (below_one _ _)).trans hk⟩

theorem pkk {W : World} {c : Nat} {a : Option Addr} {len cap : Nat} (h : Cu W c a len cap) :
    Calls Tryd.prog 54 #[.pointer (some ⟨c, 0, none⟩), .slice (some ⟨W.heap.size, 0, none⟩) 12 12] (W.alloc (.cells #[.int .i64 0, .int .i64 1, .int .i64 2, .int .i64 3, .int .i64 4, .int .i64 6, .int .i64 12, .int .i64 20, .int .i64 30, .int .i64 31, .int .i64 (-1), .int .i64 5] 3)) fun e w' => ∃ x : Int, (-1 ≤ x ∧ x ≤ 31) ∧ e = .returned (.int .i64 x) ∧ Cu w' c a len cap ∧ Keep c W w' :=
  pick_lp [0, 1, 2, 3, 4, 6, 12, 20, 30, 31, -1, 5] (by simp) (by simp) (fun x => -1 ≤ x ∧ x ≤ 31) (by decide) h

theorem pk4 {W : World} {c : Nat} {a : Option Addr} {len cap : Nat} (h : Cu W c a len cap) :
    Calls Tryd.prog 54 #[.pointer (some ⟨c, 0, none⟩), .slice (some ⟨W.heap.size, 0, none⟩) 4 4] (W.alloc (.cells #[.int .i64 100000, .int .i64 (-70000), .int .i64 1000000000, .int .i64 (-1000000000)] 3)) fun e w' => ∃ x : Int, (-1000000000 ≤ x ∧ x ≤ 1000000000) ∧ e = .returned (.int .i64 x) ∧ Cu w' c a len cap ∧ Keep c W w' :=
  pick_lp [100000, -70000, 1000000000, -1000000000] (by simp) (by simp) (fun x => -1000000000 ≤ x ∧ x ≤ 1000000000) (by decide) h

theorem pk2 {W : World} {c : Nat} {a : Option Addr} {len cap : Nat} (h : Cu W c a len cap) :
    Calls Tryd.prog 54 #[.pointer (some ⟨c, 0, none⟩), .slice (some ⟨W.heap.size, 0, none⟩) 2 2] (W.alloc (.cells #[.int .i64 1000000001, .int .i64 (-1000000001)] 3)) fun e w' => ∃ x : Int, (-1000000001 ≤ x ∧ x ≤ 1000000001) ∧ e = .returned (.int .i64 x) ∧ Cu w' c a len cap ∧ Keep c W w' :=
  pick_lp [1000000001, -1000000001] (by simp) (by simp) (fun x => -1000000001 ≤ x ∧ x ≤ 1000000001) (by decide) h

theorem own_some3 {w : World} {B n : Nat} {v : Value} {xs : List Value} (h : w.ownsRow B 3 1 v n xs) (hn : 1 ≤ n) : ∃ g c, v = .slice (some ⟨g, 0, none⟩) n c ∧ B ≤ g ∧ n ≤ c := by
  rcases h.2 with ⟨rfl, rfl⟩ | ⟨g, cap, cur, rfl, hb, hg, hc, _⟩
  · omega
  · exact ⟨g, cap, rfl, hb, hc⟩

set_option maxRecDepth 20000 in
set_option maxHeartbeats 8000000 in
theorem dleft_x {w : World} {c : Nat} {a : Option Addr} {len cap : Nat} (h : Cu w c a len cap) (m : Int) (hm : 0 ≤ m ∧ m ≤ 60) :
    Calls Tryd.prog 39 #[.pointer (some ⟨c, 0, none⟩), .int .i64 m] w fun e w' => ∃ u n ys, e = .returned u ∧ n ≤ 62 ∧ w'.ownsRow w.heap.size 3 1 u n (ils ys n) ∧ Cu w' c a len cap ∧ Keep c w w' := by
  obtain ⟨i0, hi, hz0, hz1, hz2⟩ := info_parts Tryd.info3
  have HC : Hid (Cu w c a len cap) := h
  have hcl := h.lt
  have HD : Hid (Cu (w.alloc (.cells #[] 3)) c a len cap) := h.call (below_one _ _)
  clear h
  go_enter Tryd.func39, Tryd.ntmps39
  go_wp2_with (go_at_call 65; refine (below_x HD.out (m + 1)).mono ?_; rintro e w1 ⟨j0, hj0, _, hj1, rfl, hc, hk⟩; have hj2 := hj1 (by omega); have HC1 : Hid (Cu w1 c a len cap) := hc; have K1 : Hid (Keep c (w.alloc (.cells #[] 3)) w1) := hk; clear hc hk hj1)
  obtain ⟨j, rfl⟩ := Int.eq_ofNat_of_zero_le hj0
  go_loopw [5, 6] (fun o i wr => ∃ (q k : Nat), i = .int .i64 q ∧ q + k ≤ 61 ∧ Hid ((∃ ys, wr.ownsRow w.heap.size 3 1 o k (ils ys k)) ∧ Cu wr c a len cap ∧ Keep c w wr)) (fun _ i _ => (intOf i).toNat)
  case atStart => exact ⟨j, 0, rfl, by omega, ⟨fun _ => 0, own_keep (own_empty w 3 1) K1.out hcl⟩, HC1.out, ((Keep.refl _ _).call (below_one _ _)).trans K1.out⟩
  case round =>
    obtain ⟨q, k, rfl, hq, hcur⟩ := hrel
    obtain ⟨ys, ho⟩ := hcur.out.1
    have HO : Hid (wr.ownsRow w.heap.size 3 1 _ k (ils ys k)) := ho
    have HCW : Hid (Cu wr c a len cap) := hcur.out.2.1
    have HKW : Hid (Keep c w wr) := hcur.out.2.2
    clear ho hcur
    by_cases h1 : 0 < q
    · go_upto_region 6 with (first
        | (go_at_call 65; refine (below_x HCW.out 41).mono ?_; rintro e w2 ⟨x2, hx0, _, hx1, rfl, hc, hk⟩; have hx3 := hx1 (by omega); have hb3 := below_one w2 (.cells #[.int .i64 (x2 - 20)] 3); have HO3 := own_below (own_keep HO.out hk hcl) hb3; have K2 : Hid (Keep c w (w2.alloc (.cells #[.int .i64 (x2 - 20)] 3))) := (HKW.out.trans hk).call hb3; have HC3 : Hid (Cu (w2.alloc (.cells #[.int .i64 (x2 - 20)] 3)) c a len cap) := hc.call hb3; have hs3 := K2.out.size; clear hc hk hb3 hx1)
        | (at_builtin; refine wpList_append_own _ rfl _ _ 24 rfl w.heap.size 3 i0 (.int .i64 0) 1 8 Tryd.underlying24 hi hz0 hz1 hz2 rfl (by decide) _ _ _ rfl HO3 ⟨w2.heap.size, 0, none⟩ 1 1 [.int .i64 (x2 - 20)] rfl rfl (one_new _ _ _) (by simp [Value.oneCell']) (by unfold maxLen; omega) (by omega) hs3 ?_; intro v' w4 hown' hgrow _; have HB4 : Hid (Below w.heap.size (w2.alloc (.cells #[.int .i64 (x2 - 20)] 3)) w4) := grown_below (Below.refl w.heap.size _) hs3 HO3 hgrow; rw [ils_app] at hown'; have HO4 : Hid _ := hown'; clear hown' hgrow HO3))
      have HCW4 : Hid (Cu w4 c a len cap) := HC.out.grow HC3.out K2.out HB4.out
      have HKW4 : Hid (Keep c w w4) := K2.out.below HB4.out
      obtain ⟨g, gc, hv9, hgb, hgc⟩ := own_some3 HO4.out (by omega)
      subst hv9
      generalize (fun i => if i = k then x2 - 20 else ys i) = zs at HO4
      clear HB4 K2 HC3 hs3 hx0 hx3 HO HCW HKW
      go_upto_region 7 with (first
        | (go_at_call 64; refine (once_x HCW4.out 20).mono ?_; rintro e w5 ⟨bo, rfl, hc, hk⟩; have HCW5 : Hid (Cu w5 c a len cap) := hc; have HKW5 : Hid (Keep c w w5) := HKW4.out.trans hk; have HO5 : Hid (w5.ownsRow w.heap.size 3 1 (.slice (some ⟨g, 0, none⟩) (k + 1) gc) (k + 1) (ils zs (k + 1))) := own_keep HO4.out hk hcl; clear hc hk; rcases bo with _ | _))
      · go_roundw
        case rel => exact ⟨q - 1, k + 1, by congr 1; omega, by omega, ⟨zs, HO5.out⟩, HCW5.out, HKW5.out⟩
        case measure => simp [intOf]; omega
      · obtain ⟨k1, hk1⟩ : ∃ k1, k1 = k + 1 := ⟨_, rfl⟩
        have e1 : (k1 : Int) - 1 = (k : Int) := by omega
        have hk2 : k < k1 ∧ k1 ≤ k + 1 := by omega
        rw [← hk1] at HO5 hgc ⊢
        clear hk1 HO4 HCW4 HKW4
        go_wp2_with (first
          | (go_at_call 54; refine (pk4 HCW5.out).mono ?_; rintro e w6 ⟨x6, hx6, rfl, hc, hk⟩; have HO6 : Hid (w6.ownsRow w.heap.size 3 1 (.slice (some ⟨g, 0, none⟩) k1 gc) k1 (ils zs k1)) := own_keep HO5.out hk hcl; have hfz := HO6.out.frozenAt k; have hce := HO6.out.cellAt k (by omega); rw [ils_get (show k < k1 by omega)] at hce; have HC6 : Hid (Cu w6 c a len cap) := hc; have HK6 : Hid (Keep c w w6) := HKW5.out.trans hk; clear hc hk))
        have st := (HO6.out.stored k (.int .i64 x6)).1
        rw [ils_put] at st
        have BS : Below w.heap.size w6 (w6.setCell ⟨g, k, none⟩ (.int .i64 x6)) := Below.setCell (Below.refl _ _) (p := ⟨g, k, none⟩) hgb _
        go_roundw
        case rel => exact ⟨q - 1, k1, by congr 1; omega, by omega, ⟨_, st⟩, HC.out.grow HC6.out HK6.out BS, HK6.out.below BS⟩
        case measure => simp [intOf]; omega
    · obtain rfl : q = 0 := by omega
      go_upto_region 9 with (first
        | (go_at_call 64; refine (once_x HCW.out 40).mono ?_; rintro e w5 ⟨bo, rfl, hc, hk⟩; have HCW5 : Hid (Cu w5 c a len cap) := hc; have HKW5 : Hid (Keep c w w5) := HKW.out.trans hk; have HO5 : Hid (w5.ownsRow w.heap.size 3 1 _ k (ils ys k)) := own_keep HO.out hk hcl; clear hc hk; rcases bo with _ | _))
      · go_wp2
        go_ret
        exact ⟨_, k, ys, rfl, by omega, HO5.out, HCW5.out, HKW5.out⟩
      · go_wp2_with (first
          | (go_at_call 54; refine (pk2 HCW5.out).mono ?_; rintro e w6 ⟨x6, hx6, rfl, hc, hk⟩; have hb3 := below_one w6 (.cells #[.int .i64 x6] 3); have HO3 := own_below (own_keep HO5.out hk hcl) hb3; have K2 : Hid (Keep c w (w6.alloc (.cells #[.int .i64 x6] 3))) := (HKW5.out.trans hk).call hb3; have HC3 : Hid (Cu (w6.alloc (.cells #[.int .i64 x6] 3)) c a len cap) := hc.call hb3; have hs3 := K2.out.size; clear hc hk hb3)
          | (at_builtin; refine wpList_append_own _ rfl _ _ 24 rfl w.heap.size 3 i0 (.int .i64 0) 1 8 Tryd.underlying24 hi hz0 hz1 hz2 rfl (by decide) _ _ _ rfl HO3 ⟨w6.heap.size, 0, none⟩ 1 1 [.int .i64 x6] rfl rfl (one_new _ _ _) (by simp [Value.oneCell']) (by unfold maxLen; omega) (by omega) hs3 ?_; intro v' w4 hown' hgrow _; have HB4 : Hid (Below w.heap.size (w6.alloc (.cells #[.int .i64 x6] 3)) w4) := grown_below (Below.refl w.heap.size _) hs3 HO3 hgrow; rw [ils_app] at hown'; have HO4 : Hid _ := hown'; clear hown' hgrow HO3))
        go_ret
        exact ⟨_, k + 1, _, rfl, by omega, HO4.out, HC.out.grow HC3.out K2.out HB4.out, K2.out.below HB4.out⟩

set_option maxHeartbeats 2000000 in
theorem drawk_x {w : World} {c : Nat} {a : Option Addr} {len cap : Nat} (h : Cu w c a len cap) :
    Calls Tryd.prog 38 #[.pointer (some ⟨c, 0, none⟩)] w fun e w' => ∃ x : Int, e = .returned (.int .i64 x) ∧ Cu w' c a len cap ∧ Keep c w w' := by
  have HC : Hid (Cu w c a len cap) := h
  clear h
  go_enter Tryd.func38, Tryd.ntmps38
  go_wp2_with (go_at_call 54; refine (pkk HC.out).mono ?_; rintro e w6 ⟨x6, hx6, rfl, hc, hk⟩; have H6 : Hid (Cu w6 c a len cap ∧ Keep c w w6) := ⟨hc, hk⟩; clear hc hk)
  go_ret
  exact ⟨_, rfl, H6.out.1, H6.out.2⟩

set_option maxHeartbeats 4000000 in
theorem drice_x {w : World} {a : Option Addr} {len cap : Nat} (hr : Row w a len) (hl : len ≤ 1048576) :
    Calls Tryd.prog 10 #[.slice a len cap] w fun e w' => ∃ x u n xs, e = .returned (.tuple #[.int .i64 x, u]) ∧ n ≤ 62 ∧ Il w' u n xs ∧ Below w.heap.size w w' := by
  have HR : Hid (Row w a len) := hr
  clear hr
  obtain ⟨c, hcd⟩ : ∃ c, w.heap.size = c := ⟨_, rfl⟩
  have HN : Hid (Calls Tryd.prog 37 #[.slice a len cap] w fun e w' => e = .returned (.pointer (some ⟨c, 0, none⟩)) ∧ Cu w' c a len cap ∧ Below w.heap.size w w') := by have := new_x (cap := cap) HR.out (by omega); rw [← hcd]; exact this
  go_enter Tryd.func10, Tryd.ntmps10
  go_wp2_with (first
    | (go_at_call 37; refine HN.out.mono ?_; rintro e w1 ⟨rfl, hc, hb⟩; have HC : Hid (Cu w1 c a len cap) := hc; have B1 : Hid (Below w.heap.size w w1) := hb; clear hc hb)
    | (go_at_call 38; refine (drawk_x HC.out).mono ?_; rintro e w2 ⟨x2, rfl, hc, hk⟩; have HC2 : Hid (Cu w2 c a len cap) := hc; have K2 : Hid (Keep c w1 w2) := hk; clear hc hk)
    | (go_at_call 40; refine (size_x a len cap 30 hl).mono ?_; rintro e w' ⟨sz, rfl, hs0, hs1, hs2, hw⟩; have hs3 := hs2 (by omega); obtain rfl := hw.symm)
    | (go_at_call 39; refine (dleft_x HC2.out sz (by omega)).mono ?_; rintro e w4 ⟨u, n, ys, rfl, hn, ho, hc, hk⟩; have HO4 : Hid (w4.ownsRow w2.heap.size 3 1 u n (ils ys n)) := ho; have K4 : Hid (Keep c w1 w4) := K2.out.trans hk; clear ho hc hk))
  go_ret2
  exact ⟨_, _, n, ys, rfl, hn, il_of_own HO4.out, Below.keep B1.out K4.out (Nat.le_of_eq hcd)⟩
end Go.Proofs.YtndagpompioooaaDoor

namespace Go.Proofs.YtndagpompioooaaDoor
open Go.RowKit

theorem pkw8 {W : World} {c : Nat} {a : Option Addr} {len cap : Nat} (h : Cu W c a len cap) :
    Calls Tryd.prog 54 #[.pointer (some ⟨c, 0, none⟩), .slice (some ⟨W.heap.size, 0, none⟩) 8 8] (W.alloc (.cells #[.int .i64 1000000000, .int .i64 (-1000000000), .int .i64 0, .int .i64 0, .int .i64 0, .int .i64 0, .int .i64 0, .int .i64 0] 3)) fun e w' => ∃ x : Int, (-1000000000 ≤ x ∧ x ≤ 1000000000) ∧ e = .returned (.int .i64 x) ∧ Cu w' c a len cap ∧ Keep c W w' :=
  pick_lp [1000000000, -1000000000, 0, 0, 0, 0, 0, 0] (by simp) (by simp) (fun x => -1000000000 ≤ x ∧ x ≤ 1000000000) (by decide) h

theorem pka {W : World} {c : Nat} {a : Option Addr} {len cap : Nat} (h : Cu W c a len cap) :
    Calls Tryd.prog 54 #[.pointer (some ⟨c, 0, none⟩), .slice (some ⟨W.heap.size, 0, none⟩) 8 8] (W.alloc (.cells #[.int .i64 1, .int .i64 2, .int .i64 5, .int .i64 16, .int .i64 128, .int .i64 129, .int .i64 0, .int .i64 7] 3)) fun e w' => ∃ x : Int, (0 ≤ x ∧ x ≤ 129) ∧ e = .returned (.int .i64 x) ∧ Cu w' c a len cap ∧ Keep c W w' :=
  pick_lp [1, 2, 5, 16, 128, 129, 0, 7] (by simp) (by simp) (fun x => 0 ≤ x ∧ x ≤ 129) (by decide) h


set_option maxRecDepth 20000 in
set_option maxHeartbeats 16000000 in
theorem ddraw_x {w : World} {c : Nat} {a : Option Addr} {len cap : Nat} (h : Cu w c a len cap) (m : Int) (hm : 0 ≤ m ∧ m ≤ 60) :
    Calls Tryd.prog 53 #[.pointer (some ⟨c, 0, none⟩), .int .i64 m] w fun e w' => ∃ u n ys, e = .returned u ∧ n ≤ 61 ∧ w'.ownsRow w.heap.size 3 1 u n (ils ys n) ∧ Cu w' c a len cap ∧ Keep c w w' := by
  obtain ⟨i0, hi, hz0, hz1, hz2⟩ := info_parts Tryd.info3
  have HC : Hid (Cu w c a len cap) := h
  have hcl := h.lt
  have HD : Hid (Cu (w.alloc (.cells #[] 3)) c a len cap) := h.call (below_one _ _)
  clear h
  go_enter Tryd.func53, Tryd.ntmps53
  go_wp2_with (first
    | (go_at_call 65; (fail_if_success have := HC1); refine (below_x HD.out 2001).mono ?_; rintro e w1 ⟨x0, hx0, _, hx1, rfl, hc, hk⟩; have hx2 := hx1 (by omega); have HC1 : Hid (Cu w1 c a len cap) := hc; have K1 : Hid (Keep c (w.alloc (.cells #[] 3)) w1) := hk; clear hc hk hx1)
    | (go_at_call 65; have Z := HC1; refine (below_x HC1.out (m + 1)).mono ?_; rintro e w2 ⟨j0, hj0, _, hj1, rfl, hc, hk⟩; have hj2 := hj1 (by omega); have HC2 : Hid (Cu w2 c a len cap) := hc; have K2 : Hid (Keep c (w.alloc (.cells #[] 3)) w2) := K1.out.trans hk; clear hc hk hj1))
  obtain ⟨j, rfl⟩ := Int.eq_ofNat_of_zero_le hj0
  go_loopw [5, 6, 7, 8] (fun o xv vv i wr => ∃ (q k : Nat) (x v : Int), i = .int .i64 q ∧ xv = .int .i64 x ∧ vv = .int .i64 v ∧ q + k ≤ 61 ∧ (-1000000000 ≤ x ∧ x ≤ 1000000000) ∧ (-(3 * (k : Int)) ≤ v ∧ v ≤ 3 * (k : Int)) ∧ Hid ((∃ ys, wr.ownsRow w.heap.size 3 1 o k (ils ys k)) ∧ Cu wr c a len cap ∧ Keep c w wr)) (fun _ _ _ i _ => (intOf i).toNat)
  case atStart => exact ⟨j, 0, _, 0, rfl, rfl, rfl, by omega, by omega, by omega, ⟨fun _ => 0, own_keep (own_empty w 3 1) K2.out hcl⟩, HC2.out, ((Keep.refl _ _).call (below_one _ _)).trans K2.out⟩
  case round =>
    clear K1 K2 HC1 HC2 HD hx0 hx2
    obtain ⟨q, k, x, v, rfl, rfl, rfl, hq, hxb, hvb0, hcur⟩ := hrel
    obtain ⟨ys, ho⟩ := hcur.out.1
    have HO : Hid (wr.ownsRow w.heap.size 3 1 _ k (ils ys k)) := ho
    have HCW : Hid (Cu wr c a len cap) := hcur.out.2.1
    have HKW : Hid (Keep c w wr) := hcur.out.2.2
    clear ho hcur
    by_cases h1 : 0 < q
    · go_upto_region 7 with (first
        | (go_at_call 65; refine (below_x HCW.out 30).mono ?_; rintro e w2 ⟨x2, hx0, _, hx1, rfl, hc, hk⟩; have hx3 := hx1 (by omega); have HC2 : Hid (Cu w2 c a len cap) := hc; have HK2 : Hid (Keep c w w2) := HKW.out.trans hk; have HO2 : Hid (w2.ownsRow w.heap.size 3 1 _ k (ils ys k)) := own_keep HO.out hk hcl; clear hc hk hx1))
      clear HO HCW HKW
      by_cases c0 : x2 = 0
      · subst c0
        go_upto_region 11 with (first
          | (go_at_call 65; refine (below_x HC2.out 200001).mono ?_; rintro e w3 ⟨x4, hx4, _, hx5, rfl, hc, hk⟩; have hx6 := hx5 (by omega); have HC6 : Hid (Cu w3 c a len cap) := hc; have HK6 : Hid (Keep c w w3) := HK2.out.trans hk; have HO6 : Hid (w3.ownsRow w.heap.size 3 1 _ k (ils ys k)) := own_keep HO2.out hk hcl; clear hc hk hx5))
        have hxx : -1000000000 ≤ x4 - 100000 ∧ x4 - 100000 ≤ 1000000000 := by omega
        clear HC2 HK2 HO2 hx4 hx6 hx0 hx3
        generalize x4 - 100000 = x6 at *
        have hb3 := below_one w3 (.cells #[.int .i64 x6] 3)
        have HO3 := own_below HO6.out hb3
        have K3 : Hid (Keep c w (w3.alloc (.cells #[.int .i64 x6] 3))) := HK6.out.call hb3
        have HC3 : Hid (Cu (w3.alloc (.cells #[.int .i64 x6] 3)) c a len cap) := HC6.out.call hb3
        have hs3 := K3.out.size
        clear hb3
        go_upto_region 12 with (first
          | (at_builtin; refine wpList_append_own _ rfl _ _ 24 rfl w.heap.size 3 i0 (.int .i64 0) 1 8 Tryd.underlying24 hi hz0 hz1 hz2 rfl (by decide) _ _ _ rfl HO3 ⟨w3.heap.size, 0, none⟩ 1 1 [.int .i64 x6] rfl rfl (one_new _ _ _) (by simp [Value.oneCell']) (by unfold maxLen; omega) (by omega) hs3 ?_; intro v' w4 hown' hgrow _; have HB4 : Hid (Below w.heap.size (w3.alloc (.cells #[.int .i64 x6] 3)) w4) := grown_below (Below.refl w.heap.size _) hs3 HO3 hgrow; rw [ils_app] at hown'; have HO4 : Hid _ := hown'; clear hown' hgrow HO3))
        have HC4 : Hid (Cu w4 c a len cap) := HC.out.grow HC3.out K3.out HB4.out
        have HK4 : Hid (Keep c w w4) := K3.out.below HB4.out
        obtain ⟨g, gc, hv9, hgb, hgc⟩ := own_some3 HO4.out (by omega)
        subst hv9
        generalize (fun i => if i = k then x6 else ys i) = zs at HO4
        clear HB4 K3 HC3 hs3 HO6 HC6 HK6
        go_upto_region 13 with (first
          | (go_at_call 65; refine (below_x HC4.out 7).mono ?_; rintro e w5 ⟨x7, hy0, _, hy1, rfl, hc, hk⟩; have hy2 := hy1 (by omega); have HC5 : Hid (Cu w5 c a len cap) := hc; have HK5 : Hid (Keep c w w5) := HK4.out.trans hk; have HO5 : Hid (w5.ownsRow w.heap.size 3 1 (.slice (some ⟨g, 0, none⟩) (k + 1) gc) (k + 1) (ils zs (k + 1))) := own_keep HO4.out hk hcl; clear hc hk hy1))
        obtain ⟨v2, hv2⟩ : ∃ v2, v2 = v + x7 - 3 := ⟨_, rfl⟩
        rw [← hv2]
        have hvb : -(3 * ((k : Int) + 1)) ≤ v2 ∧ v2 ≤ 3 * ((k : Int) + 1) := by omega
        clear hv2 hy0 hy2 HC4 HK4 HO4
        have iS := sSmp_any (x6 + v2)
        by_cases hsm : Smp (x6 + v2)
        · rw [decide_eq_true hsm] at iS
          go_wp2_with (first | (go_at_call 78; (with_reducible refine (iS _).mono ?_); rintro e w' ⟨rfl, hw⟩; obtain rfl := hw.symm))
          go_roundw
          case rel => exact ⟨q - 1, k + 1, x6 + v2, v2, by congr 1; omega, rfl, rfl, by omega, hsm, by omega, ⟨zs, HO5.out⟩, HC5.out, HK5.out⟩
          case measure => simp [intOf]; omega
        · rw [decide_eq_false hsm] at iS
          go_wp2_with (first | (go_at_call 78; (with_reducible refine (iS _).mono ?_); rintro e w' ⟨rfl, hw⟩; obtain rfl := hw.symm))
          go_roundw
          case rel => exact ⟨q - 1, k + 1, 0, v2, by congr 1; omega, rfl, rfl, by omega, by omega, by omega, ⟨zs, HO5.out⟩, HC5.out, HK5.out⟩
          case measure => simp [intOf]; omega
      · by_cases c1 : x2 = 1
        · subst c1
          go_upto_region 11 with (first
            | (go_at_call 54; refine (pkw8 HC2.out).mono ?_; rintro e w3 ⟨x4, hxx, rfl, hc, hk⟩; have HC6 : Hid (Cu w3 c a len cap) := hc; have HK6 : Hid (Keep c w w3) := HK2.out.trans hk; have HO6 : Hid (w3.ownsRow w.heap.size 3 1 _ k (ils ys k)) := own_keep HO2.out hk hcl; clear hc hk))
          clear HC2 HK2 HO2 hx0 hx3
          generalize x4 = x6 at *
          have hb3 := below_one w3 (.cells #[.int .i64 x6] 3)
          have HO3 := own_below HO6.out hb3
          have K3 : Hid (Keep c w (w3.alloc (.cells #[.int .i64 x6] 3))) := HK6.out.call hb3
          have HC3 : Hid (Cu (w3.alloc (.cells #[.int .i64 x6] 3)) c a len cap) := HC6.out.call hb3
          have hs3 := K3.out.size
          clear hb3
          go_upto_region 12 with (first
            | (at_builtin; refine wpList_append_own _ rfl _ _ 24 rfl w.heap.size 3 i0 (.int .i64 0) 1 8 Tryd.underlying24 hi hz0 hz1 hz2 rfl (by decide) _ _ _ rfl HO3 ⟨w3.heap.size, 0, none⟩ 1 1 [.int .i64 x6] rfl rfl (one_new _ _ _) (by simp [Value.oneCell']) (by unfold maxLen; omega) (by omega) hs3 ?_; intro v' w4 hown' hgrow _; have HB4 : Hid (Below w.heap.size (w3.alloc (.cells #[.int .i64 x6] 3)) w4) := grown_below (Below.refl w.heap.size _) hs3 HO3 hgrow; rw [ils_app] at hown'; have HO4 : Hid _ := hown'; clear hown' hgrow HO3))
          have HC4 : Hid (Cu w4 c a len cap) := HC.out.grow HC3.out K3.out HB4.out
          have HK4 : Hid (Keep c w w4) := K3.out.below HB4.out
          obtain ⟨g, gc, hv9, hgb, hgc⟩ := own_some3 HO4.out (by omega)
          subst hv9
          generalize (fun i => if i = k then x6 else ys i) = zs at HO4
          clear HB4 K3 HC3 hs3 HO6 HC6 HK6
          go_upto_region 13 with (first
            | (go_at_call 65; refine (below_x HC4.out 7).mono ?_; rintro e w5 ⟨x7, hy0, _, hy1, rfl, hc, hk⟩; have hy2 := hy1 (by omega); have HC5 : Hid (Cu w5 c a len cap) := hc; have HK5 : Hid (Keep c w w5) := HK4.out.trans hk; have HO5 : Hid (w5.ownsRow w.heap.size 3 1 (.slice (some ⟨g, 0, none⟩) (k + 1) gc) (k + 1) (ils zs (k + 1))) := own_keep HO4.out hk hcl; clear hc hk hy1))
          obtain ⟨v2, hv2⟩ : ∃ v2, v2 = v + x7 - 3 := ⟨_, rfl⟩
          rw [← hv2]
          have hvb : -(3 * ((k : Int) + 1)) ≤ v2 ∧ v2 ≤ 3 * ((k : Int) + 1) := by omega
          clear hv2 hy0 hy2 HC4 HK4 HO4
          have iS := sSmp_any (x6 + v2)
          by_cases hsm : Smp (x6 + v2)
          · rw [decide_eq_true hsm] at iS
            go_wp2_with (first | (go_at_call 78; (with_reducible refine (iS _).mono ?_); rintro e w' ⟨rfl, hw⟩; obtain rfl := hw.symm))
            go_roundw
            case rel => exact ⟨q - 1, k + 1, x6 + v2, v2, by congr 1; omega, rfl, rfl, by omega, hsm, by omega, ⟨zs, HO5.out⟩, HC5.out, HK5.out⟩
            case measure => simp [intOf]; omega
          · rw [decide_eq_false hsm] at iS
            go_wp2_with (first | (go_at_call 78; (with_reducible refine (iS _).mono ?_); rintro e w' ⟨rfl, hw⟩; obtain rfl := hw.symm))
            go_roundw
            case rel => exact ⟨q - 1, k + 1, 0, v2, by congr 1; omega, rfl, rfl, by omega, by omega, by omega, ⟨zs, HO5.out⟩, HC5.out, HK5.out⟩
            case measure => simp [intOf]; omega
        · go_upto_region 11 with fail
          obtain ⟨w3, hw3⟩ : ∃ w3, w3 = w2 := ⟨_, rfl⟩
          have HO6 : Hid _ := HO2
          have HC6 : Hid (Cu w2 c a len cap) := HC2
          have HK6 : Hid (Keep c w w2) := HK2
          have hxx := hxb
          clear HC2 HK2 HO2 hx0 hx3 hw3
          generalize x = x6 at *
          have hb3 := below_one w2 (.cells #[.int .i64 x6] 3)
          have HO3 := own_below HO6.out hb3
          have K3 : Hid (Keep c w (w2.alloc (.cells #[.int .i64 x6] 3))) := HK6.out.call hb3
          have HC3 : Hid (Cu (w2.alloc (.cells #[.int .i64 x6] 3)) c a len cap) := HC6.out.call hb3
          have hs3 := K3.out.size
          clear hb3
          go_upto_region 12 with (first
            | (at_builtin; refine wpList_append_own _ rfl _ _ 24 rfl w.heap.size 3 i0 (.int .i64 0) 1 8 Tryd.underlying24 hi hz0 hz1 hz2 rfl (by decide) _ _ _ rfl HO3 ⟨w2.heap.size, 0, none⟩ 1 1 [.int .i64 x6] rfl rfl (one_new _ _ _) (by simp [Value.oneCell']) (by unfold maxLen; omega) (by omega) hs3 ?_; intro v' w4 hown' hgrow _; have HB4 : Hid (Below w.heap.size (w2.alloc (.cells #[.int .i64 x6] 3)) w4) := grown_below (Below.refl w.heap.size _) hs3 HO3 hgrow; rw [ils_app] at hown'; have HO4 : Hid _ := hown'; clear hown' hgrow HO3))
          have HC4 : Hid (Cu w4 c a len cap) := HC.out.grow HC3.out K3.out HB4.out
          have HK4 : Hid (Keep c w w4) := K3.out.below HB4.out
          obtain ⟨g, gc, hv9, hgb, hgc⟩ := own_some3 HO4.out (by omega)
          subst hv9
          generalize (fun i => if i = k then x6 else ys i) = zs at HO4
          clear HB4 K3 HC3 hs3 HO6 HC6 HK6
          go_upto_region 13 with (first
            | (go_at_call 65; refine (below_x HC4.out 7).mono ?_; rintro e w5 ⟨x7, hy0, _, hy1, rfl, hc, hk⟩; have hy2 := hy1 (by omega); have HC5 : Hid (Cu w5 c a len cap) := hc; have HK5 : Hid (Keep c w w5) := HK4.out.trans hk; have HO5 : Hid (w5.ownsRow w.heap.size 3 1 (.slice (some ⟨g, 0, none⟩) (k + 1) gc) (k + 1) (ils zs (k + 1))) := own_keep HO4.out hk hcl; clear hc hk hy1))
          obtain ⟨v2, hv2⟩ : ∃ v2, v2 = v + x7 - 3 := ⟨_, rfl⟩
          rw [← hv2]
          have hvb : -(3 * ((k : Int) + 1)) ≤ v2 ∧ v2 ≤ 3 * ((k : Int) + 1) := by omega
          clear hv2 hy0 hy2 HC4 HK4 HO4
          have iS := sSmp_any (x6 + v2)
          by_cases hsm : Smp (x6 + v2)
          · rw [decide_eq_true hsm] at iS
            go_wp2_with (first | (go_at_call 78; (with_reducible refine (iS _).mono ?_); rintro e w' ⟨rfl, hw⟩; obtain rfl := hw.symm))
            go_roundw
            case rel => exact ⟨q - 1, k + 1, x6 + v2, v2, by congr 1; omega, rfl, rfl, by omega, hsm, by omega, ⟨zs, HO5.out⟩, HC5.out, HK5.out⟩
            case measure => simp [intOf]; omega
          · rw [decide_eq_false hsm] at iS
            go_wp2_with (first | (go_at_call 78; (with_reducible refine (iS _).mono ?_); rintro e w' ⟨rfl, hw⟩; obtain rfl := hw.symm))
            go_roundw
            case rel => exact ⟨q - 1, k + 1, 0, v2, by congr 1; omega, rfl, rfl, by omega, by omega, by omega, ⟨zs, HO5.out⟩, HC5.out, HK5.out⟩
            case measure => simp [intOf]; omega
    · obtain rfl : q = 0 := by omega
      go_wp2
      go_ret
      exact ⟨_, k, ys, rfl, by omega, HO.out, HCW.out, HKW.out⟩

set_option maxHeartbeats 4000000 in
theorem dpa_x {w : World} {a : Option Addr} {len cap : Nat} (hr : Row w a len) (hl : len ≤ 1048576) :
    Calls Tryd.prog 17 #[.slice a len cap] w fun e w' => ∃ u n xs s, e = .returned (.tuple #[u, .int .i64 s]) ∧ n ≤ 61 ∧ (0 ≤ s ∧ s ≤ 129) ∧ Il w' u n xs ∧ Below w.heap.size w w' := by
  have HR : Hid (Row w a len) := hr
  clear hr
  obtain ⟨c, hcd⟩ : ∃ c, w.heap.size = c := ⟨_, rfl⟩
  have HN : Hid (Calls Tryd.prog 37 #[.slice a len cap] w fun e w' => e = .returned (.pointer (some ⟨c, 0, none⟩)) ∧ Cu w' c a len cap ∧ Below w.heap.size w w') := by have := new_x (cap := cap) HR.out (by omega); rw [← hcd]; exact this
  go_enter Tryd.func17, Tryd.ntmps17
  go_wp2_with (first
    | (go_at_call 37; refine HN.out.mono ?_; rintro e w1 ⟨rfl, hc, hb⟩; have HC : Hid (Cu w1 c a len cap) := hc; have B1 : Hid (Below w.heap.size w w1) := hb; have hcl := hc.lt; clear hc hb)
    | (go_at_call 40; refine (size_x a len cap 40 hl).mono ?_; rintro e w' ⟨sz, rfl, hs0, hs1, hs2, hw⟩; have hs3 := hs2 (by omega); obtain rfl := hw.symm)
    | (go_at_call 53; refine (ddraw_x HC.out sz (by omega)).mono ?_; rintro e w4 ⟨u, n, ys, rfl, hn, ho, hc, hk⟩; have HO4 : Hid (w4.ownsRow w1.heap.size 3 1 u n (ils ys n)) := ho; have K4 : Hid (Keep c w1 w4) := hk; have HC4 : Hid (Cu w4 c a len cap) := hc; clear ho hc hk)
    | (go_at_call 54; refine (pka HC4.out).mono ?_; rintro e w6 ⟨x6, hx6, rfl, hc, hk⟩; have HO6 : Hid (w6.ownsRow w1.heap.size 3 1 u n (ils ys n)) := own_keep HO4.out hk hcl; have K6 : Hid (Keep c w1 w6) := K4.out.trans hk; clear hc hk))
  go_ret2
  exact ⟨_, n, ys, _, rfl, hn, hx6, il_of_own HO6.out, Below.keep B1.out K6.out (Nat.le_of_eq hcd)⟩
end Go.Proofs.YtndagpompioooaaDoor

namespace Go.Proofs.YtndagpompioooaaDoor
open Go.RowKit

set_option maxHeartbeats 2000000 in
theorem same_yes {w : World} {v u : Value} {n : Nat} {xs ys : Nat → Int} (hv : Il w v n xs) (hu : Il w u n ys) (hn : n ≤ 1048576) (he : ∀ k, k < n → xs k = ys k) :
    Calls Tryd.prog 16 #[v, u] w fun e w' => e = .returned (.bool true) ∧ Below w.heap.size w w' := by
  obtain ⟨ao, cap, rfl, hcap, hc⟩ := hv
  obtain ⟨bo, cap2, rfl, hcap2, hc2⟩ := hu
  have HC : Hid (0 < n → ∃ b off, ao = some ⟨b, off, none⟩ ∧ b < w.heap.size ∧ ∀ k, k < n → w.cell? ⟨b, off + k, none⟩ = some (.int .i64 (xs k))) := hc
  have HC2 : Hid (0 < n → ∃ b off, bo = some ⟨b, off, none⟩ ∧ b < w.heap.size ∧ ∀ k, k < n → w.cell? ⟨b, off + k, none⟩ = some (.int .i64 (xs k))) := fun h0 => by
    obtain ⟨b, off, h1, h2, h3⟩ := hc2 h0
    exact ⟨b, off, h1, h2, fun k hk => by rw [he k hk]; exact h3 k hk⟩
  clear hc hc2 he
  go_enter Tryd.func16, Tryd.ntmps16
  go_wp2
  go_loopw [5] (fun i wr => ∃ k : Nat, i = .int .i64 k ∧ k ≤ n ∧ Hid (Below w.heap.size w wr)) (fun i _ => n - (intOf i).toNat)
  case atStart => exact ⟨0, rfl, by omega, Below.refl _ _⟩
  case round =>
    obtain ⟨k, rfl, hk, hbl⟩ := hrel
    by_cases h1 : k < n
    · obtain ⟨b, off, rfl, hlt, hcell⟩ := HC.out (by omega)
      obtain ⟨b2, off2, rfl, hlt2, hcell2⟩ := HC2.out (by omega)
      have c1 : wr.cell? ⟨b, off + k, none⟩ = some (.int .i64 (xs k)) := (hbl.out.cell (p := ⟨b, off + k, none⟩) hlt).trans (hcell k h1)
      have c2 : wr.cell? ⟨b2, off2 + k, none⟩ = some (.int .i64 (xs k)) := (hbl.out.cell (p := ⟨b2, off2 + k, none⟩) hlt2).trans (hcell2 k h1)
      clear hcell hcell2
      go_wp2_with (go_quiet (fail))
      go_roundw
      case rel => exact ⟨k + 1, by go_num, by omega, below_drewN hbl.out _⟩
      case measure => simp [intOf]; omega
    · obtain rfl : k = n := by omega
      go_wp2
      go_ret
      exact ⟨rfl, hbl.out⟩

/-- A list that is written out. -/
theorem lit_il (W : World) (L : List Int) : Il (W.alloc (.cells (L.map (fun x => Value.int .i64 x)).toArray 3)) (.slice (some ⟨W.heap.size, 0, none⟩) L.length L.length) L.length (fun i => L.getD i 0) := by
  refine ⟨_, _, rfl, Nat.le_refl _, fun _ => ⟨W.heap.size, 0, rfl, by simp, fun k hk => ?_⟩⟩
  rw [Nat.zero_add]
  exact lit_cells W L 3 k hk


/-- What PackAll tells, on both sides. -/
theorem packall_both {n : Nat} {xs : Nat → Int} (hn : n ≤ 512) {s : Nat} : ∃ (N : Nat) (ys : Nat → Int) (ok : Bool), (ok = true → Sig n xs ∧ (1 ≤ s ∧ s ≤ 128) ∧ Pgd n s ((n + s - 1) / s) xs ∧ N = (pal n s xs ((n + s - 1) / s)).length ∧ ys = lf (pal n s xs ((n + s - 1) / s))) ∧ (ok = false → N = 0) ∧ (∀ W u, Il W u n xs → Calls Tryd.prog 18 #[u, .int .i64 (s : Int)] W fun e w' => Psb W w' e N ys ok) ∧ ∀ W u, Il W u n xs → Calls Tryd.prog 19 #[u, .int .i64 (s : Int)] W fun e w' => Psb W w' e N ys ok := by
  by_cases h : Sig n xs ∧ (1 ≤ s ∧ s ≤ 128)
  · refine ⟨if decide (Pgd n s ((n + s - 1) / s) xs) = true then (pal n s xs ((n + s - 1) / s)).length else 0, lf (pal n s xs ((n + s - 1) / s)), decide (Pgd n s ((n + s - 1) / s) xs), fun h9 => ⟨h.1, h.2, of_decide_eq_true h9, if_pos h9, rfl⟩, fun h9 => if_neg (by rw [h9]; exact Bool.false_ne_true), fun W u hu => iAll_good hu h.1 h.2 rfl _ rfl _ rfl, fun W u hu => sAll_good hu h.1 h.2 rfl _ rfl _ rfl⟩
  · exact ⟨0, fun _ => 0, false, (fun h9 => Bool.noConfusion h9), fun _ => rfl, fun W u hu => iAll_bad hu (by omega) (fun h9 => h ⟨h9.1, by omega⟩) _, fun W u hu => sAll_bad hu (by omega) (fun h9 => h ⟨h9.1, by omega⟩) _⟩

theorem small_told (x : Int) (h : fN 1 (fun _ => x) = 6) (h2 : fok 1 (fun _ => x) = true) : ∀ W u, Il W u 1 (fun _ => x) → Calls Tryd.prog 20 #[u] W fun e w' => Psb W w' e 6 (fY 1 (fun _ => x)) true := by
  have h9 := (frame_told (n := 1) (xs := fun _ => x) (by omega)).2.2
  rw [h, h2] at h9
  exact h9
theorem small_0 : fN 1 (fun _ => 0) = 6 ∧ fok 1 (fun _ => 0) = true := by decide +kernel

theorem pal_byt {n s : Nat} {xs : Nat → Int} (P : Nat) : ∀ k, k < (pal n s xs P).length → 0 ≤ lf (pal n s xs P) k ∧ lf (pal n s xs P) k < 256 := by
  induction P with
  | zero => intro k hk; exact absurd hk (Nat.not_lt_zero _)
  | succ P ih =>
    intro k hk
    by_cases c : k < (pal n s xs P).length
    · rw [pal, lf_left c]; exact ih k c
    · rw [pal_len] at hk
      have h1 := pal_at (n := n) (s := s) (xs := xs) (show P < P + 1 by omega) (k := k - (pal n s xs P).length) (by omega)
      rw [show (pal n s xs P).length + (k - (pal n s xs P).length) = k by omega] at h1
      rw [h1]
      exact fY_byt _ _ _ (by omega)
end Go.Proofs.YtndagpompioooaaDoor

namespace Go.Proofs.YtndagpompioooaaDoor
open Go.RowKit

theorem il_num {w : World} {v : Value} {Q n : Nat} {f : Nat → Int} (h : Il w v Q f) (e : Q = n) : Il w v n f := by subst e; exact h

set_option maxRecDepth 20000 in
set_option maxHeartbeats 16000000 in
theorem walk_filed {w : World} {a : Option Addr} {len cap : Nat} (hg : Eg w) (hr : Row w a len) (hl : len ≤ 9223372036854775807) : Calls Tryd.prog 4 #[.slice a len cap] w fun e w' => e = .returned (.bool true) ∧ Below w.heap.size w w' := by
  have hB := big_x (w := w) a len cap hl
  rcases Nat.lt_or_ge 1048576 len with h | h
  · rw [decide_eq_true (by omega)] at hB
    clear hr hg
    go_enter Tryd.func4, Tryd.ntmps4
    go_wp2_with (first | (go_at_call 9; (with_reducible refine (hB).mono ?_); rintro e w' ⟨rfl, hw⟩; obtain rfl := hw.symm))
    go_ret
    exact ⟨rfl, Below.refl _ _⟩
  · rw [decide_eq_false (by omega)] at hB
    have HEG : Hid (∀ W, Below w.heap.size w W → Eg W) := fun W hW => keepc hW hg
    have HD : Hid (Calls Tryd.prog 17 #[.slice a len cap] w fun e w' => ∃ u n xs s, e = .returned (.tuple #[u, .int .i64 s]) ∧ n ≤ 61 ∧ (0 ≤ s ∧ s ≤ 129) ∧ Il w' u n xs ∧ Below w.heap.size w w') := dpa_x hr h
    have HPF : Hid (∀ W u, Il W u 1 (fun _ => 0) → Calls Tryd.prog 20 #[u] W fun e w' => Psb W w' e 6 (fY 1 (fun _ => 0)) true) := small_told 0 small_0.1 small_0.2
    clear hr hg
    go_enter Tryd.func4, Tryd.ntmps4
    go_upto_region 4 with (first | (go_at_call 9; (with_reducible refine (hB).mono ?_); rintro e w' ⟨rfl, hw⟩; obtain rfl := hw.symm) | (go_at_call 17; refine HD.out.mono ?_; rintro e w1 ⟨u, n, xs, s, rfl, hn, hs, hu, hb⟩; have HU : Hid (Il w1 u n xs) := hu; have BW : Hid (Below w.heap.size w w1) := hb; obtain ⟨ua, uc, hu9, huc, _⟩ := hu; subst hu9; clear hb))
    clear hB HD
    obtain ⟨sz, rfl⟩ := Int.eq_ofNat_of_zero_le hs.1
    obtain ⟨N, y, ok, hok, hno, hI, hS⟩ := packall_both (n := n) (xs := xs) (by omega) (s := sz)
    have HIA : Hid _ := hI
    have HSA : Hid _ := hS
    have HOK : Hid _ := hok
    have hkk : (ok != ok) = false := by simp
    clear hI hS hok
    go_upto_region 11 with (first
      | (go_at_call 18; refine (HIA.out _ _ HU.out).mono ?_; rintro e w2 ⟨x2, rfl, ho, hb⟩; obtain ⟨ba, bc, hb9⟩ := own_sliceb ho; subst hb9; have HBY : Hid (Bl w2 (.slice ba N bc) N y) := bl_of_own ho; have HU : Hid (Il w2 (.slice ua n uc) n xs) := HU.out.below hb; have BW : Hid (Below w.heap.size w w2) := bstep BW.out hb; clear ho hb)
      | (go_at_call 19; refine (HSA.out _ _ HU.out).mono ?_; rintro e w3 ⟨x3, rfl, ho, hb⟩; obtain ⟨ca, cc3, hb9⟩ := own_sliceb ho; subst hb9; have HBY : Hid (Bl w3 (.slice ba N bc) N y) := HBY.out.below hb; have HU : Hid (Il w3 (.slice ua n uc) n xs) := HU.out.below hb; have BW : Hid (Below w.heap.size w w3) := bstep BW.out hb; clear ho hb)
      | (go_at_call 20; refine (HPF.out _ _ (il_new _ 0)).mono ?_; rintro e w4 ⟨x4, rfl, ho, hb⟩; obtain ⟨da, dc, hb9⟩ := own_sliceb ho; subst hb9; have HBY : Hid (Bl w4 (.slice ba N bc) N y) := (HBY.out.below (below_one _ _)).below hb; have HU : Hid (Il w4 (.slice ua n uc) n xs) := (HU.out.below (below_one _ _)).below hb; have BW : Hid (Below w.heap.size w w4) := bstep (bstep BW.out (below_one _ _)) hb; clear ho hb))
    clear HIA HSA HPF hkk
    cases ok with
    | false =>
      have hN := hno rfl
      subst hN
      clear HOK hno
      go_wp2
      go_ret
      exact ⟨rfl, BW.out⟩
    | true =>
      obtain ⟨hsig, hsz, hpg, hNe, hye⟩ := HOK.out rfl
      obtain ⟨P, hP⟩ : ∃ P, P = (n + sz - 1) / sz := ⟨_, rfl⟩
      rw [← hP] at hpg hNe hye
      have hN2 : N ≤ 20000 := by rw [hNe]; exact hpg.2
      have hPn := blocks_lt hsz.1 hP
      have hYB : Byt N y := fun k hk => by rw [hye]; exact pal_byt P k (by rw [← hNe]; exact hk)
      obtain ⟨ht1, ht2⟩ := whole_tot (M := N) hpg.1 hNe
      rw [← hye] at ht1 ht2
      have HIO : Hid (∀ W u, Eg W → Bl W u N y → Calls Tryd.prog 21 #[u] W fun e w' => Poa W w' e (osm N y (oT N y)) (opl N y (oT N y)) (oC N y)) := fun W u hg hu => iOA_good hg hu hYB hN2
      clear HOK hno
      by_cases h60 : 60 ≤ P
      · obtain ⟨T, hT⟩ : ∃ T, T = oT N y := ⟨_, rfl⟩
        obtain ⟨C, hC⟩ : ∃ C : Int, C = (oC N y : Int) := ⟨_, rfl⟩
        obtain ⟨Q, hQ⟩ : ∃ Q, Q = (osm N y (oT N y)).length := ⟨_, rfl⟩
        obtain ⟨zf, hzf⟩ : ∃ zf, zf = lf (osm N y (oT N y)) := ⟨_, rfl⟩
        obtain ⟨pf, hpf⟩ : ∃ pf, pf = lf (opl N y (oT N y)) := ⟨_, rfl⟩
        unfold Poa at HIO
        rw [← hQ, ← hzf, ← hpf, ← hC, ← hT] at HIO
        rw [opl_len] at HIO
        have HOA : Hid _ := HIO
        have hT60 : T = 60 := by rw [hT, ht1]; omega
        subst hT60
        obtain ⟨Q3, hQ3⟩ : ∃ Q3, Q3 = (mnd N y N 0 0).1.length := ⟨_, rfl⟩
        obtain ⟨zm, hzm⟩ : ∃ zm, zm = lf (mnd N y N 0 0).1 := ⟨_, rfl⟩
        obtain ⟨lm, hlm⟩ : ∃ lm : Int, lm = ((mnd N y N 0 0).2 : Int) := ⟨_, rfl⟩
        have HMD : Hid (∀ W u, Eg W → Bl W u N y → Calls Tryd.prog 22 #[u] W fun e w' => ∃ u, e = .returned (.tuple #[u, .int .i64 lm]) ∧ w'.ownsRow W.heap.size 3 1 u Q3 (ils zm Q3) ∧ Below W.heap.size W w') := by
          rw [hQ3, hzm, hlm]
          exact fun W u hg hu => iMd_good hg hu hYB hN2
        have hC5 : C = 5 ∨ C = 0 := by
          rw [hC, ht2]
          split
          · exact .inr rfl
          · exact .inl rfl
        obtain ⟨T, hT9⟩ : ∃ T, T = 60 := ⟨_, rfl⟩
        rw [← hT9] at HOA
        have hT60 : 60 ≤ T := by omega
        have HT9 : Hid (T = 60) := hT9
        clear hT9 hT hC hQ hzf hpf hQ3 hzm hlm HIO ht1 ht2 hpg hNe hye hYB hPn hsig hP
        rcases hC5 with rfl | rfl
        · go_wp2_with (first
            | (go_at_call 21; refine (HOA.out _ _ (HEG.out _ BW.out) HBY.out).mono ?_; rintro e w5 ⟨r1, r2, rfl, ho1, ho2, _, hb⟩; obtain ⟨r1a, r1c, h19⟩ := own_slice3 ho1; subst h19; obtain ⟨r2a, r2c, h29⟩ := own_slice3 ho2; subst h29; have HR1 : Hid (Il w5 (.slice r1a Q r1c) Q zf) := il_of_own ho1; have HPL : Hid (w5.ownsRow w4.heap.size 3 1 (.slice r2a T r2c) T (ils pf T)) := ho2; have HU : Hid (Il w5 (.slice ua n uc) n xs) := HU.out.below hb; have HBY : Hid (Bl w5 (.slice ba N bc) N y) := HBY.out.below hb; have BW : Hid (Below w.heap.size w w5) := bstep BW.out hb; clear ho1 ho2 hb)
            | (go_at_call 22; refine (HMD.out _ _ (HEG.out _ BW.out) HBY.out).mono ?_; rintro e w6 ⟨r3, rfl, ho3, hb⟩; obtain ⟨r3a, r3c, h39⟩ := own_slice3 ho3; subst h39; have HR3 : Hid (Il w6 (.slice r3a Q3 r3c) Q3 zm) := il_of_own ho3; have HR1 : Hid (Il w6 (.slice r1a Q r1c) Q zf) := HR1.out.below hb; have HPL : Hid (w6.ownsRow w4.heap.size 3 1 (.slice r2a T r2c) T (ils pf T)) := own_below HPL.out hb; have HU : Hid (Il w6 (.slice ua n uc) n xs) := HU.out.below hb; have HBY : Hid (Bl w6 (.slice ba N bc) N y) := HBY.out.below hb; have BW : Hid (Below w.heap.size w w6) := bstep BW.out hb; clear ho3 hb))
          go_ret
          exact ⟨rfl, BW.out⟩
        · go_wp2_with (first
            | (go_at_call 21; refine (HOA.out _ _ (HEG.out _ BW.out) HBY.out).mono ?_; rintro e w5 ⟨r1, r2, rfl, ho1, ho2, _, hb⟩; obtain ⟨r1a, r1c, h19⟩ := own_slice3 ho1; subst h19; obtain ⟨r2a, r2c, h29⟩ := own_slice3 ho2; subst h29; have HR1 : Hid (Il w5 (.slice r1a Q r1c) Q zf) := il_of_own ho1; have HPL : Hid (w5.ownsRow w4.heap.size 3 1 (.slice r2a T r2c) T (ils pf T)) := ho2; have HU : Hid (Il w5 (.slice ua n uc) n xs) := HU.out.below hb; have HBY : Hid (Bl w5 (.slice ba N bc) N y) := HBY.out.below hb; have BW : Hid (Below w.heap.size w w5) := bstep BW.out hb; clear ho1 ho2 hb)
            | (go_at_call 22; refine (HMD.out _ _ (HEG.out _ BW.out) HBY.out).mono ?_; rintro e w6 ⟨r3, rfl, ho3, hb⟩; obtain ⟨r3a, r3c, h39⟩ := own_slice3 ho3; subst h39; have HR3 : Hid (Il w6 (.slice r3a Q3 r3c) Q3 zm) := il_of_own ho3; have HR1 : Hid (Il w6 (.slice r1a Q r1c) Q zf) := HR1.out.below hb; have HPL : Hid (w6.ownsRow w4.heap.size 3 1 (.slice r2a T r2c) T (ils pf T)) := own_below HPL.out hb; have HU : Hid (Il w6 (.slice ua n uc) n xs) := HU.out.below hb; have HBY : Hid (Bl w6 (.slice ba N bc) N y) := HBY.out.below hb; have BW : Hid (Below w.heap.size w w6) := bstep BW.out hb; clear ho3 hb))
          go_ret
          exact ⟨rfl, BW.out⟩
      · have hP6 : P < 60 := by omega
        have ht1 : oT N y = P := by rw [ht1]; omega
        have ht2 : oC N y = 0 := by rw [ht2, if_pos (by omega)]
        have hPs : min (P * sz) n = n := by
          have := mt (hPn P).2 (Nat.lt_irrefl P)
          omega
        have hO : osm N y P = (List.range n).map xs := by
          have h9 := cut_osm (M := N) hpg.1 hPn P (Nat.le_refl _) (Nat.le_of_eq hNe.symm)
          rw [← hye, hPs] at h9
          exact h9
        have hL : (osm N y P).length = n := by rw [hO, List.length_map, List.length_range]
        have hM := whole_mend (M := N) hpg.1 hNe (by omega)
        rw [← hye] at hM
        have hat : ∀ q, q ≤ P → oat N y q = (pal n sz xs q).length := fun q hq => by
          have h9 := cut_oat (M := N) hpg.1 q hq (by rw [hNe]; exact pal_mono n sz xs hq)
          rw [← hye] at h9
          exact h9
        have hln : ∀ q, q ≤ P → (osm N y q).length = min (q * sz) n := fun q hq => by
          have h9 := cut_len (M := N) hpg.1 hPn q hq (by rw [hNe]; exact pal_mono n sz xs hq)
          rw [← hye] at h9
          exact h9
        obtain ⟨T, hT⟩ : ∃ T, T = P := ⟨_, rfl⟩
        obtain ⟨zf, hzf⟩ : ∃ zf, zf = lf (osm N y P) := ⟨_, rfl⟩
        obtain ⟨pf, hpf⟩ : ∃ pf, pf = lf (opl N y P) := ⟨_, rfl⟩
        obtain ⟨Q, hQ⟩ : ∃ Q, Q = n := ⟨_, rfl⟩
        have HOA : Hid (∀ W u, Eg W → Bl W u N y → Calls Tryd.prog 21 #[u] W fun e w' => Pob W w' e Q zf T pf 0) := fun W u hg hu => by
          have h9 := HIO.out W u hg hu
          unfold Poa at h9
          rw [ht1, ht2, hL, opl_len, ← hzf, ← hpf, ← hT, ← hQ] at h9
          exact h9
        obtain ⟨Q3, hQ3⟩ : ∃ Q3, Q3 = n := ⟨_, rfl⟩
        obtain ⟨zm, hzm⟩ : ∃ zm, zm = lf (osm N y P) := ⟨_, rfl⟩
        have HMD : Hid (∀ W u, Eg W → Bl W u N y → Calls Tryd.prog 22 #[u] W fun e w' => ∃ u, e = .returned (.tuple #[u, .int .i64 0]) ∧ w'.ownsRow W.heap.size 3 1 u Q3 (ils zm Q3) ∧ Below W.heap.size W w') := fun W u hg hu => by
          have h9 := iMd_good hg hu hYB hN2
          unfold Pmd at h9
          rw [hM.1, hM.2, hL, ← hzm, ← hQ3] at h9
          exact h9
        have HZ : Hid (∀ k, k < n → zf k = xs k) := fun k hk => by
          rw [hzf, hO]
          unfold lf
          rw [List.getD_eq_getElem?_getD, List.getElem?_map, List.getElem?_range hk]
          rfl
        have HZM : Hid (∀ k, k < n → zm k = xs k) := by rw [hzm, ← hzf]; exact HZ.out
        have HPF : Hid (∀ q, q < P → pf q = (oat N y q : Int)) := fun q hq => by rw [hpf]; exact opl_at hq
        have HSK : Hid (∀ (j q : Nat), j < n → q = j / sz → ∀ W u, Eg W → Bl W u N y → Calls Tryd.prog 23 #[u, .int .i64 (j : Int)] W fun e w' => e = .returned (.tuple #[.int .i64 (oat N y q : Int), .int .i64 ((q * sz : Nat) : Int)]) ∧ Below W.heap.size W w') := fun j q hj hq W u hg hu => by
          have hq1 : q * sz ≤ j := by rw [hq]; exact Nat.div_mul_le_self _ _
          have hq2 : j < (q + 1) * sz := by
            have := Nat.lt_div_mul_add (a := j) (b := sz) (by omega)
            rw [hq, Nat.add_mul, Nat.one_mul]
            exact this
          have hqP : q < P := (hPn q).2 (by omega)
          have l1 := hln q (by omega)
          have l2 := hln (q + 1) (by omega)
          have l3 : min (q * sz) n = q * sz := by omega
          rw [l3] at l1
          have hin : ((osm N y q).length : Int) ≤ (j : Int) ∧ (j : Int) < ((osm N y (q + 1)).length : Int) := by
            rw [l1, l2]
            omega
          rw [← l1]
          refine iSk_good hg hu hYB hN2 (fun i _ h5 => ?_) (fun h9 => absurd hin (h9 q (by rw [ht1]; exact hqP)))
          obtain rfl : q = i := by
            rcases Nat.lt_trichotomy q i with h6 | h6 | h6
            · have := osm_mono N y (show q + 1 ≤ i from h6); omega
            · exact h6
            · have := osm_mono N y (show i + 1 ≤ q from h6); omega
          exact ⟨rfl, rfl⟩
        have HPN : Hid (∀ t, t < P ↔ t * sz < n) := hPn
        have hP9 : P ≤ 60 := by omega
        have hT6 : ¬ (60 ≤ T) := by omega
        have HTP : Hid (T = P) := hT
        have HQ : Hid (Q = n ∧ Q3 = n) := ⟨hQ, hQ3⟩
        clear hT hzf hpf hQ hQ3 hzm HIO ht1 ht2 hpg hNe hye hYB hPn hsig hP hO hL hM hat hln hPs
        go_upto_region 19 with (first
          | (go_at_call 21; refine (HOA.out _ _ (HEG.out _ BW.out) HBY.out).mono ?_; rintro e w5 ⟨r1, r2, rfl, ho1, ho2, _, hb⟩; obtain ⟨r1a, r1c, h19⟩ := own_slice3 ho1; subst h19; obtain ⟨r2a, r2c, h29⟩ := own_slice3 ho2; subst h29; have HR1 : Hid (Il w5 (.slice r1a Q r1c) Q zf) := il_of_own ho1; have HPL : Hid (w5.ownsRow w4.heap.size 3 1 (.slice r2a T r2c) T (ils pf T)) := ho2; have HU : Hid (Il w5 (.slice ua n uc) n xs) := HU.out.below hb; have HBY : Hid (Bl w5 (.slice ba N bc) N y) := HBY.out.below hb; have BW : Hid (Below w.heap.size w w5) := bstep BW.out hb; clear ho1 ho2 hb)
          | (go_at_call 22; refine (HMD.out _ _ (HEG.out _ BW.out) HBY.out).mono ?_; rintro e w6 ⟨r3, rfl, ho3, hb⟩; obtain ⟨r3a, r3c, h39⟩ := own_slice3 ho3; subst h39; have HR3 : Hid (Il w6 (.slice r3a Q3 r3c) Q3 zm) := il_of_own ho3; have HR1 : Hid (Il w6 (.slice r1a Q r1c) Q zf) := HR1.out.below hb; have HPL : Hid (w6.ownsRow w4.heap.size 3 1 (.slice r2a T r2c) T (ils pf T)) := own_below HPL.out hb; have HU : Hid (Il w6 (.slice ua n uc) n xs) := HU.out.below hb; have HBY : Hid (Bl w6 (.slice ba N bc) N y) := HBY.out.below hb; have BW : Hid (Below w.heap.size w w6) := bstep BW.out hb; clear ho3 hb)
          | (go_at_call 16; (fail_if_success have := M1); refine (same_yes (n := n) (il_num HR1.out HQ.out.1) HU.out (by omega) HZ.out).mono ?_; rintro e w7 ⟨rfl, hb⟩; have M1 : Hid True := trivial; have HR3 : Hid (Il w7 (.slice r3a Q3 r3c) Q3 zm) := HR3.out.below hb; have HPL : Hid (w7.ownsRow w4.heap.size 3 1 (.slice r2a T r2c) T (ils pf T)) := own_below HPL.out hb; have HU : Hid (Il w7 (.slice ua n uc) n xs) := HU.out.below hb; have HBY : Hid (Bl w7 (.slice ba N bc) N y) := HBY.out.below hb; have BW : Hid (Below w.heap.size w w7) := bstep BW.out hb; clear hb)
          | (go_at_call 16; have Z := M1; refine (same_yes (n := n) (il_num HR3.out HQ.out.2) HU.out (by omega) HZM.out).mono ?_; rintro e w8 ⟨rfl, hb⟩; have HPL : Hid (w8.ownsRow w4.heap.size 3 1 (.slice r2a T r2c) T (ils pf T)) := own_below HPL.out hb; have HU : Hid (Il w8 (.slice ua n uc) n xs) := HU.out.below hb; have HBY : Hid (Bl w8 (.slice ba N bc) N y) := HBY.out.below hb; have BW : Hid (Below w.heap.size w w8) := bstep BW.out hb; clear hb))
        clear HR1 HR3 HOA HMD HZ HZM HQ
        go_wp2
        go_loopw [16, 17, 18] (fun iv _ _ wr => ∃ j : Nat, iv = .int .i64 (j : Int) ∧ j ≤ 80 ∧ Hid (wr.ownsRow w4.heap.size 3 1 (.slice r2a T r2c) T (ils pf T) ∧ Il wr (.slice ua n uc) n xs ∧ Bl wr (.slice ba N bc) N y ∧ Below w.heap.size w wr)) (fun iv _ _ _ => 80 - (intOf iv).toNat)
        case atStart => exact ⟨0, rfl, by omega, HPL.out, HU.out, HBY.out, BW.out⟩
        case round =>
          clear HPL HU HBY BW
          obtain ⟨j, rfl, hj8, hrel⟩ := hrel
          have HPL : Hid _ := hrel.out.1
          have HU : Hid (Il _ (.slice ua n uc) n xs) := hrel.out.2.1
          have HBY : Hid (Bl _ (.slice ba N bc) N y) := hrel.out.2.2.1
          have BW : Hid (Below w.heap.size w _) := hrel.out.2.2.2
          clear hrel
          by_cases hj : j < n
          · obtain ⟨q, hq⟩ : ∃ q, q = j / sz := ⟨_, rfl⟩
            obtain ⟨m, hm⟩ : ∃ m, m = q * sz := ⟨_, rfl⟩
            have hq1 : q * sz ≤ j := by rw [hq]; exact Nat.div_mul_le_self _ _
            have hqP : q < P := (HPN.out q).2 (by omega)
            have hqT : q < T := by rw [HTP.out]; exact hqP
            obtain ⟨A, hA⟩ : ∃ A, A = oat N y q := ⟨_, rfl⟩
            have HS : Hid (∀ W u, Eg W → Bl W u N y → Calls Tryd.prog 23 #[u, .int .i64 (j : Int)] W fun e w' => e = .returned (.tuple #[.int .i64 (A : Int), .int .i64 (m : Int)]) ∧ Below W.heap.size W w') := by rw [hA, hm]; exact HSK.out j q hj hq
            have e1 : (j : Int).tdiv (sz : Int) = (q : Int) := by rw [Int.tdiv_eq_ediv_of_nonneg (by omega), hq, Int.natCast_ediv]
            have e2 : (j : Int) / (sz : Int) = (q : Int) := by rw [hq, Int.natCast_ediv]
            have e3 : (q : Int) * (sz : Int) = (m : Int) := by rw [hm, Int.natCast_mul]
            have e4 : (n : Int).tdiv 6 = ((n / 6 : Nat) : Int) := by rw [Int.tdiv_eq_ediv_of_nonneg (by omega), Int.natCast_ediv]; rfl
            have hz : (sz : Int) ≠ 0 := by omega
            have hA9 : ((A : Int) != (A : Int)) = false := by simp
            have hm9 : ((m : Int) != (m : Int)) = false := by simp
            have hm8 : m ≤ 80 := by omega
            have hAN : (pf q : Int) = (A : Int) := by rw [hA]; exact HPF.out q hqP
            obtain ⟨g, hg9⟩ : ∃ g, r2a = some ⟨g, 0, none⟩ := by
              rcases HPL.out.2 with ⟨_, h2⟩ | ⟨g, cap', cur, h2, _⟩
              · omega
              · injection h2 with h3
                exact ⟨g, h3⟩
            subst hg9
            have hq80 : q ≤ 80 := by omega
            have hn6 : n / 6 ≤ 11 := by omega
            obtain ⟨n6, hn6e⟩ : ∃ n6, n6 = n / 6 := ⟨_, rfl⟩
            rw [← hn6e] at e4 hn6
            clear hq hm hA hn6e hq1
            go_wp2_with (first
              | (go_at_call 23; refine (HS.out _ _ (HEG.out _ BW.out) HBY.out).mono ?_; rintro e w9 ⟨rfl, hb⟩; have HPL : Hid (w9.ownsRow w4.heap.size 3 1 (.slice (some ⟨g, 0, none⟩) T r2c) T (ils pf T)) := own_below HPL.out hb; have HU : Hid (Il w9 (.slice ua n uc) n xs) := HU.out.below hb; have HBY : Hid (Bl w9 (.slice ba N bc) N y) := HBY.out.below hb; have BW : Hid (Below w.heap.size w w9) := bstep BW.out hb; have d0 := World.ownsRow.cellAt HPL.out q (by omega); rw [ils_get hqT, hAN] at d0; clear hb))
            go_roundw
            case rel => exact ⟨j + 1 + n6, by go_num, by omega, HPL.out, HU.out, HBY.out, BW.out⟩
            case measure => simp [intOf]; omega
          · go_wp2
            go_ret
            exact ⟨rfl, BW.out⟩
end Go.Proofs.YtndagpompioooaaDoor
