/- Frames one behind the other, in plain numbers. -/
import Derived.Test.YtehemaodbbjfaabPL
namespace Go.Proofs.Ytehemaodbbjfaab
open Go.RowKit

/-- Whether a block has a frame, how many bytes it has, and which. -/
def fok (n : Nat) (xs : Nat → Int) : Bool := decide ((1 ≤ n ∧ n ≤ 128) ∧ Sig n xs ∧ 0 ≤ (shp n xs (min n 4)).1)
def fN (n : Nat) (xs : Nat → Int) : Nat := if fok n xs = true then 3 + ((shp n xs (min n 4)).2.2 + 7) / 8 + 2 else 0
def fY (n : Nat) (xs : Nat → Int) : Nat → Int := if fok n xs = true then frm (3 + ((shp n xs (min n 4)).2.2 + 7) / 8) (fr0 n (shp n xs (min n 4)).1.toNat (shp n xs (min n 4)).2.1.toNat (shp n xs (min n 4)).2.2 (lf (ric (shp n xs (min n 4)).2.1.toNat (gus (shp n xs (min n 4)).1.toNat xs) n))) else fun _ => 0

theorem frame_told {n : Nat} {xs : Nat → Int} (hn : n ≤ 1048576) : fN n xs ≤ 12600 ∧ (∀ W u, Il W u n xs → Calls Try.prog 15 #[u] W fun e w' => Psb W w' e (fN n xs) (fY n xs) (fok n xs)) ∧ ∀ W u, Il W u n xs → Calls Try.prog 19 #[u] W fun e w' => Psb W w' e (fN n xs) (fY n xs) (fok n xs) := by
  have no : ∀ (_ : ¬ ((1 ≤ n ∧ n ≤ 128) ∧ Sig n xs ∧ 0 ≤ (shp n xs (min n 4)).1)), fok n xs = false ∧ fN n xs = 0 := fun h => by
    have e : fok n xs = false := decide_eq_false h
    exact ⟨e, by unfold fN; rw [e]; rfl⟩
  by_cases h1 : 1 ≤ n ∧ n ≤ 128
  · by_cases h2 : Sig n xs
    · rcases shp_told (n := n) (xs := xs) (min n 4) with hs | ⟨a, k, C, hs, _, _, hC, _⟩
      · obtain ⟨e1, e2⟩ := no (fun h => by have := h.2.2; rw [hs] at this; exact absurd this (by show ¬ (0 : Int) ≤ -1; omega))
        rw [e1, e2]
        refine ⟨by omega, fun W u hu => sFrame_none hu h1 h2 rfl hs _, fun W u hu => iFrame_none hu h1 ?_ _⟩
        refine (shape_good hu h2 h1.2 rfl).mono ?_
        rintro e w' (⟨_, rfl, hb⟩ | ⟨a, k, C, u, e1, _⟩)
        · exact ⟨rfl, hb⟩
        · rw [hs] at e1
          injection e1 with e1 _
          omega
      · have e : fok n xs = true := decide_eq_true ⟨h1, h2, by rw [hs]; show 0 ≤ (a : Int); omega⟩
        have e2 : fN n xs = 3 + (C + 7) / 8 + 2 := by unfold fN; rw [if_pos e, hs]
        have e3 : fY n xs = frm (3 + (C + 7) / 8) (fr0 n a k C (lf (ric k (gus a xs) n))) := by unfold fY; rw [if_pos e, hs]; rfl
        rw [e, e2, e3]
        exact ⟨by omega, fun W u hu => sFrame_good hu h1 h2 rfl hs rfl, fun W u hu => iFrame_good hu h1 h2 rfl hs rfl⟩
    · obtain ⟨e1, e2⟩ := no (fun h => h2 h.2.1)
      rw [e1, e2]
      exact ⟨by omega, fun W u hu => sFrame_bad hu hn (fun h => h2 h.2) _, fun W u hu => iFrame_none hu h1 (shape_bad hu h2 h1.2 rfl) _⟩
  · obtain ⟨e1, e2⟩ := no (fun h => h1 h.1)
    rw [e1, e2]
    exact ⟨by omega, fun W u hu => sFrame_bad hu hn (fun h => h1 (by omega)) _, fun W u hu => iFrame_size hu h1 _⟩

/-- Block t: how long it is, and what it is. -/
def pcn (n s t : Nat) : Nat := min (t * s + s) n - t * s
def pcx (s : Nat) (xs : Nat → Int) (t : Nat) (j : Nat) : Int := xs (t * s + j)

/-- The bytes of the first t frames. -/
def pal (n s : Nat) (xs : Nat → Int) : Nat → List Int
  | 0 => []
  | t + 1 => pal n s xs t ++ (List.range (fN (pcn n s t) (pcx s xs t))).map (fY (pcn n s t) (pcx s xs t))

theorem pal_len (n s : Nat) (xs : Nat → Int) (t : Nat) : (pal n s xs (t + 1)).length = (pal n s xs t).length + fN (pcn n s t) (pcx s xs t) := by
  show (pal n s xs t ++ _).length = _
  rw [List.length_append, List.length_map, List.length_range]

theorem pal_mono (n s : Nat) (xs : Nat → Int) {t u : Nat} (h : t ≤ u) : (pal n s xs t).length ≤ (pal n s xs u).length := by
  induction u with
  | zero => obtain rfl : t = 0 := by omega
            exact Nat.le_refl _
  | succ u ih =>
    by_cases h1 : t = u + 1
    · subst h1; exact Nat.le_refl _
    · rw [pal_len]
      exact Nat.le_trans (ih (by omega)) (Nat.le_add_right _ _)

/-- A row put behind one that is a list. -/
theorem bl_cat (L : List Int) (g : Nat → Int) (m : Nat) : bls (lf L) L.length ++ bls g m = bls (lf (L ++ (List.range m).map g)) (L.length + m) := by
  apply List.ext_getElem?
  intro i
  by_cases h : i < L.length
  · rw [List.getElem?_append_left (by rw [bls_length]; exact h), bls_get h, bls_get (by omega), lf_left h]
  · rw [List.getElem?_append_right (by rw [bls_length]; omega), bls_length]
    by_cases h2 : i < L.length + m
    · rw [bls_get (by omega), bls_get h2, lf_right (by omega)]
      unfold lf
      rw [List.getD_eq_getElem?_getD, List.getElem?_map, List.getElem?_range (by omega)]
      rfl
    · rw [List.getElem?_eq_none (by rw [bls_length]; omega), List.getElem?_eq_none (by rw [bls_length]; omega)]

/-- What PackAll asks of all its blocks. -/
abbrev Pgd (n s P : Nat) (xs : Nat → Int) : Prop := (∀ t, t < P → fok (pcn n s t) (pcx s xs t) = true) ∧ (pal n s xs P).length ≤ 20000
end Go.Proofs.Ytehemaodbbjfaab
