/- Nothing reduced; the words of a basis. -/
import Derived.Test.YtnfhnchomiejcaaBC
namespace Go.Proofs.Ytnfhnchomiejcaa
open Go.RowKit

theorem gj_zero (R0 : Nat → Nat → Int) : ∀ c, gj 0 R0 c = ⟨R0, []⟩
  | 0 => rfl
  | c + 1 => by
    show stp 0 c (gj 0 R0 c) = _
    rw [gj_zero R0 c]
    exact stp_no (Nat.not_lt_zero _)

set_option maxRecDepth 20000 in
set_option maxHeartbeats 4000000 in
theorem reduce_zero {w : World} {cap n : Nat} {ao : Option Addr} (hao : ao = none → cap = 0) (hn : n ≤ 128) :
    Calls Try.prog 32 #[.slice ao 0 cap, .int .i64 (n : Int)] w fun e w' => ∃ u, e = .returned u ∧ w'.ownsRow w.heap.size 3 1 u 0 [] ∧ Below w.heap.size w w' := by
  have OW : Hid ((w.alloc (.cells #[] 3)).ownsRow w.heap.size 3 1 (.slice (some ⟨w.heap.size, 0, none⟩) 0 0) 0 []) := own_empty w 3 1
  have BL : Hid (Below w.heap.size w (w.alloc (.cells #[] 3))) := below_one _ _
  have HIX : Hid (∀ ao k c' W c, k = 0 → 0 ≤ c → c < n → W.cell? ⟨W.heap.size - 1, 0, none⟩ = some (.int .i64 (c : Int)) → Calls Try.prog 47 #[.slice ao k c', .func (.func 48) #[] #[.pointer (some ⟨W.heap.size - 1, 0, none⟩)]] W fun e w' => e = .returned (.int .i64 (-1)) ∧ w' = W) := by
    intro ao k c' W c hk _ hcn hc
    subst hk
    exact idx_any (n := n) (Y := fun _ _ => 0) ⟨ao, c', rfl, Nat.zero_le _, fun h => absurd h (Nat.lt_irrefl _)⟩ (by omega) hc hcn (fun i hi => by omega)
  go_enter Try.func32, Try.ntmps32
  go_wp2
  generalize w.alloc (.cells #[] 3) = W0 at *
  go_loopw [5, 6, 7, 8, 11] (fun ld _ _ _ ix wr => ∃ c : Nat, ix = .int .i64 c ∧ ld = .slice (some ⟨w.heap.size, 0, none⟩) 0 0 ∧ c ≤ n ∧ Hid (wr.ownsRow w.heap.size 3 1 (.slice (some ⟨w.heap.size, 0, none⟩) 0 0) 0 [] ∧ Below w.heap.size w wr)) (fun _ _ _ _ ix _ => n - (intOf ix).toNat)
  case atStart => exact ⟨0, rfl, rfl, by omega, OW.out, BL.out⟩
  case round =>
    obtain ⟨c, rfl, rfl, hc, HRL⟩ := hrel
    by_cases h1 : c < n
    · have bw : Below wr.heap.size wr (wr.alloc (.cells #[.int .i64 (c : Int)] 3)) := below_one _ _
      have CB : (wr.alloc (.cells #[.int .i64 (c : Int)] 3)).cell? ⟨wr.heap.size, 0, none⟩ = some (.int .i64 (c : Int)) := by simp
      have HI1 : Hid (∀ ao k c', k = 0 → Calls Try.prog 47 #[.slice ao k c', .func (.func 48) #[] #[.pointer (some ⟨wr.heap.size, 0, none⟩)]] (wr.alloc (.cells #[.int .i64 (c : Int)] 3)) fun e w' => e = .returned (.int .i64 (-1)) ∧ w' = wr.alloc (.cells #[.int .i64 (c : Int)] 3)) := fun ao k c' hk => by
        have e : (wr.alloc (.cells #[.int .i64 (c : Int)] 3)).heap.size - 1 = wr.heap.size := by simp
        have := HIX.out ao k c' (wr.alloc (.cells #[.int .i64 (c : Int)] 3)) c hk (by omega) h1 (by rw [e]; exact CB)
        rw [e] at this
        exact this
      have HN : Hid ((wr.alloc (.cells #[.int .i64 (c : Int)] 3)).ownsRow w.heap.size 3 1 (.slice (some ⟨w.heap.size, 0, none⟩) 0 0) 0 [] ∧ Below w.heap.size w (wr.alloc (.cells #[.int .i64 (c : Int)] 3))) := ⟨own_below HRL.out.1 bw, bstep HRL.out.2 bw⟩
      clear bw CB HIX
      cases ao with
      | none =>
        obtain rfl := hao rfl
        go_wp2_with (go_at_call 47; refine (HI1.out _ _ _ (by omega)).mono ?_; rintro e w' ⟨rfl, hw⟩; obtain rfl := hw.symm)
        go_roundw
        case rel => exact ⟨c + 1, by go_num, rfl, by omega, HN.out⟩
        case measure => simp [intOf]; omega
      | some ad =>
        rcases Nat.eq_zero_or_pos cap with h0 | h0
        · subst h0
          go_wp2_with (go_at_call 47; refine (HI1.out _ _ _ (by omega)).mono ?_; rintro e w' ⟨rfl, hw⟩; obtain rfl := hw.symm)
          go_roundw
          case rel => exact ⟨c + 1, by go_num, rfl, by omega, HN.out⟩
          case measure => simp [intOf]; omega
        · have h0' : ¬ cap = 0 := by omega
          go_wp2_with (go_at_call 47; refine (HI1.out _ _ _ (by omega)).mono ?_; rintro e w' ⟨rfl, hw⟩; obtain rfl := hw.symm)
          go_roundw
          case rel => exact ⟨c + 1, by go_num, rfl, by omega, HN.out⟩
          case measure => simp [intOf]; omega
    · obtain rfl : c = n := by omega
      go_wp2
      go_ret
      exact ⟨_, rfl, HRL.out⟩

/-- The words of the columns that lead no row. -/
noncomputable def bsl (S : Gj) : Nat → List (Nat → Int)
  | 0 => []
  | c + 1 => if yb (∃ k, k < S.L.length ∧ lf S.L k = (c : Int)) = true then bsl S c else bsl S c ++ [wdf S.R (lf S.L) c S.L.length]

theorem bsl_yes {S : Gj} {c : Nat} (h : ∃ k, k < S.L.length ∧ lf S.L k = (c : Int)) : bsl S (c + 1) = bsl S c := by rw [bsl, yb_yes h, if_pos rfl]
theorem bsl_no {S : Gj} {c : Nat} (h : ¬ ∃ k, k < S.L.length ∧ lf S.L k = (c : Int)) : bsl S (c + 1) = bsl S c ++ [wdf S.R (lf S.L) c S.L.length] := by rw [bsl, yb_no h, if_neg (by decide)]
theorem bsl_len (S : Gj) : ∀ c, (bsl S c).length ≤ c
  | 0 => Nat.le_refl _
  | c + 1 => by
    have := bsl_len S c
    unfold bsl
    split
    · omega
    · rw [List.length_append, List.length_singleton]; omega

/-- A list of words as a function. -/
def wf (l : List (Nat → Int)) (i : Nat) : Nat → Int := l.getD i (fun _ => 0)

theorem wf_snoc (l : List (Nat → Int)) (x : Nat → Int) (i : Nat) (hi : i < l.length + 1) : (if i = l.length then x else wf l i) = wf (l ++ [x]) i := by
  unfold wf
  by_cases e : i = l.length
  · rw [if_pos e, e, List.getD_eq_getElem?_getD, List.getElem?_append_right (Nat.le_refl _), Nat.sub_self]
    rfl
  · rw [if_neg e, List.getD_eq_getElem?_getD, List.getD_eq_getElem?_getD, List.getElem?_append_left (by omega)]

/-- What is told: rows, and a bool. -/
def Psr (w w' : World) (e : Ending) (N m : Nat) (Z : Nat → Nat → Int) (ok : Bool) : Prop := ∃ u, e = .returned (.tuple #[u, .bool ok]) ∧ RG w' w.heap.size u N m Z ∧ Below w.heap.size w w'

/-- An append of a row, and where the list then lies. -/
theorem app_rowk {X : World} {B j c gr cr : Nat} {o : Value} {gs cs : Nat → Nat} {M : Nat → Nat → Int} {F : Nat → Int} (h : Rgr X B o j c gs cs M) (hr : X.ownsRow B 3 1 (.slice (some ⟨gr, 0, none⟩) c cr) c (ils F c)) (hnew : ∀ i, i < j → gs i ≠ gr) (hj : j ≤ 1048576) (hB : B ≤ X.heap.size) :
    ∃ v' w', (Builtin.append_ #[24, 24] 24 #[o, .slice (some ⟨X.heap.size, 0, none⟩) 1 1]).run Try.prog (X.alloc (.cells #[.slice (some ⟨gr, 0, none⟩) c cr] 29)) = .ok v' w' ∧
      Rgr w' B v' (j + 1) c (fun i => if i = j then gr else gs i) (fun i => if i = j then cr else cs i) (fun i => if i = j then F else M i) ∧ (X.alloc (.cells #[.slice (some ⟨gr, 0, none⟩) c cr] 29)).grownBy w' o.ownBlock ∧ (v'.ownBlock = o.ownBlock ∨ v'.ownBlock = some (X.heap.size + 1)) := by
  obtain ⟨v', w', ha, hR, hg⟩ := app_row h hr hnew hj hB
  obtain ⟨i0, hi, hz0, hz1, hz2⟩ := info_parts Try.info29
  have bl := below_one X (.cells #[.slice (some ⟨gr, 0, none⟩) c cr] 29)
  have hk := app_keep (P := Try.prog) (X.alloc (.cells #[.slice (some ⟨gr, 0, none⟩) c cr] 29)) B 24 24 29 i0 (.slice none 0 0) 1 24 Try.underlying24 hi hz0 hz1 hz2 o j _ (own_below h.row bl) ⟨X.heap.size, 0, none⟩ 1 1 [.slice (some ⟨gr, 0, none⟩) c cr] rfl (one_new X _ 29) (fun u hu => by simp at hu; subst hu; rfl) (by unfold maxLen; omega) (by omega) (by omega) ha
  refine ⟨v', w', ha, hR, hg, hk.imp id (fun q => ?_)⟩
  have := q.1
  simpa using this
end Go.Proofs.Ytnfhnchomiejcaa
