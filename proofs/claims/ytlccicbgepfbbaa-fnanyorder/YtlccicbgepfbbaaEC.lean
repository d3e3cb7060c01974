/- What Balance and Line say. -/
import Derived.Test.YtlccicbgepfbbaaEB
import Derived.Test.YtlccicbgepfbbaaBH
namespace Go.Proofs.Ytlccicbgepfbbaa
open Go.RowKit

theorem pln_not {n m : Nat} {ss : Nat → Wr} {r : Nat → Nat} {w w' : World} {e : Ending} (h : Pln n m ss r w w' e) (hK : ¬ ∃ K, Wend n m ss r 1 K) (ys : Nat → Int) : Pst w w' e 0 ys false := by
  rcases h with ⟨K', h1, _, h2⟩ | ⟨_, h2⟩
  · exact absurd ⟨K', h1⟩ hK
  · exact h2 ys

set_option maxHeartbeats 4000000 in
theorem sLine_bad {w : World} {v : Value} (n : Int) (h : ∀ ys, Calls Try.prog 13 #[.int .i64 n, v] w fun e w' => Pst w w' e 0 ys false) (ys : Nat → Int) :
    Calls Try.prog 14 #[.int .i64 n, v] w fun e w' => Pst w w' e 0 ys false := by
  have i1 := h (fun _ => 0)
  go_enter Try.func14, Try.ntmps14
  go_wp2_with (go_at_call 13; (with_reducible refine i1.mono ?_); rintro e w2 ⟨x, rfl, _, hb⟩; have BX : Hid (Below w.heap.size w w2) := hb; clear hb)
  go_ret2
  exact ⟨_, rfl, own_base (nil_own w2 ys) BX.out.size, bstep BX.out (below_one _ _)⟩

/-- What Balance and Line of both sides say of wires. -/
structure Cas (n : Int) (m : Nat) (ss : Nat → Wr) (N : Nat) (z : Nat → Int) (c : Bool) (L : Nat) (y : Nat → Int) (d : Bool) : Prop where
  iB : ∀ W v, Ow W v m ss → Calls Try.prog 11 #[.int .i64 n, v] W fun e w' => Pst W w' e N z c
  sB : ∀ W v, Ow W v m ss → Calls Try.prog 13 #[.int .i64 n, v] W fun e w' => Pst W w' e N z c
  iL : ∀ W v, Ow W v m ss → Calls Try.prog 12 #[.int .i64 n, v] W fun e w' => Pst W w' e L y d
  sL : ∀ W v, Ow W v m ss → Calls Try.prog 14 #[.int .i64 n, v] W fun e w' => Pst W w' e L y d
  bd : N ≤ 20 ∧ L ≤ 2000
  dc : d = true → c = true
  pr : c = true → ∀ i, i < m → ∃ a b : Nat, (ss i).fr = a ∧ (ss i).to = b ∧ a < N ∧ b < N ∧ z a * (ss i).gi = z b * (ss i).ta
  en : d = true → ∃ (nn : Nat) (r : Nat → Nat), n = (nn : Int) ∧ Wok (nn : Int) m ss ∧ Lst (wsn ss) nn m r ∧ Wend nn m ss r 1 L ∧ N = nn ∧ z = (fun i => (r i : Int)) ∧ y = fun k => (wvf nn m ss 1 (wst nn m ss r 1 k) 0 : Int)

theorem sol_pr {n m : Nat} {ss : Nat → Wr} {r : Nat → Nat} (h : Wok (n : Int) m ss) (hr : Sol (wsn ss) n m r) (i : Nat) (hi : i < m) : ∃ a b : Nat, (ss i).fr = a ∧ (ss i).to = b ∧ a < n ∧ b < n ∧ (r a : Int) * (ss i).gi = (r b : Int) * (ss i).ta := by
  obtain ⟨h1, h2, h3, h4, _⟩ := h.2.2 i hi
  have hb : r ((ss i).fr.toNat) * (ss i).gi.toNat = r ((ss i).to.toNat) * (ss i).ta.toNat := hr.2.1 i hi
  refine ⟨(ss i).fr.toNat, (ss i).to.toNat, by omega, by omega, by omega, by omega, ?_⟩
  have e1 : (ss i).gi = ((ss i).gi.toNat : Int) := by omega
  have e2 : (ss i).ta = ((ss i).ta.toNat : Int) := by omega
  rw [e1, e2, ← Int.natCast_mul, ← Int.natCast_mul, hb]

theorem cas {m : Nat} {ss : Nat → Wr} (n : Int) (hm : m ≤ 1048576) : ∃ N z c L y d, Cas n m ss N z c L y d := by
  by_cases h : Wok n m ss
  · obtain ⟨nn, rfl⟩ : ∃ nn : Nat, n = (nn : Int) := ⟨n.toNat, by have := h.1; omega⟩
    have hn20 : nn ≤ 20 := by have := h.1; omega
    by_cases hx : ∃ x, Sol (wsn ss) nn m x
    · obtain ⟨x, hx⟩ := hx
      obtain ⟨r, hr⟩ := lst_ex (wsn_ok h) hx
      by_cases hK : ∃ K, Wend nn m ss r 1 K
      · obtain ⟨K, hK⟩ := hK
        exact ⟨nn, _, true, K, _, true, fun W v hv => (iBal_any hv.il5 h).mono fun _ _ hb => bpo_yes hb hr, fun W v hv => (sBal_any hv.il5 h).mono fun _ _ hb => bpo_yes hb hr,
          fun W v hv => (iLine_any hv h hr).mono fun _ _ hb => pln_yes hb hK, fun W v hv => (sLine_any hv h hr).mono fun _ _ hb => pln_yes hb hK,
          ⟨hn20, wend_le h hr.1.2.2 hK⟩, fun _ => rfl, fun _ => sol_pr h hr.1, fun _ => ⟨nn, r, rfl, h, hr, hK, rfl, rfl, rfl⟩⟩
      · exact ⟨nn, _, true, 0, fun _ => 0, false, fun W v hv => (iBal_any hv.il5 h).mono fun _ _ hb => bpo_yes hb hr, fun W v hv => (sBal_any hv.il5 h).mono fun _ _ hb => bpo_yes hb hr,
          fun W v hv => (iLine_any hv h hr).mono fun _ _ hb => pln_not hb hK _, fun W v hv => (sLine_any hv h hr).mono fun _ _ hb => pln_not hb hK _,
          ⟨hn20, by omega⟩, fun _ => rfl, fun _ => sol_pr h hr.1, fun e => (by cases e)⟩
    · exact ⟨0, fun _ => 0, false, 0, fun _ => 0, false, fun W v hv => (iBal_any hv.il5 h).mono fun _ _ hb => bpo_no hb hx _, fun W v hv => (sBal_any hv.il5 h).mono fun _ _ hb => bpo_no hb hx _,
        fun W v hv => iLine_bad _ hv.il5 (fun ys => (iBal_any hv.il5 h).mono fun _ _ hb => bpo_no hb hx ys) _, fun W v hv => sLine_bad _ (fun ys => (sBal_any hv.il5 h).mono fun _ _ hb => bpo_no hb hx ys) _,
        ⟨by omega, by omega⟩, fun e => (by cases e), fun e => (by cases e), fun e => (by cases e)⟩
  · exact ⟨0, fun _ => 0, false, 0, fun _ => 0, false, fun W v hv => iBal_bad n hv.il5 hm h _, fun W v hv => sBal_bad n hv.il5 hm h _,
        fun W v hv => iLine_bad _ hv.il5 (fun ys => iBal_bad n hv.il5 hm h ys) _, fun W v hv => sLine_bad _ (fun ys => sBal_bad n hv.il5 hm h ys) _,
        ⟨by omega, by omega⟩, fun e => (by cases e), fun e => (by cases e), fun e => (by cases e)⟩

end Go.Proofs.Ytlccicbgepfbbaa
