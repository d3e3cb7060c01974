/- Waves of both sides. -/
import Derived.Test.YtlccicbgepfbbabCM
import Derived.Test.YtlccicbgepfbbabCN
import Derived.Deep.QuietTactic
namespace Go.Proofs.Ytlccicbgepfbbab
open Go.RowKit

/-- What Waves tells. -/
def Pgs (w w' : World) (e : Ending) (K : Nat) (ms : Nat → Nat) (T : Nat → Nat → Int) (c : Bool) : Prop := ∃ u, e = .returned (.tuple #[u, .bool c]) ∧ Gs w.heap.size w' u K ms T ∧ Below w.heap.size w w'

def Pwv (n m : Nat) (ss : Nat → Wr) (r : Nat → Nat) (w w' : World) (e : Ending) : Prop := (∃ K, Wend n m ss r n K ∧ Pgs w w' e K (fun k => (wvl n m ss n (wst n m ss r n k)).length) (fun k j => (wvf n m ss n (wst n m ss r n k) j : Int)) true) ∨ ((∃ most K, 1 ≤ most ∧ Wstk n m ss r most K) ∧ Pgs w w' e 0 (fun k => (wvl n m ss n (wst n m ss r n k)).length) (fun k j => (wvf n m ss n (wst n m ss r n k) j : Int)) false)

theorem gs_zero {B : Nat} {W : World} {o : Value} {ms ms' : Nat → Nat} {T T' : Nat → Nat → Int} (h : Gs B W o 0 ms T) : Gs B W o 0 ms' T' := by
  obtain ⟨H, R, h1, _, _⟩ := h
  exact ⟨H, R, h1, fun k hk => absurd hk (by omega), fun k l _ hl => absurd hl (by omega)⟩

theorem pwv_yes {n m K : Nat} {ss : Nat → Wr} {r : Nat → Nat} {w w' : World} {e : Ending} (hw : Wok (n : Int) m ss) (hr : smN n r ≤ 2000) (h : Pwv n m ss r w w' e) (hK : Wend n m ss r n K) : Pgs w w' e K (fun k => (wvl n m ss n (wst n m ss r n k)).length) (fun k j => (wvf n m ss n (wst n m ss r n k) j : Int)) true := by
  rcases h with ⟨K', h1, h2⟩ | ⟨⟨most, K', hm, h1⟩, _⟩
  · rw [wend_one hK h1]; exact h2
  · obtain ⟨K2, h3⟩ := wend_iff hw hr hm ⟨K, hK⟩
    exact (wend_stk h3 h1).elim

theorem pwv_no {n m : Nat} {ss : Nat → Wr} {r : Nat → Nat} {w w' : World} {e : Ending} (h : Pwv n m ss r w w' e) (hK : ¬ ∃ K, Wend n m ss r n K) (ms : Nat → Nat) (T : Nat → Nat → Int) : Pgs w w' e 0 ms T false := by
  rcases h with ⟨K', h1, _⟩ | ⟨_, u, rfl, h2, h3⟩
  · exact absurd ⟨K', h1⟩ hK
  · exact ⟨u, rfl, gs_zero h2, h3⟩

theorem sWv_any {w : World} {v : Value} {n m : Nat} {ss : Nat → Wr} {r : Nat → Nat} (hv : Ow w v m ss) (hw : Wok (n : Int) m ss) (hr : Lst (wsn ss) n m r) :
    Calls Try.prog 19 #[.int .i64 (n : Int), v] w fun e w' => Pwv n m ss r w w' e := by
  refine (sWav_any hv hw hr).mono fun e w' h => ?_
  rcases h with ⟨K, h1, u, rfl, h2, h3⟩ | ⟨⟨K, h1⟩, u, rfl, h2, h3⟩
  · exact .inl ⟨K, h1, u, rfl, h2, h3⟩
  · exact .inr ⟨⟨1, K, by omega, h1⟩, u, rfl, h2, h3⟩

set_option maxHeartbeats 4000000 in
theorem iWv_any {w : World} {v : Value} {n m : Nat} {ss : Nat → Wr} {r : Nat → Nat} (hv : Ow w v m ss) (hw : Wok (n : Int) m ss) (hr : Lst (wsn ss) n m r) :
    Calls Try.prog 20 #[.int .i64 (n : Int), v] w fun e w' => Pwv n m ss r w w' e := by
  have n1 : 1 ≤ n := by have := hw.1; omega
  have n20 : n ≤ 20 := by have := hw.1; omega
  have i1 := iWq_any (most := n) hv hw hr n1 n20
  have HN1 : Hid (1 ≤ n) := n1
  clear hv hw hr n1 n20
  go_enter Try.func20, Try.ntmps20
  go_wp2_with (first
    | (go_at_call 31; (with_reducible refine i1.mono ?_); rintro e V hh; rcases hh with ⟨K, h1, u, rfl, h2, h3⟩ | ⟨K, h1, u, rfl, h2, h3⟩))
  · have H1 : Hid _ := h1
    have H2 : Hid _ := h2
    have H3 : Hid _ := h3
    clear h1 h2 h3
    try go_wp2
    go_ret2
    exact .inl ⟨K, H1.out, u, rfl, ⟨_, H2.out⟩, H3.out⟩
  · have H1 : Hid _ := h1
    have H2 : Hid _ := h2
    have H3 : Hid _ := h3
    clear h1 h2 h3
    try go_wp2
    go_ret2
    exact .inr ⟨⟨n, K, HN1.out, H1.out⟩, u, rfl, ⟨_, H2.out⟩, H3.out⟩

set_option maxHeartbeats 4000000 in
theorem iWv_bad {w : World} {v : Value} {m : Nat} {ss : Nat → Wr} (n : Int) (hv : Il5 w v m ss) (h : ∀ ys, Calls Try.prog 44 #[.int .i64 n, v] w fun e w' => Pst w w' e 0 ys false) (ms : Nat → Nat) (T : Nat → Nat → Int) :
    Calls Try.prog 20 #[.int .i64 n, v] w fun e w' => Pgs w w' e 0 ms T false := by
  have i1 := iWq_bad n n hv h ms T
  clear h
  go_enter Try.func20, Try.ntmps20
  go_wp2_with (go_at_call 31; (with_reducible refine i1.mono ?_); rintro e V ⟨u, rfl, h2, h3⟩; have H2 : Hid _ := h2; have H3 : Hid _ := h3; clear h2 h3)
  go_ret2
  exact ⟨u, rfl, ⟨_, H2.out⟩, H3.out⟩

set_option maxHeartbeats 4000000 in
theorem sLn_bad {w : World} {v : Value} (n : Int) (h : ∀ ys, Calls Try.prog 26 #[.int .i64 n, v] w fun e w' => Pst w w' e 0 ys false) (ys : Nat → Int) :
    Calls Try.prog 8 #[.int .i64 n, v] w fun e w' => Pst w w' e 0 ys false := by
  have i1 := h (fun _ => 0)
  go_enter Try.func8, Try.ntmps8
  go_wp2_with (go_at_call 26; (with_reducible refine i1.mono ?_); rintro e w2 ⟨x, rfl, _, hb⟩; have BX : Hid (Below w.heap.size w w2) := hb; clear hb)
  go_ret2
  exact ⟨_, rfl, own_base (nil_own w2 ys) BX.out.size, bstep BX.out (below_one _ _)⟩

set_option maxHeartbeats 4000000 in
theorem sWv_bad {w : World} {v : Value} (n : Int) (h : ∀ ys, Calls Try.prog 26 #[.int .i64 n, v] w fun e w' => Pst w w' e 0 ys false) (ms : Nat → Nat) (T : Nat → Nat → Int) :
    Calls Try.prog 19 #[.int .i64 n, v] w fun e w' => Pgs w w' e 0 ms T false := by
  have i1 := sLn_bad n h (fun _ => 0)
  clear h
  go_enter Try.func19, Try.ntmps19
  go_wp2_with (go_at_call 8; (with_reducible refine i1.mono ?_); rintro e w2 ⟨x, rfl, _, hb⟩; have BX : Hid (Below w.heap.size w w2) := hb; clear hb)
  go_ret2
  exact ⟨_, rfl, ⟨0, (Gq.start w2 0 ms T).base BX.out.size⟩, bstep BX.out (below_one _ _)⟩
end Go.Proofs.Ytlccicbgepfbbab
