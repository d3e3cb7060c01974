/- Line of the program. -/
import Derived.Test.YtlccicbgepfbbaaCH
namespace Go.Proofs.Ytlccicbgepfbbaa
open Go.RowKit

theorem own_zero {w : World} {B : Nat} {v : Value} {f g : Nat → Int} (h : w.ownsRow B 3 1 v 0 (ils f 0)) : w.ownsRow B 3 1 v 0 (ils g 0) := h

theorem wend_one {n m most K K' : Nat} {ss : Nat → Wr} {r : Nat → Nat} (h : Wend n m ss r most K) (h' : Wend n m ss r most K') : K = K' := by
  rcases Nat.lt_trichotomy K K' with e | e | e
  · exact absurd h.2 (h'.1 K e).1
  · exact e
  · exact absurd h'.2 (h.1 K' e).1

theorem wend_stk {n m most K K' : Nat} {ss : Nat → Wr} {r : Nat → Nat} (h : Wend n m ss r most K) (h' : Wstk n m ss r most K') : False := by
  rcases Nat.lt_trichotomy K K' with e | e | e
  · exact (h'.1 K e).1 h.2
  · rw [e] at h; exact h'.2.1 h.2
  · exact (h.1 K' e).2 h'.2.2

/-- What Line tells. -/
def Pln (n m : Nat) (ss : Nat → Wr) (r : Nat → Nat) (w w' : World) (e : Ending) : Prop := (∃ K, Wend n m ss r 1 K ∧ K ≤ 2000 ∧ Pst w w' e K (fun k => (wvf n m ss 1 (wst n m ss r 1 k) 0 : Int)) true) ∨ ((∃ K, Wstk n m ss r 1 K) ∧ ∀ ys, Pst w w' e 0 ys false)

theorem wv1_len {n m : Nat} {ss : Nat → Wr} {s : Stt} (h : wvl n m ss 1 s ≠ []) : (wvl n m ss 1 s).length = 1 := by
  have h1 : (wvl n m ss 1 s).length ≤ 1 := by unfold wvl; rw [List.length_take]; exact Nat.min_le_left _ _
  have h2 : (wvl n m ss 1 s).length ≠ 0 := fun e => h (List.eq_nil_of_length_eq_zero e)
  omega

theorem wsi_all {n m most : Nat} {ss : Nat → Wr} {r : Nat → Nat} (hw : Wok (n : Int) m ss) (hr : smN n r ≤ 2000) : ∀ K, (∀ k, k < K → wvl n m ss most (wst n m ss r most k) ≠ []) → ∃ F, K ≤ F ∧ Wsi n m F (wst n m ss r most K)
  | 0, _ => ⟨0, Nat.le_refl _, by (show smN n (fun b => if b < n then r b else 0) + 0 ≤ 2000); rw [smN_congr (g := r) fun k hk => if_pos hk]; exact hr, fun i hi => by have h9 := hw.2.2 i hi; unfold Wgd at h9; show _ ≤ hav ss i ∧ hav ss i ≤ _; unfold hav; omega⟩
  | K + 1, h => by
    obtain ⟨F, h1, h2⟩ := wsi_all hw hr K (fun k hk => h k (by omega))
    have h3 := wsi_mid (most := most) hw h2 _ (Nat.le_refl _)
    have h4 : (wvl n m ss most (wst n m ss r most K)).length ≠ 0 := fun e => h K (by omega) (List.eq_nil_of_length_eq_zero e)
    exact ⟨_, by omega, h3⟩

theorem wend_le {n m most K : Nat} {ss : Nat → Wr} {r : Nat → Nat} (hw : Wok (n : Int) m ss) (hr : smN n r ≤ 2000) (h : Wend n m ss r most K) : K ≤ 2000 := by
  obtain ⟨F, h1, h2⟩ := wsi_all hw hr K (fun k hk => (h.1 k hk).2)
  have := h2.sum
  omega

set_option maxHeartbeats 4000000 in
theorem iLine_any {w : World} {v : Value} {n m : Nat} {ss : Nat → Wr} {r : Nat → Nat} (hv : Ow w v m ss) (hw : Wok (n : Int) m ss) (hr : Lst (wsn ss) n m r) :
    Calls Try.prog 12 #[.int .i64 (n : Int), v] w fun e w' => Pln n m ss r w w' e := by
  have i1 := iWav_any (most := 1) hv hw hr (by omega) (by omega)
  rw [show (((1 : Nat) : Int)) = 1 from rfl] at i1
  have HW : Hid (Wok (n : Int) m ss ∧ smN n r ≤ 2000) := ⟨hw, hr.1.2.2⟩
  clear hv hw hr
  go_enter Try.func12, Try.ntmps12
  go_wp2_with (first
    | (go_at_call 43; (with_reducible refine i1.mono ?_); rintro e V hh; rcases hh with ⟨K, h1, u, rfl, h2, h3⟩ | ⟨K, h1, u, rfl, h2, h3⟩))
  · have HE : Hid (Wend n m ss r 1 K) := h1
    have HG : Hid _ := h2
    have HB : Hid (Below w.heap.size w V) := h3
    have hk := wend_le HW.out.1 HW.out.2 h1
    have ic := concat_any h2 (fun k hk => wv1_len (h1.1 k hk).2) hk
    clear h1 h2 h3
    go_wp2_with (go_at_call 44; (with_reducible refine ic.mono ?_); rintro e V2 ⟨x, rfl, ho, hb⟩; have X0 : Hid _ := ho; have B2 : Hid (Below w.heap.size w V2) := bstep HB.out hb; clear ho hb)
    go_ret2
    exact .inl ⟨K, HE.out, hk, _, rfl, own_base X0.out HB.out.size, B2.out⟩
  · have HE : Hid (Wstk n m ss r 1 K) := h1
    have HB : Hid (Below w.heap.size w V) := h3
    have ic := concat_any h2 (fun k hk => by omega) (by omega)
    clear h1 h2 h3
    go_wp2_with (go_at_call 44; (with_reducible refine ic.mono ?_); rintro e V2 ⟨x, rfl, ho, hb⟩; have X0 : Hid (V2.ownsRow V.heap.size 3 1 x 0 (ils (fun _ => 0) 0)) := own_zero ho; have B2 : Hid (Below w.heap.size w V2) := bstep HB.out hb; clear ho hb)
    go_ret2
    exact .inr ⟨⟨K, HE.out⟩, fun ys => ⟨_, rfl, own_base (own_zero X0.out) HB.out.size, B2.out⟩⟩

set_option maxHeartbeats 4000000 in
theorem iLine_bad {w : World} {v : Value} {m : Nat} {ss : Nat → Wr} (n : Int) (hv : Il5 w v m ss) (h : ∀ ys, Calls Try.prog 11 #[.int .i64 n, v] w fun e w' => Pst w w' e 0 ys false) (ys : Nat → Int) :
    Calls Try.prog 12 #[.int .i64 n, v] w fun e w' => Pst w w' e 0 ys false := by
  have i1 := iWav_bad n 1 hv h (fun _ => 0) (fun _ _ => 0)
  go_enter Try.func12, Try.ntmps12
  go_wp2_with (first
    | (go_at_call 43; (with_reducible refine i1.mono ?_); rintro e V ⟨u, rfl, h2, h3⟩; have ic := concat_any h2 (fun k hk => by omega) (by omega); have HB : Hid (Below w.heap.size w V) := h3; clear h2 h3)
    | (go_at_call 44; (with_reducible refine ic.mono ?_); rintro e V2 ⟨x, rfl, ho, hb⟩; have X0 : Hid (V2.ownsRow V.heap.size 3 1 x 0 (ils (fun _ => 0) 0)) := own_zero ho; have B2 : Hid (Below w.heap.size w V2) := bstep HB.out hb; clear ho hb))
  go_ret2
  exact ⟨_, rfl, own_base (own_zero X0.out) HB.out.size, B2.out⟩
end Go.Proofs.Ytlccicbgepfbbaa
