/- Push: rings marked and held; what stands while the law goes on. -/
import Derived.Test.YtphnoghnoacfiaaPG
namespace Go.Proofs.Ytphnoghnoacfiaa
open Go.RowKit

set_option maxHeartbeats 2000000 in
theorem markRing {W : World} {B n : Nat} {c : Value} {f : Nat → Int} {K : Int} (p : Int) (h : W.ownsRow B 3 1 c n (ils f n)) (hB : B ≤ W.heap.size) (hn : n ≤ 1048576) (hK : 0 ≤ K ∧ K ≤ 1099511627776) :
    Calls Try.prog 12 #[.agg #[c, .int .i64 p], .int .i64 K] W fun e W' => e = .returned (.int .i64 (K + (n : Int))) ∧ W'.ownsRow B 3 1 c n (ils (mkF K) n) ∧ ∃ W1 gx, Below W.heap.size W W1 ∧ B ≤ gx ∧ (c.ownBlock = some gx ∨ W' = W1) ∧ Only gx W1 W' := by
  have b1 := below_one W (.cells #[c, .int .i64 p] 26)
  have R1 := Rg.new W c (.int .i64 p) 26
  have i1 := markedF (K := K) (own_below h b1) (Nat.le_trans hB b1.size) hn hK
  generalize hW1 : W.alloc (.cells #[c, .int .i64 p] 26) = W1 at *
  have B1 : Hid (Below W.heap.size W W1) := b1
  obtain ⟨ao, cap, rfl, hcap, hc⟩ := il_of_own h
  clear hc b1 h
  have c0 := R1.c0
  go_enter Try.func12, Try.ntmps12
  go_wp2_with (first | (go_at_call 13; (with_reducible refine i1.mono ?_); rintro e W2 ⟨rfl, hmk, gx, hg, hor, hon⟩; have HM : Hid (W2.ownsRow B 3 1 (.slice ao n cap) n (ils (mkF K) n) ∧ B ≤ gx ∧ ((Value.slice ao n cap).ownBlock = some gx ∨ W2 = W1) ∧ Only gx W1 W2) := ⟨hmk, hg, hor, hon⟩; clear hmk hg hor hon))
  go_ret
  exact ⟨rfl, HM.out.1, W1, gx, B1.out, HM.out.2.1, HM.out.2.2.1, HM.out.2.2.2⟩

set_option maxHeartbeats 2000000 in
theorem heldRing {W : World} {B n : Nat} {c : Value} {K : Int} (p : Int) (h : W.ownsRow B 3 1 c n (ils (mkF K) n)) (hn : n ≤ 1048576) (hK : 0 ≤ K ∧ K ≤ 1099511627776) :
    Calls Try.prog 14 #[.agg #[c, .int .i64 p], .int .i64 K] W fun e W' => e = .returned (.int .i64 (K + (n : Int))) ∧ Below W.heap.size W W' := by
  have b1 := below_one W (.cells #[c, .int .i64 p] 26)
  have R1 := Rg.new W c (.int .i64 p) 26
  have i1 := heldF (K := K) (own_below h b1) hn hK
  generalize hW1 : W.alloc (.cells #[c, .int .i64 p] 26) = W1 at *
  have B1 : Hid (Below W.heap.size W W1) := b1
  obtain ⟨ao, cap, rfl, hcap, hc⟩ := il_of_own h
  clear hc b1 h
  have c0 := R1.c0
  go_enter Try.func14, Try.ntmps14
  go_wp2_with (first | (go_at_call 15; (with_reducible refine i1.mono ?_); rintro e w' ⟨rfl, hw⟩; obtain rfl := hw.symm))
  go_ret
  exact ⟨rfl, B1.out⟩

/-- The program's first answer, in memory: the ring in block b, what was told. -/
structure Gb (Ws Wx W : World) (b : Nat) (gc gu : Value) (n N : Nat) (f t : Nat → Int) (p : Int) : Prop where
  D : Below Ws.heap.size Ws W
  oc : W.ownsRow Wx.heap.size 3 1 gc n (ils f n)
  ou : W.ownsRow Wx.heap.size 3 1 gu N (ils t N)
  ap : Apart gc gu
  rb : Rg W b gc (.int .i64 p)
  nc : gc.ownBlock ≠ some b
  nu : gu.ownBlock ≠ some b
  hb : Wx.heap.size ≤ b
  hs : Ws.heap.size ≤ Wx.heap.size
  hx : Wx.heap.size ≤ W.heap.size

theorem Gb.below {Ws Wx W W' : World} {b n N : Nat} {gc gu : Value} {f t : Nat → Int} {p : Int} (h : Gb Ws Wx W b gc gu n N f t p) (hb : Below W.heap.size W W') : Gb Ws Wx W' b gc gu n N f t p :=
  ⟨bstep h.D hb, own_below h.oc hb, own_below h.ou hb, h.ap, h.rb.call hb, h.nc, h.nu, h.hb, h.hs, Nat.le_trans h.hx hb.size⟩

/-- Something older is marked. -/
theorem Gb.only {Ws Wx W W' : World} {b n N g : Nat} {gc gu : Value} {f t : Nat → Int} {p : Int} (h : Gb Ws Wx W b gc gu n N f t p) (ho : Only g W W') (h1 : Ws.heap.size ≤ g) (h2 : g < Wx.heap.size) : Gb Ws Wx W' b gc gu n N f t p :=
  ⟨Below.only h.D ho h1, own_only h.oc ho h2, own_only h.ou ho h2, h.ap, h.rb.block (ho.block b (by have := h.hb; omega)), h.nc, h.nu, h.hb, h.hs, Nat.le_trans h.hx ho.size⟩

/-- The ring's cells are marked. -/
theorem Gb.mark0 {Ws Wx W W' : World} {b n N g : Nat} {gc gu : Value} {f f' t : Nat → Int} {p : Int} (h : Gb Ws Wx W b gc gu n N f t p) (ho : Only g W W') (h1 : Wx.heap.size ≤ g) (hor : gc.ownBlock = some g ∨ W' = W) (hn : W'.ownsRow Wx.heap.size 3 1 gc n (ils f' n)) : Gb Ws Wx W' b gc gu n N f' t p := by
  refine ⟨Below.only h.D ho (Nat.le_trans h.hs h1), hn, own_apart h.ou ho hor (apart_symm h.ap), h.ap, ?_, h.nc, h.nu, h.hb, h.hs, Nat.le_trans h.hx ho.size⟩
  rcases hor with e | rfl
  · exact h.rb.block (ho.block b (fun x => h.nc (by rw [e, x])))
  · exact h.rb

/-- What was told is marked. -/
theorem Gb.mark1 {Ws Wx W W' : World} {b n N g : Nat} {gc gu : Value} {f t t' : Nat → Int} {p : Int} (h : Gb Ws Wx W b gc gu n N f t p) (ho : Only g W W') (h1 : Wx.heap.size ≤ g) (hor : gu.ownBlock = some g ∨ W' = W) (hn : W'.ownsRow Wx.heap.size 3 1 gu N (ils t' N)) : Gb Ws Wx W' b gc gu n N f t' p := by
  refine ⟨Below.only h.D ho (Nat.le_trans h.hs h1), own_apart h.oc ho hor h.ap, hn, h.ap, ?_, h.nc, h.nu, h.hb, h.hs, Nat.le_trans h.hx ho.size⟩
  rcases hor with e | rfl
  · exact h.rb.block (ho.block b (fun x => h.nu (by rw [e, x])))
  · exact h.rb

theorem push_long {w : World} {ao lo : Option Addr} {n cap N lc : Nat} (o : Int) (hn : n ≤ 9223372036854775807) (hN : N ≤ 9223372036854775807) (h : 1048576 < n ∨ 1048576 < N) : Calls Try.prog 3 #[.agg #[.slice ao n cap, .int .i64 o], .slice lo N lc] w fun e w' => e = .returned (.bool true) ∧ Below w.heap.size w w' := by
  have b1 : Hid (Below w.heap.size w (w.alloc (.cells #[.slice ao n cap, .int .i64 o] 24))) := below_one w _
  have i1 := szRing_any (w := w.alloc (.cells #[.slice ao n cap, .int .i64 o] 24)) (ao := ao) (cap := cap) o hn
  by_cases h2 : 1048576 < N
  · clear i1
    go_enter Try.func3, Try.ntmps3
    go_wp2
    go_ret
    exact ⟨rfl, b1.out⟩
  · rw [if_neg (by omega)] at i1
    go_enter Try.func3, Try.ntmps3
    go_wp2_with (first | (go_at_call 5; (with_reducible refine i1.mono ?_); rintro e w2 ⟨rfl, hb⟩; have B2 : Hid (Below w.heap.size w w2) := bstep b1.out hb; clear hb))
    go_ret
    exact ⟨rfl, B2.out⟩
end Go.Proofs.Ytphnoghnoacfiaa
