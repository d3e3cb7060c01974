/- FnFixed: the draws. -/
import Derived.Test.YtnabpijackgmnaaD7
namespace Go.Proofs.Ytnabpijackgmnaa
open Go.RowKit

/-- Two lists that are drawn: both owned, apart; the cursor goes on. -/
structure TwoL (w W : World) (B c : Nat) (a : Option Addr) (len cap : Nat) (u v : Value) (n m : Nat) : Prop where
  oa : ∃ xs, W.ownsRow B 3 1 u n (ils xs n)
  ob : ∃ ys, W.ownsRow B 3 1 v m (ils ys m)
  ap : Apart u v
  cu : Cu W c a len cap
  kp : Keep c w W

/-- A cursor that was there when the first list began: what grows behind it leaves it alone. -/
structure Base (w w0 : World) (B c : Nat) (a : Option Addr) (len cap : Nat) : Prop where
  cu : Cu w0 c a len cap
  kp : Keep c w w0
  sz : B = w0.heap.size
  cb : c < B

theorem TwoL.draw {w w0 W W' : World} {B c n m : Nat} {a : Option Addr} {len cap : Nat} {u v : Value} (hb : Base w w0 B c a len cap) (h : TwoL w0 W B c a len cap u v n m) (hc : Cu W' c a len cap) (hk : Keep c W W') : TwoL w0 W' B c a len cap u v n m := by
  obtain ⟨⟨xs, ha⟩, ⟨ys, hv⟩, hap, hcu, hkp⟩ := h
  exact ⟨⟨xs, own_keep ha hk hb.cb⟩, ⟨ys, own_keep hv hk hb.cb⟩, hap, hc, hkp.trans hk⟩

theorem TwoL.one {w w0 W : World} {B c n m : Nat} {a : Option Addr} {len cap : Nat} {u v : Value} (h : TwoL w0 W B c a len cap u v n m) (o : Obj) (_ : Base w w0 B c a len cap) : TwoL w0 (W.alloc o) B c a len cap u v n m := by
  obtain ⟨⟨xs, ha⟩, ⟨ys, hv⟩, hap, hcu, hkp⟩ := h
  have hb := below_one W o
  exact ⟨⟨xs, own_below ha hb⟩, ⟨ys, own_below hv hb⟩, hap, hcu.call hb, hkp.call hb⟩

theorem TwoL.size {w0 W : World} {B c n m : Nat} {a : Option Addr} {len cap : Nat} {u v : Value} {w : World} (h : TwoL w0 W B c a len cap u v n m) (hb : Base w w0 B c a len cap) : B ≤ W.heap.size := by
  rw [hb.sz]
  exact h.kp.size

/-- The first list made longer. -/
theorem TwoL.appA {w w0 W W' : World} {B c n m : Nat} {a : Option Addr} {len cap : Nat} {u u' v : Value} {xs : Nat → Int} {x : Int} (hb : Base w w0 B c a len cap) (h : TwoL w0 W B c a len cap u v n m) (ha : W.ownsRow B 3 1 u n (ils xs n))
    (ho : W'.ownsRow B 3 1 u' (n + 1) (ils xs n ++ [.int .i64 x])) (hg : W.grownBy W' u.ownBlock) (hbk : u'.ownBlock = u.ownBlock ∨ u'.ownBlock = some W.heap.size) : TwoL w0 W' B c a len cap u' v (n + 1) m := by
  obtain ⟨_, ⟨ys, hv⟩, hap, hcu, hkp⟩ := h
  have hB : Below w0.heap.size W W' := by
    have := grown_below (Below.refl B W) (by rw [hb.sz]; exact hkp.size) ha hg
    rw [hb.sz] at this
    exact this
  rw [ils_app] at ho
  exact ⟨⟨_, ho⟩, ⟨ys, World.ownsRow.kept hv hg hap.symm⟩, hap.app hv hbk, hb.cu.grow hcu hkp hB, hkp.below hB⟩

/-- The second list made longer. -/
theorem TwoL.appB {w w0 W W' : World} {B c n m : Nat} {a : Option Addr} {len cap : Nat} {u v v' : Value} {ys : Nat → Int} {x : Int} (hb : Base w w0 B c a len cap) (h : TwoL w0 W B c a len cap u v n m) (hv : W.ownsRow B 3 1 v m (ils ys m))
    (ho : W'.ownsRow B 3 1 v' (m + 1) (ils ys m ++ [.int .i64 x])) (hg : W.grownBy W' v.ownBlock) (hbk : v'.ownBlock = v.ownBlock ∨ v'.ownBlock = some W.heap.size) : TwoL w0 W' B c a len cap u v' n (m + 1) := by
  obtain ⟨⟨xs, ha⟩, _, hap, hcu, hkp⟩ := h
  have hB : Below w0.heap.size W W' := by
    have := grown_below (Below.refl B W) (by rw [hb.sz]; exact hkp.size) hv hg
    rw [hb.sz] at this
    exact this
  rw [ils_app] at ho
  exact ⟨⟨xs, World.ownsRow.kept ha hg hap⟩, ⟨_, ho⟩, (hap.symm.app ha hbk).symm, hb.cu.grow hcu hkp hB, hkp.below hB⟩

theorem two_new {w w0 : World} {c : Nat} {a : Option Addr} {len cap : Nat} (hb : Base w w0 w0.heap.size c a len cap) : TwoL w0 ((w0.alloc (.cells #[] 3)).alloc (.cells #[] 3)) w0.heap.size c a len cap (.slice (some ⟨w0.heap.size, 0, none⟩) 0 0) (.slice (some ⟨w0.heap.size + 1, 0, none⟩) 0 0) 0 0 := by
  have b1 := below_one w0 (.cells #[] 3)
  have b2 := below_one (w0.alloc (.cells #[] 3)) (.cells #[] 3)
  have hz : (w0.alloc (.cells #[] 3)).heap.size = w0.heap.size + 1 := by simp
  have o2 := own_empty (w0.alloc (.cells #[] 3)) 3 1
  rw [hz] at o2
  refine ⟨⟨fun _ => 0, own_below (own_empty w0 3 1) b2⟩, ⟨fun _ => 0, own_base o2 (by omega)⟩, .inr ?_, (hb.cu.call b1).call b2, ((Keep.refl _ _).call b1).call b2⟩
  simp [Value.ownBlock]
end Go.Proofs.Ytnabpijackgmnaa
