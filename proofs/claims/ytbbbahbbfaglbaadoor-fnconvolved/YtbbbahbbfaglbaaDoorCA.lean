/- Two lists that grow side by side. -/
import Derived.Test.YtbbbahbbfaglbaaDoorD4
import Derived.Test.YtbbbahbbfaglbaaDoorD3
namespace Go.Proofs.YtbbbahbbfaglbaaDoor
open Go.RowKit

/-- Where a row lies that was made longer: where it lay, or in a new block. -/
theorem app_block {P : Program} (w : World) (base : Nat) (t ty e : TypeId) (i : TypeInfo) (z : Value) (size bytes : Nat) (ht : P.underlying t = some (.slice e)) (hi : P.info? e = some i) (hz : i.zero = some z)
    (hsize : i.size = size) (hby : i.bytes = bytes) (v : Value) (n : Nat) (xs : List Value) (hown : w.ownsRow base e size v n xs)
    (a : Addr) (m c : Nat) (news : List Value) (hl : news.length = m * size) (hnews : ∀ j u, news[j]? = some u → w.cell? (a.add j) = some u) (h1 : ∀ u ∈ news, u.oneCell' = true)
    (h63 : n + m ≤ maxLen) (hbytes : (n + m) * bytes ≤ 140737488355328) (hm : 0 < m) {v' : Value} {w' : World} (hr : (Builtin.append_ #[t, t] ty #[v, .slice (some a) m c]).run P w = .ok v' w') :
    v'.ownBlock = v.ownBlock ∨ v'.ownBlock = some w.heap.size := by
  subst hsize
  subst hby
  have hsmall : n + m ≤ 9223372036854775807 := by simp only [maxLen] at h63; omega
  rcases hown.2 with ⟨rfl, rfl⟩ | ⟨g, cap, cur, rfl, hbg, hg, hnc, hcm, hcs, htake⟩
  · have h2 := run_append_nil (P := P) w t ty e i z ht hi hz a m c news hl hnews hm (by omega) (by have hb := hbytes; simp only [Nat.zero_add] at hb; omega)
    rw [h2] at hr
    injection hr with hr1 hr2
    rw [← hr1]
    exact .inr rfl
  · by_cases hroom : n + m ≤ cap
    · have hfit : n * i.size + news.length ≤ cur.size := by rw [hl, hcs, ← Nat.add_mul]; exact Nat.mul_le_mul_right _ hroom
      have h2 := run_append_room (P := P) w t ty e i ht hi g n cap cur hg a m c news hl hnews h1 hroom hfit
      rw [h2] at hr
      injection hr with hr1 hr2
      rw [← hr1]
      exact .inl rfl
    · have h2 := run_append_grow (P := P) w t ty e i z ht hi hz ⟨g, 0, none⟩ n cap xs hown.1 (hown.cells (g := g) rfl) a m c news hl hnews (by omega) (by omega) (growslice_fits (by omega) hbytes)
      rw [h2] at hr
      injection hr with hr1 hr2
      rw [← hr1]
      exact .inr rfl

/-- An append, and where the row lies behind it. -/
theorem wpList_app {P : Program} (w : World) {ops : Array Oper} {rest : List Oper} {o : Oper} {a : Act} {Q : Exit → Act → World → Prop} (hgd : o.guard = none) (s x : Operand) (t : TypeId)
    (ho : o.op = .call { callee := .builtin .append, args := #[s, x], argTypes := #[t, t] })
    (base : Nat) (e : TypeId) (i : TypeInfo) (z : Value) (size bytes : Nat) (ht : P.underlying t = some (.slice e)) (hi : P.info? e = some i) (hz : i.zero = some z)
    (hsize : i.size = size) (hby : i.bytes = bytes) (hzs : z.cells.size = size) (hsz : 0 < size)
    (v : Value) (n : Nat) (xs : List Value) (hs : a.eval s = v) (hown : w.ownsRow base e size v n xs)
    (ad : Addr) (m c : Nat) (news : List Value) (hx : a.eval x = .slice (some ad) m c) (hl : news.length = m * size) (hnews : ∀ j u, news[j]? = some u → w.cell? (ad.add j) = some u) (h1 : ∀ u ∈ news, u.oneCell' = true)
    (h63 : n + m ≤ maxLen) (hbytes : (n + m) * bytes ≤ 140737488355328) (hbase : base ≤ w.heap.size) (hm : 0 < m)
    (h : ∀ v' w', w'.ownsRow base e size v' (n + m) (xs ++ news) → w.grownBy w' v.ownBlock → (v'.ownBlock = v.ownBlock ∨ v'.ownBlock = some w.heap.size) → wpList P ops Q rest (a.put o.dst v') w') : wpList P ops Q (o :: rest) a w := by
  refine wpList_plain hgd fun K hK => ?_
  obtain ⟨v', w', hr, h2, h3, _⟩ := run_append_own (P := P) w base t o.type e i z size bytes ht hi hz hsize hby hzs hsz v n xs hown ad m c news hl hnews h1 h63 hbytes hbase
  have h5 := app_block (P := P) w base t o.type e i z size bytes ht hi hz hsize hby v n xs hown ad m c news hl hnews h1 h63 hbytes hm hr
  unfold Oper.wp execOp
  simp only [ho, resolve, invoke, builtin, Sem.run_bind, Sem.run_pure, Result.andThen_ok, List.map_toArray, List.map_cons, List.map_nil, hs, hx, hr]
  exact hK _ _ (h v' w' h2 h3 h5)

/-- Two rows in two blocks. -/
def Apart (u v : Value) : Prop := u.ownBlock = none ∨ u.ownBlock ≠ v.ownBlock

theorem Apart.symm {u v : Value} (h : Apart u v) : Apart v u := by
  rcases h with h | h
  · by_cases h2 : v.ownBlock = none
    · exact .inl h2
    · exact .inr (fun e => h2 (e.trans h))
  · exact .inr (fun e => h e.symm)

/-- The first row made longer: still apart from the second. -/
theorem Apart.app {w : World} {B s n : Nat} {e : TypeId} {u u' v : Value} {xs : List Value} (h : Apart u v) (hv : w.ownsRow B e s v n xs) (hu : u'.ownBlock = u.ownBlock ∨ u'.ownBlock = some w.heap.size) : Apart u' v := by
  rcases hu with hu | hu
  · unfold Apart at *
    rw [hu]
    exact h
  · refine .inr (fun e => ?_)
    rw [hu] at e
    have := World.ownsRow.lt hv _ e.symm
    omega

/-- Two lists that are drawn: both owned, apart; the cursor goes on. -/
structure TwoL (w W : World) (B c : Nat) (a : Option Addr) (len cap : Nat) (u v : Value) (n m : Nat) : Prop where
  oa : ∃ xs, W.ownsRow B 3 1 u n (ils xs n)
  ob : ∃ ys, W.ownsRow B 3 1 v m (ils ys m)
  ap : Apart u v
  cu : Cu W c a len cap
  kp : Keep c w W

/-- A cursor that was there when the first list began: what grows behind it leaves it alone. -/
structure Base (w w0 : World) (B c : Nat) (a : Option Addr) (len cap : Nat) : Prop where
  cu : Cu w0 c a len cap
  kp : Keep c w w0
  sz : B = w0.heap.size
  cb : c < B

theorem TwoL.draw {w w0 W W' : World} {B c n m : Nat} {a : Option Addr} {len cap : Nat} {u v : Value} (hb : Base w w0 B c a len cap) (h : TwoL w0 W B c a len cap u v n m) (hc : Cu W' c a len cap) (hk : Keep c W W') : TwoL w0 W' B c a len cap u v n m := by
  obtain ⟨⟨xs, ha⟩, ⟨ys, hv⟩, hap, hcu, hkp⟩ := h
  exact ⟨⟨xs, own_keep ha hk hb.cb⟩, ⟨ys, own_keep hv hk hb.cb⟩, hap, hc, hkp.trans hk⟩

theorem TwoL.one {w w0 W : World} {B c n m : Nat} {a : Option Addr} {len cap : Nat} {u v : Value} (h : TwoL w0 W B c a len cap u v n m) (o : Obj) (_ : Base w w0 B c a len cap) : TwoL w0 (W.alloc o) B c a len cap u v n m := by
  obtain ⟨⟨xs, ha⟩, ⟨ys, hv⟩, hap, hcu, hkp⟩ := h
  have hb := below_one W o
  exact ⟨⟨xs, own_below ha hb⟩, ⟨ys, own_below hv hb⟩, hap, hcu.call hb, hkp.call hb⟩

theorem TwoL.size {w0 W : World} {B c n m : Nat} {a : Option Addr} {len cap : Nat} {u v : Value} {w : World} (h : TwoL w0 W B c a len cap u v n m) (hb : Base w w0 B c a len cap) : B ≤ W.heap.size := by
  rw [hb.sz]
  exact h.kp.size

/-- The first list made longer. -/
theorem TwoL.appA {w w0 W W' : World} {B c n m : Nat} {a : Option Addr} {len cap : Nat} {u u' v : Value} {xs : Nat → Int} {x : Int} (hb : Base w w0 B c a len cap) (h : TwoL w0 W B c a len cap u v n m) (ha : W.ownsRow B 3 1 u n (ils xs n))
    (ho : W'.ownsRow B 3 1 u' (n + 1) (ils xs n ++ [.int .i64 x])) (hg : W.grownBy W' u.ownBlock) (hbk : u'.ownBlock = u.ownBlock ∨ u'.ownBlock = some W.heap.size) : TwoL w0 W' B c a len cap u' v (n + 1) m := by
  obtain ⟨_, ⟨ys, hv⟩, hap, hcu, hkp⟩ := h
  have hB : Below w0.heap.size W W' := by
    have := grown_below (Below.refl B W) (by rw [hb.sz]; exact hkp.size) ha hg
    rw [hb.sz] at this
    exact this
  rw [ils_app] at ho
  exact ⟨⟨_, ho⟩, ⟨ys, World.ownsRow.kept hv hg hap.symm⟩, hap.app hv hbk, hb.cu.grow hcu hkp hB, hkp.below hB⟩

/-- The second list made longer. -/
theorem TwoL.appB {w w0 W W' : World} {B c n m : Nat} {a : Option Addr} {len cap : Nat} {u v v' : Value} {ys : Nat → Int} {x : Int} (hb : Base w w0 B c a len cap) (h : TwoL w0 W B c a len cap u v n m) (hv : W.ownsRow B 3 1 v m (ils ys m))
    (ho : W'.ownsRow B 3 1 v' (m + 1) (ils ys m ++ [.int .i64 x])) (hg : W.grownBy W' v.ownBlock) (hbk : v'.ownBlock = v.ownBlock ∨ v'.ownBlock = some W.heap.size) : TwoL w0 W' B c a len cap u v' n (m + 1) := by
  obtain ⟨⟨xs, ha⟩, _, hap, hcu, hkp⟩ := h
  have hB : Below w0.heap.size W W' := by
    have := grown_below (Below.refl B W) (by rw [hb.sz]; exact hkp.size) hv hg
    rw [hb.sz] at this
    exact this
  rw [ils_app] at ho
  exact ⟨⟨xs, World.ownsRow.kept ha hg hap⟩, ⟨_, ho⟩, (hap.symm.app ha hbk).symm, hb.cu.grow hcu hkp hB, hkp.below hB⟩

end Go.Proofs.YtbbbahbbfaglbaaDoor
