/- A step of the search. -/
import Derived.Test.YtgkcofjhajjjgaaLC
import Derived.Test.YtgkcofjhajjjgaaLD
import Derived.ScopeJumps
import Derived.WalkMore
namespace Go.Proofs.Ytgkcofjhajjjgaa
open Go.RowKit

/-- What stands while a step goes on: the list of longer paths, best among the candidates that came. -/
def Tol (w1 wr : World) (M a b i : Nat) (xs : Nat → Int) (T : Nat → Nat) (U : Nat → Nat → Nat) (v : Value) (n' : Nat) (Pr : Nat → Nat → Prop) (T' : Nat → Nat) (S' : Nat → Int) (U' : Nat → Nat → Nat) (P' : Nat → Value) : Prop :=
  Pth wr w1.heap.size v n' (i + 1) T' S' U' P' ∧ Pi (nx M) (gg a b xs) i T U Pr (fun k => k < n') T' U' S' ∧ Below w1.heap.size w1 wr

theorem Tol.call {w1 wr wr' : World} {M a b i n' : Nat} {xs : Nat → Int} {T : Nat → Nat} {U : Nat → Nat → Nat} {v : Value} {Pr : Nat → Nat → Prop} {T' : Nat → Nat} {S' : Nat → Int} {U' : Nat → Nat → Nat} {P' : Nat → Value} (h : Tol w1 wr M a b i xs T U v n' Pr T' S' U' P') (hb : Below wr.heap.size wr wr') : Tol w1 wr' M a b i xs T U v n' Pr T' S' U' P' :=
  ⟨h.1.below hb, h.2.1, bstep h.2.2 hb⟩

theorem Tol.le {w1 wr : World} {M a b i n' : Nat} {xs : Nat → Int} {T : Nat → Nat} {U : Nat → Nat → Nat} {v : Value} {Pr : Nat → Nat → Prop} {T' : Nat → Nat} {S' : Nat → Int} {U' : Nat → Nat → Nat} {P' : Nat → Value} (h : Tol w1 wr M a b i xs T U v n' Pr T' S' U' P') (hM : 1 ≤ M ∧ M ≤ 6) : n' ≤ 64 :=
  Nat.le_trans (pigeon (2 ^ M) n' T' (fun k hk => by obtain ⟨q, c, _, _, h3⟩ := h.2.1.fr k hk; rw [h3]; exact Nat.mod_lt _ (Nat.two_pow_pos M)) (fun x y hx hy => h.2.1.inj x y hx hy)) (pow_le64 hM)

theorem Tol.lt {w1 wr : World} {M a b i n' g cp : Nat} {xs : Nat → Int} {T : Nat → Nat} {U : Nat → Nat → Nat} {Pr : Nat → Nat → Prop} {T' : Nat → Nat} {S' : Nat → Int} {U' : Nat → Nat → Nat} {P' : Nat → Value} (h : Tol w1 wr M a b i xs T U (.slice (some ⟨g, 0, none⟩) n' cp) n' Pr T' S' U' P') : w1.heap.size ≤ g ∧ g < wr.heap.size := World.ownsRow.lt h.1.own g rfl

theorem Pam.block {W W' : World} {g : Nat} {c l s : Int} {p : Value} (h : Pam W g c l s p) (hb : W'.heap[g]? = W.heap[g]?) : Pam W' g c l s p :=
  ⟨(World.cell?_of_block (w := W) hb).trans h.c0, (World.cell?_of_block (w := W) hb).trans h.c1, (World.cell?_of_block (w := W) hb).trans h.c2, (World.cell?_of_block (w := W) hb).trans h.c3, (World.frozen?_of_block (w := W) hb).trans h.z0, (World.frozen?_of_block (w := W) hb).trans h.z1, (World.frozen?_of_block (w := W) hb).trans h.z2, (World.frozen?_of_block (w := W) hb).trans h.z3⟩

/-- The candidates ahead of (q, c). -/
def prq (ch q c q' b' : Nat) : Prop := (q' < q ∧ b' < ch) ∨ (q' = q ∧ b' < c)

theorem prq_next {ch q x : Nat} (_ : x < ch) (q' b' : Nat) : (prq ch q x q' b' ∨ (q' = q ∧ b' = x)) ↔ prq ch q (x + 1) q' b' := by
  unfold prq
  omega

theorem tol_worse {w1 wr : World} {M a b i n' ch q x k : Nat} {xs : Nat → Int} {T : Nat → Nat} {U : Nat → Nat → Nat} {v : Value} {T' : Nat → Nat} {S' : Nat → Int} {U' : Nat → Nat → Nat} {P' : Nat → Value} (h : Tol w1 wr M a b i xs T U v n' (prq ch q x) T' S' U' P') (hx : x < ch) (hk : k < n') (ht : T' k = nx M (T q) x)
    (hw : ¬ Tr.Bt (nx M) (gg a b xs) (Tr.ex (U q) i x) (U' k) (i + 1)) : Tol w1 wr M a b i xs T U v n' (prq ch q (x + 1)) T' S' U' P' :=
  ⟨h.1, (h.2.1.worse hk ht hw).congr (prq_next hx) (fun _ => Iff.rfl), h.2.2⟩

theorem tol_better {w1 wr wr' : World} {M a b i n' ch q x k : Nat} {s : Int} {p : Value} {xs : Nat → Int} {T : Nat → Nat} {U : Nat → Nat → Nat} {v : Value} {T' : Nat → Nat} {S' : Nat → Int} {U' : Nat → Nat → Nat} {P' : Nat → Value} (h : Tol w1 wr M a b i xs T U v n' (prq ch q x) T' S' U' P') (hx : x < ch) (hk : k < n') (ht : T' k = nx M (T q) x)
    (hw : Tr.Bt (nx M) (gg a b xs) (Tr.ex (U q) i x) (U' k) (i + 1)) (hs : s = Tr.vl (nx M) (gg a b xs) (Tr.ex (U q) i x) (i + 1))
    (hP : Pth wr' w1.heap.size v n' (i + 1) (fun l => if l = k then T' k else T' l) (fun l => if l = k then s else S' l) (fun l => if l = k then Tr.ex (U q) i x else U' l) (fun l => if l = k then p else P' l)) (hb : Below w1.heap.size w1 wr') :
    Tol w1 wr' M a b i xs T U v n' (prq ch q (x + 1)) (fun l => if l = k then T' k else T' l) (fun l => if l = k then s else S' l) (fun l => if l = k then Tr.ex (U q) i x else U' l) (fun l => if l = k then p else P' l) := by
  have e : (fun l => if l = k then T' k else T' l) = T' := by funext l; split; rename_i e; rw [e]; rfl
  refine ⟨hP, ?_, hb⟩
  rw [e]
  exact (h.2.1.better hk ht hw hs).congr (prq_next hx) (fun _ => Iff.rfl)

theorem tol_new {w1 wr wr' : World} {M a b i n' ch q x t : Nat} {s : Int} {p : Value} {xs : Nat → Int} {T : Nat → Nat} {U : Nat → Nat → Nat} {v v' : Value} {T' : Nat → Nat} {S' : Nat → Int} {U' : Nat → Nat → Nat} {P' : Nat → Value} (h : Tol w1 wr M a b i xs T U v n' (prq ch q x) T' S' U' P') (hx : x < ch) (ht : t = nx M (T q) x)
    (hno : ∀ l, l < n' → T' l ≠ t) (hs : s = Tr.vl (nx M) (gg a b xs) (Tr.ex (U q) i x) (i + 1))
    (hP : Pth wr' w1.heap.size v' (n' + 1) (i + 1) (fun l => if l = n' then t else T' l) (fun l => if l = n' then s else S' l) (fun l => if l = n' then Tr.ex (U q) i x else U' l) (fun l => if l = n' then p else P' l)) (hb : Below w1.heap.size w1 wr') :
    Tol w1 wr' M a b i xs T U v' (n' + 1) (prq ch q (x + 1)) (fun l => if l = n' then t else T' l) (fun l => if l = n' then s else S' l) (fun l => if l = n' then Tr.ex (U q) i x else U' l) (fun l => if l = n' then p else P' l) :=
  ⟨hP, (h.2.1.new (Nat.lt_irrefl n') ht hno hs).congr (prq_next hx) (fun k => by omega), hb⟩

theorem four_new (w : World) (a b c d : Value) (t : TypeId) : ∀ j u, [a, b, c, d][j]? = some u → (w.alloc (.cells #[a, b, c, d] t)).cell? ((⟨w.heap.size, 0, none⟩ : Addr).add j) = some u := by
  intro j u h
  match j, h with
  | 0, h => simp at h; subst h; simp [Addr.add]
  | 1, h => simp at h; subst h; simp [Addr.add]
  | 2, h => simp at h; subst h; simp [Addr.add]
  | 3, h => simp at h; subst h; simp [Addr.add]
  | n + 4, h => simp at h

set_option maxRecDepth 20000 in
set_option maxHeartbeats 16000000 in
theorem step_any {w : World} {pv sf : Value} {B M a b i N n0 ch n : Nat} {T : Nat → Nat} {S : Nat → Int} {U : Nat → Nat → Nat} {P : Nat → Value} {xs : Nat → Int} (hP : Pth w B pv n0 i T S U P) (h0 : 0 < n0) (hf : Il w sf N xs) (hM : 1 ≤ M ∧ M ≤ 6) (ha : a < 128) (hb9 : b < 128) (hi : 2 * i + 1 < N) (hN : N ≤ 252)
    (hxs : ∀ k, k < N → -100 ≤ xs k ∧ xs k ≤ 100) (hL : Li (nx M) (gg a b xs) (alw n) i (fun k => k < n0) T U S) (hch : (ch = 2 ∧ i < n) ∨ (ch = 1 ∧ n ≤ i)) :
    Calls Try.prog 38 #[cdv M a b, pv, sf, .int .i64 (ch : Int)] w fun e w' => ∃ g cp n' T' S' U' P', e = .returned (.slice (some ⟨g, 0, none⟩) n' cp) ∧ Pth w' w.heap.size (.slice (some ⟨g, 0, none⟩) n' cp) n' (i + 1) T' S' U' P' ∧ Li (nx M) (gg a b xs) (alw n) (i + 1) (fun k => k < n') T' U' S' ∧ Below w.heap.size w w' := by
  obtain ⟨i0, hi0, hz0, hz1, hz2⟩ := info_parts Try.info59
  have hT : ∀ k, k < n0 → T k < 2 ^ M := fun k hk => by rw [← (hL.op k hk).1]; exact stt_lt hM i
  have hn64 : n0 ≤ 64 := Nat.le_trans (pigeon (2 ^ M) n0 T hT (fun x y hx hy => hL.inj x y hx hy)) (pow_le64 hM)
  have HT : Hid (∀ k, k < n0 → T k ≤ 63) := fun k hk => by have := hT k hk; have := pow_le64 hM; omega
  have HS : Hid (∀ k, k < n0 → -26000 ≤ S k ∧ S k ≤ 26000) := fun k hk => by
    have h1 := vl_bound (nx := nx M) (a := a) (b := b) (xs := xs) (u := U k) (i := i) (fun k hk => hxs k (by omega))
    rw [hL.sc k hk]
    omega
  have HXS : Hid (∀ k, k < N → -100 ≤ xs k ∧ xs k ≤ 100) := hxs
  have HL : Hid (Li (nx M) (gg a b xs) (alw n) i (fun k => k < n0) T U S) := hL
  have hch2 : ch ≤ 2 := by omega
  have HCH : Hid ((ch = 2 ∧ i < n) ∨ (ch = 1 ∧ n ≤ i)) := hch
  have P1 : Hid (Pth (w.alloc (.cells #[.int .i64 (M : Int), .int .i64 (a : Int), .int .i64 (b : Int)] 48)) B pv n0 i T S U P) := hP.below (below_one _ _)
  have F1 : Hid (Il (w.alloc (.cells #[.int .i64 (M : Int), .int .i64 (a : Int), .int .i64 (b : Int)] 48)) sf N xs) := hf.below (below_one _ _)
  have C1 : Hid (Cdm (w.alloc (.cells #[.int .i64 (M : Int), .int .i64 (a : Int), .int .i64 (b : Int)] 48)) w.heap.size M a b) := Cdm.new w M a b 48
  have BL : Hid (Below w.heap.size w (w.alloc (.cells #[.int .i64 (M : Int), .int .i64 (a : Int), .int .i64 (b : Int)] 48))) := below_one _ _
  have HSZ1 : Hid ((w.alloc (.cells #[.int .i64 (M : Int), .int .i64 (a : Int), .int .i64 (b : Int)] 48)).heap.size = w.heap.size + 1) := size_one _ _
  obtain ⟨gp, cpp, rfl⟩ : ∃ g cp, pv = .slice (some ⟨g, 0, none⟩) n0 cp := by
    rcases hP.own.2 with ⟨rfl, h9⟩ | ⟨g, cp, cur, rfl, _⟩
    · omega
    · exact ⟨g, cp, rfl⟩
  obtain ⟨so, cs, rfl, hcs, hc2⟩ := hf
  clear hc2 hP hL hT hxs hch
  obtain ⟨w1, hw1⟩ : ∃ w1, w1 = w.alloc (.cells #[.int .i64 (M : Int), .int .i64 (a : Int), .int .i64 (b : Int)] 48) := ⟨_, rfl⟩
  have HW1 : Hid (w1 = w.alloc (.cells #[.int .i64 (M : Int), .int .i64 (a : Int), .int .i64 (b : Int)] 48)) := hw1
  rw [← hw1] at P1 F1 C1 BL HSZ1
  clear hw1
  have OT : Hid ((w1.alloc (.cells #[] 59)).ownsRow w1.heap.size 59 4 (.slice (some ⟨w1.heap.size, 0, none⟩) 0 0) 0 (vls (pc ((i + 1 : Nat) : Int) (fun _ => 0) (fun _ => 0) (fun _ => undef)) (0 * 4))) := own_empty w1 59 4
  have TL0 : Hid (Tol w1 (w1.alloc (.cells #[] 59)) M a b i xs T U (.slice (some ⟨w1.heap.size, 0, none⟩) 0 0) 0 (prq ch 0 0) (fun _ => 0) (fun _ => 0) (fun _ _ => 0) (fun _ => undef)) :=
    ⟨⟨OT.out, fun k hk => by omega⟩, Pi.start (fun q b h => by rcases h with h | h <;> omega) (fun k hk => by omega), below_one _ _⟩
  clear OT
  go_enter Try.func38, Try.ntmps38
  go_upto_region 1 with (fail)
  rw [← HW1.out]
  go_wp2
  generalize w1.alloc (.cells #[] 59) = Wt at *
  go_loopw [9, 11, 12, 13, 14, 15, 19, 24, 34] (fun o _ _ _ _ _ c _ _ wr => ∃ q g cp n' : Nat, c = .int .i64 (q : Int) ∧ q ≤ n0 ∧ o = .slice (some ⟨g, 0, none⟩) n' cp ∧ Hid (∃ T' S' U' P', Tol w1 wr M a b i xs T U (.slice (some ⟨g, 0, none⟩) n' cp) n' (prq ch q 0) T' S' U' P')) (fun _ _ _ _ _ _ c _ _ _ => n0 - (intOf c).toNat)
  case atStart => exact ⟨0, w1.heap.size, 0, 0, rfl, by omega, rfl, _, _, _, _, TL0.out⟩
  case round =>
    obtain ⟨q, g, cp, n', rfl, hq, rfl, hrel⟩ := hrel
    by_cases h1 : q < n0
    · obtain ⟨T', S', U', P', hTol⟩ := hrel.out
      have hgp : gp < w1.heap.size := (World.ownsRow.lt P1.out.own gp rfl).2
      obtain ⟨c0, c1, c2, c3⟩ := P1.out.cells h1
      replace c0 := (hTol.2.2.cell (p := ⟨gp, q * 4, none⟩) hgp).trans c0
      replace c1 := (hTol.2.2.cell (p := ⟨gp, q * 4 + 1, none⟩) hgp).trans c1
      replace c2 := (hTol.2.2.cell (p := ⟨gp, q * 4 + 2, none⟩) hgp).trans c2
      replace c3 := (hTol.2.2.cell (p := ⟨gp, q * 4 + 3, none⟩) hgp).trans c3
      have HPQ : Hid (Il w1 (P q) i (wy (U q))) := P1.out.il h1
      obtain ⟨po, pcap, hPq, _, _⟩ := P1.out.il h1
      rw [hPq] at c3 HPQ
      have hTq := HT.out q h1
      have hSq := HS.out q h1
      obtain ⟨tq, htq⟩ : ∃ y, y = T q := ⟨_, rfl⟩
      obtain ⟨sq, hsq⟩ : ∃ y, y = S q := ⟨_, rfl⟩
      rw [← htq] at c1 hTq
      rw [← hsq] at c2 hSq
      have HTQ : Hid (tq = T q) := htq
      have HSQ : Hid (sq = S q) := hsq
      have TL1 : Hid (Tol w1 (wr.alloc (.cells #[.int .i64 (i : Int), .int .i64 (tq : Int), .int .i64 sq, .slice po i pcap] 59)) M a b i xs T U (.slice (some ⟨g, 0, none⟩) n' cp) n' (prq ch q 0) T' S' U' P') := hTol.call (below_one _ _)
      have PA1 : Hid (Pam (wr.alloc (.cells #[.int .i64 (i : Int), .int .i64 (tq : Int), .int .i64 sq, .slice po i pcap] 59)) wr.heap.size (i : Int) (tq : Int) sq (.slice po i pcap)) := Pam.new _ _ _ _ _ _ _ _
      have hap : g ≠ wr.heap.size := by have := hTol.lt; omega
      clear hrel htq hsq hPq hTol
      obtain ⟨G11, hG⟩ : ∃ G, G = wr.heap.size := ⟨_, rfl⟩
      rw [← hG] at PA1 hap
      go_wp2
      rw [← hG]
      generalize wr.alloc (.cells #[.int .i64 (i : Int), .int .i64 (tq : Int), .int .i64 sq, .slice po i pcap] 59) = Wq at *
      clear hG c0 c1 c2 c3
      go_loopw [9, 12, 13, 14, 15, 24, 34] (fun o _ _ _ _ c _ wr2 => ∃ x g cp n' : Nat, c = .int .i64 (x : Int) ∧ x ≤ ch ∧ o = .slice (some ⟨g, 0, none⟩) n' cp ∧ g ≠ G11 ∧ Hid ((∃ T' S' U' P', Tol w1 wr2 M a b i xs T U (.slice (some ⟨g, 0, none⟩) n' cp) n' (prq ch q x) T' S' U' P') ∧ Pam wr2 G11 (i : Int) (tq : Int) sq (.slice po i pcap))) (fun _ _ _ _ _ c _ _ => ch - (intOf c).toNat)
      case atStart => exact ⟨0, g, cp, n', rfl, by omega, rfl, hap, ⟨_, _, _, _, TL1.out⟩, PA1.out⟩
      case round =>
        obtain ⟨x, g, cp, n', rfl, hx, rfl, hap, hrel⟩ := hrel
        by_cases h2 : x < ch
        · go_wp2
          refine wp_scope_jumps 0 (fun a' w' => ∃ (g2 cp2 n2 : Nat) (v13 v14 v15 v27 v28 v29 v30 v31 v32 v33 v34 v35 v36 v37 v38 v39 v40 v41 v42 v43 v44 v45 v46 v47 v48 v49 v50 v51 v52 v53 v54 v55 v56 : Value), a' = ({ tmps := #[cdv M a b, .slice (some ⟨gp, 0, none⟩) n0 cpp, .slice so N cs, .int .i64 (ch : Int), .pointer (some ⟨w.heap.size, 0, none⟩), undef, undef, undef, .slice none 0 0, .slice (some ⟨g2, 0, none⟩) n2 cp2, undef, .pointer (some ⟨G11, 0, none⟩), .int .i64 (x : Int), v13, v14, v15, .slice (some ⟨w1.heap.size, 0, none⟩) 0 0, .slice (some ⟨gp, 0, none⟩) n0 cpp, .int .i64 (n0 : Int), .int .i64 (q : Int), .bool true, .pointer (some ⟨gp, q * 4, none⟩), .agg #[.int .i64 (i : Int), .int .i64 (tq : Int), .int .i64 sq, .slice po i pcap], .int .i64 (ch : Int), .int .i64 (x : Int), .bool true, .int .i64 (x : Int), v27, v28, v29, v30, v31, v32, v33, v34, v35, v36, v37, v38, v39, v40, v41, v42, v43, v44, v45, v46, v47, v48, v49, v50, v51, v52, v53, v54, v55, v56, u57, undef], defers := [] } : Act) ∧ g2 ≠ G11 ∧ Hid ((∃ T' S' U' P', Tol w1 w' M a b i xs T U (.slice (some ⟨g2, 0, none⟩) n2 cp2) n2 (prq ch q (x + 1)) T' S' U' P') ∧ Pam w' G11 (i : Int) (tq : Int) sq (.slice po i pcap))) (fun _ _ => 0) rfl ?_ ?_
          · obtain ⟨T', S', U', P', hTol⟩ := hrel.out.1
            have PM : Hid (Pam wr G11 (i : Int) (tq : Int) sq (.slice po i pcap)) := hrel.out.2
            have hwl : w.heap.size < w1.heap.size := by have := HSZ1.out; omega
            obtain ⟨e0, e1, e2⟩ := C1.out.at hTol.2.2 hwl
            obtain ⟨c0, c1, c2, c3, _, _, _, _⟩ := hrel.out.2
            have hn64' := hTol.le hM
            have hx1 : x ≤ 1 := by omega
            have i1 := goOn_any (M := M) (a := a) (b := b) (l := tq) (x := x) (s := sq) (HPQ.out.below hTol.2.2) (F1.out.below hTol.2.2) hM ha hb9 hi hN hTq hx1 hSq (HXS.out _ (by omega)) (HXS.out _ hi)
            obtain ⟨t2, ht2⟩ : ∃ t2, t2 = nx M tq x := ⟨_, rfl⟩
            obtain ⟨s2, hs2⟩ : ∃ s2, s2 = sq + gg a b xs i tq x := ⟨_, rfl⟩
            obtain ⟨j, hj⟩ : ∃ j, j = i + 1 := ⟨_, rfl⟩
            rw [← ht2, ← hs2, ← hj] at i1
            have HT2 : Hid (t2 = nx M (T q) x) := by rw [← HTQ.out]; exact ht2
            have HS2 : Hid (s2 = Tr.vl (nx M) (gg a b xs) (Tr.ex (U q) i x) (i + 1)) := by
              show s2 = _
              rw [Tr.vl_ex, (HL.out.op q h1).1, ← HL.out.sc q h1, ← HTQ.out, ← HSQ.out]
              exact hs2
            have HJ : Hid (j = i + 1) := hj
            have hj1 : 0 < j := by omega
            have hj2 : j ≤ 1000 := by omega
            have HTol : Hid (Tol w1 wr M a b i xs T U (.slice (some ⟨g, 0, none⟩) n' cp) n' (prq ch q x) T' S' U' P') := hTol
            clear hrel hTol ht2 hs2 hj
            go_upto_region 9 with (first | (go_at_call 60; (with_reducible refine i1.mono ?_); rintro e w5 ⟨v5, rfl, ho5, hb5⟩; have TL5 : Hid (Tol w1 w5 M a b i xs T U (.slice (some ⟨g, 0, none⟩) n' cp) n' (prq ch q x) T' S' U' P') := HTol.out.call hb5; have PM5 : Hid (Pam w5 G11 (i : Int) (tq : Int) sq (.slice po i pcap)) := PM.out.below hb5; obtain ⟨g5, cp5, rfl⟩ := own_pos ho5 hj1; have OV5 : Hid (w5.ownsRow w1.heap.size 3 1 (.slice (some ⟨g5, 0, none⟩) j cp5) j (ils (wy (Tr.ex (U q) i x)) j)) := own_base ho5 HTol.out.2.2.size; clear hb5 ho5))
            have hap13 : g ≠ w5.heap.size := by have := TL5.out.lt; omega
            have hG13 : G11 ≠ w5.heap.size := by have := PM5.out.lt; omega
            have TL6 : Hid (Tol w1 (w5.alloc (.cells #[.int .i64 (j : Int), .int .i64 (t2 : Int), .int .i64 s2, .slice (some ⟨g5, 0, none⟩) j cp5] 59)) M a b i xs T U (.slice (some ⟨g, 0, none⟩) n' cp) n' (prq ch q x) T' S' U' P') := TL5.out.call (below_one _ _)
            have PM6 : Hid (Pam (w5.alloc (.cells #[.int .i64 (j : Int), .int .i64 (t2 : Int), .int .i64 s2, .slice (some ⟨g5, 0, none⟩) j cp5] 59)) G11 (i : Int) (tq : Int) sq (.slice po i pcap)) := PM5.out.below (below_one _ _)
            have LM6 : Hid (Pam (w5.alloc (.cells #[.int .i64 (j : Int), .int .i64 (t2 : Int), .int .i64 s2, .slice (some ⟨g5, 0, none⟩) j cp5] 59)) w5.heap.size (j : Int) (t2 : Int) s2 (.slice (some ⟨g5, 0, none⟩) j cp5)) := Pam.new _ _ _ _ _ _ _ _
            have OV6 : Hid ((w5.alloc (.cells #[.int .i64 (j : Int), .int .i64 (t2 : Int), .int .i64 s2, .slice (some ⟨g5, 0, none⟩) j cp5] 59)).ownsRow w1.heap.size 3 1 (.slice (some ⟨g5, 0, none⟩) j cp5) j (ils (wy (Tr.ex (U q) i x)) j)) := own_below OV5.out (below_one _ _)
            obtain ⟨G13, hG⟩ : ∃ G, G = w5.heap.size := ⟨_, rfl⟩
            rw [← hG] at hap13 hG13 LM6
            rw [← hG]
            clear i1 TL5 PM5 OV5 PM HTol e0 e1 e2 c0 c1 c2 c3 hG
            generalize w5.alloc (.cells #[.int .i64 (j : Int), .int .i64 (t2 : Int), .int .i64 s2, .slice (some ⟨g5, 0, none⟩) j cp5] 59) = W6 at *
            go_wp2
            go_loopw [14, 15, 34] (fun _ _ c wr3 => ∃ k : Nat, c = .int .i64 (k : Int) ∧ k ≤ n' ∧ Hid ((∀ l, l < k → T' l ≠ t2) ∧ Below W6.heap.size W6 wr3)) (fun _ _ c _ => n' - (intOf c).toNat)
            case atStart => exact ⟨0, rfl, by omega, fun l hl => by omega, Below.refl _ _⟩
            case round =>
              obtain ⟨k, rfl, hk, hrel⟩ := hrel
              have TL7 : Hid (Tol w1 wr M a b i xs T U (.slice (some ⟨g, 0, none⟩) n' cp) n' (prq ch q x) T' S' U' P') := TL6.out.call hrel.out.2
              have PM7 : Hid (Pam wr G11 (i : Int) (tq : Int) sq (.slice po i pcap)) := PM6.out.below hrel.out.2
              have LM7 : Hid (Pam wr G13 (j : Int) (t2 : Int) s2 (.slice (some ⟨g5, 0, none⟩) j cp5)) := LM6.out.below hrel.out.2
              have OV7 : Hid (wr.ownsRow w1.heap.size 3 1 (.slice (some ⟨g5, 0, none⟩) j cp5) j (ils (wy (Tr.ex (U q) i x)) j)) := own_below OV6.out hrel.out.2
              by_cases h3 : k < n'
              · obtain ⟨d0, d1, d2, d3⟩ := TL7.out.1.cells h3
                rw [← HJ.out] at d0
                have HIL : Hid (Il wr (P' k) j (wy (U' k))) := by rw [HJ.out]; exact TL7.out.1.il h3
                obtain ⟨mo, mcap, hPk, _, _⟩ := HIL.out
                rw [hPk] at d3 HIL
                have BLK : Hid (Below W6.heap.size W6 wr) := hrel.out.2
                have HNO : Hid (∀ l, l < k → T' l ≠ t2) := hrel.out.1
                obtain ⟨tk, htk⟩ : ∃ y, y = T' k := ⟨_, rfl⟩
                obtain ⟨sk, hsk⟩ : ∃ y, y = S' k := ⟨_, rfl⟩
                rw [← htk] at d1
                rw [← hsk] at d2
                have HTK : Hid (tk = T' k) := htk
                have HSK : Hid (sk = S' k) := hsk
                have hbe := below_one wr (.cells #[.int .i64 (j : Int), .int .i64 (tk : Int), .int .i64 sk, .slice mo j mcap] 59)
                obtain ⟨e0, e1, e2, e3, _, _, _, _⟩ := LM7.out.below hbe
                have TL8 : Hid (Tol w1 (wr.alloc (.cells #[.int .i64 (j : Int), .int .i64 (tk : Int), .int .i64 sk, .slice mo j mcap] 59)) M a b i xs T U (.slice (some ⟨g, 0, none⟩) n' cp) n' (prq ch q x) T' S' U' P') := TL7.out.call hbe
                have PM8 : Hid (Pam (wr.alloc (.cells #[.int .i64 (j : Int), .int .i64 (tk : Int), .int .i64 sk, .slice mo j mcap] 59)) G11 (i : Int) (tq : Int) sq (.slice po i pcap)) := PM7.out.below hbe
                have OV8 : Hid ((wr.alloc (.cells #[.int .i64 (j : Int), .int .i64 (tk : Int), .int .i64 sk, .slice mo j mcap] 59)).ownsRow w1.heap.size 3 1 (.slice (some ⟨g5, 0, none⟩) j cp5) j (ils (wy (Tr.ex (U q) i x)) j)) := own_below OV7.out hbe
                have LM8 : Hid (Pam (wr.alloc (.cells #[.int .i64 (j : Int), .int .i64 (tk : Int), .int .i64 sk, .slice mo j mcap] 59)) G13 (j : Int) (t2 : Int) s2 (.slice (some ⟨g5, 0, none⟩) j cp5)) := LM7.out.below hbe
                have HIL8 : Hid (Il (wr.alloc (.cells #[.int .i64 (j : Int), .int .i64 (tk : Int), .int .i64 sk, .slice mo j mcap] 59)) (.slice mo j mcap) j (wy (U' k))) := HIL.out.below hbe
                clear hbe
                clear hrel htk hsk hPk
                by_cases h4 : tk = t2
                · subst h4
                  have h5 : ((tk : Int) == (tk : Int)) = true := by simp
                  have h6 : ((j : Int) == (j : Int)) = true := by simp
                  by_cases hB : Tr.Bt (nx M) (gg a b xs) (Tr.ex (U q) i x) (U' k) (i + 1)
                  · have i2 := beats_any (il_of_own OV8.out) HIL8.out hj2 (j : Int) (tk : Int) s2 (j : Int) (tk : Int) sk (d := true) (by rw [HSK.out, TL8.out.2.1.sc k h3, HS2.out, HJ.out]; exact ⟨fun _ => hB, fun _ => rfl⟩)
                    clear HIL8 OV7 HIL
                    go_wp2_with (first | (go_at_call 61; (with_reducible refine i2.mono ?_); rintro e w8 ⟨rfl, hb8⟩; have TL9 : Hid (Tol w1 w8 M a b i xs T U (.slice (some ⟨g, 0, none⟩) n' cp) n' (prq ch q x) T' S' U' P') := TL8.out.call hb8; have PM9 : Hid (Pam w8 G11 (i : Int) (tq : Int) sq (.slice po i pcap)) := PM8.out.below hb8; have OV9 : Hid (w8.ownsRow w1.heap.size 3 1 (.slice (some ⟨g5, 0, none⟩) j cp5) j (ils (wy (Tr.ex (U q) i x)) j)) := own_below OV8.out hb8; obtain ⟨f0, f1, f2, f3, _, _, _, _⟩ := LM8.out.below hb8; obtain ⟨d0, d1, d2, d3⟩ := TL9.out.1.cells h3; have z0 := World.ownsRow.frozenAt TL9.out.1.own (k * 4); have z1 := World.ownsRow.frozenAt TL9.out.1.own (k * 4 + 1); have z2 := World.ownsRow.frozenAt TL9.out.1.own (k * 4 + 2); have z3 := World.ownsRow.frozenAt TL9.out.1.own (k * 4 + 3); clear hb8))
                    go_step3
                    have hon : Only g w8 ((((w8.setCell ⟨g, k * 4, none⟩ (.int .i64 (j : Int))).setCell ⟨g, k * 4 + 1, none⟩ (.int .i64 (tk : Int))).setCell ⟨g, k * 4 + 2, none⟩ (.int .i64 s2)).setCell ⟨g, k * 4 + 3, none⟩ (.slice (some ⟨g5, 0, none⟩) j cp5)) := ((((Only.refl g w8).put _ _).put _ _).put _ _).put _ _
                    have hPt := TL9.out.1.put (t := tk) (s := s2) (p := .slice (some ⟨g5, 0, none⟩) j cp5) (z := Tr.ex (U q) i x) h3 (by rw [← HJ.out]; exact OV9.out)
                    rw [← HJ.out] at hPt
                    rw [HTK.out] at hPt hon
                    rw [HJ.out] at hPt
                    have hTb := tol_better TL9.out h2 h3 (HTK.out.symm.trans HT2.out) hB HS2.out hPt (Below.only TL9.out.2.2 (by rw [← HJ.out, ← HTK.out]; rw [← HTK.out] at hon; exact hon) TL9.out.lt.1)
                    rw [← HJ.out, ← HTK.out] at hTb
                    rw [← HTK.out] at hon
                    exact ⟨rfl, g, cp, n', _, _, _, _, _, _, _, _, _, _, _, _, _, _, _, _, _, _, _, _, _, _, _, _, _, _, _, _, _, _, _, _, _, rfl, hap, ⟨_, _, _, _, hTb⟩, PM9.out.block (hon.block G11 (Ne.symm hap))⟩
                  · have i2 := beats_any (il_of_own OV8.out) HIL8.out hj2 (j : Int) (tk : Int) s2 (j : Int) (tk : Int) sk (d := false) (by rw [HSK.out, TL8.out.2.1.sc k h3, HS2.out, HJ.out]; exact ⟨fun h => (by cases h), fun h => absurd h hB⟩)
                    clear HIL8 OV7 HIL
                    go_wp2_with (first | (go_at_call 61; (with_reducible refine i2.mono ?_); rintro e w8 ⟨rfl, hb8⟩; have TL9 : Hid (Tol w1 w8 M a b i xs T U (.slice (some ⟨g, 0, none⟩) n' cp) n' (prq ch q x) T' S' U' P') := TL8.out.call hb8; have PM9 : Hid (Pam w8 G11 (i : Int) (tq : Int) sq (.slice po i pcap)) := PM8.out.below hb8; have OV9 : Hid (w8.ownsRow w1.heap.size 3 1 (.slice (some ⟨g5, 0, none⟩) j cp5) j (ils (wy (Tr.ex (U q) i x)) j)) := own_below OV8.out hb8; obtain ⟨f0, f1, f2, f3, _, _, _, _⟩ := LM8.out.below hb8; obtain ⟨d0, d1, d2, d3⟩ := TL9.out.1.cells h3; have z0 := World.ownsRow.frozenAt TL9.out.1.own (k * 4); have z1 := World.ownsRow.frozenAt TL9.out.1.own (k * 4 + 1); have z2 := World.ownsRow.frozenAt TL9.out.1.own (k * 4 + 2); have z3 := World.ownsRow.frozenAt TL9.out.1.own (k * 4 + 3); clear hb8))
                    go_step3
                    exact ⟨rfl, g, cp, n', _, _, _, _, _, _, _, _, _, _, _, _, _, _, _, _, _, _, _, _, _, _, _, _, _, _, _, _, _, _, _, _, _, rfl, hap, ⟨_, _, _, _, tol_worse TL9.out h2 h3 (HTK.out.symm.trans HT2.out) hB⟩, PM9.out⟩
                · have h5 : ((tk : Int) == (t2 : Int)) = false := by simp only [beq_eq_false_iff_ne]; omega
                  go_wp2
                  go_roundw
                  case rel =>
                    refine ⟨k + 1, by go_num, by omega, fun l hl => ?_, bstep (w := W6) BLK.out (below_one _ _)⟩
                    by_cases e : l = k
                    · subst e; rw [← HTK.out]; exact h4
                    · exact HNO.out l (by omega)
                  case measure => simp [intOf]; omega
              · obtain rfl : n' = k := by omega
                have HNO : Hid (∀ l, l < n' → T' l ≠ t2) := hrel.out.1
                have hbe := below_one wr (.cells #[.int .i64 (j : Int), .int .i64 (t2 : Int), .int .i64 s2, .slice (some ⟨g5, 0, none⟩) j cp5] 59)
                have TL8 := TL7.out.call hbe
                have PM8 := PM7.out.below hbe
                have OV8 : (wr.alloc (.cells #[.int .i64 (j : Int), .int .i64 (t2 : Int), .int .i64 s2, .slice (some ⟨g5, 0, none⟩) j cp5] 59)).ownsRow w1.heap.size 3 1 (.slice (some ⟨g5, 0, none⟩) j cp5) j (ils (wy (Tr.ex (U q) i x)) j) := own_below OV7.out hbe
                obtain ⟨e0, e1, e2, e3, _, _, _, _⟩ := LM7.out
                clear hrel hbe
                go_wp2_with (first | (at_builtin; refine wpList_app _ rfl _ _ 60 rfl w1.heap.size 59 i0 (.agg #[.int .i64 0, .int .i64 0, .int .i64 0, .slice none 0 0]) 4 48 Try.underlying60 hi0 hz0 hz1 hz2 rfl (by decide) _ _ _ rfl TL8.1.own ⟨wr.heap.size, 0, none⟩ 1 1 [.int .i64 (j : Int), .int .i64 (t2 : Int), .int .i64 s2, .slice (some ⟨g5, 0, none⟩) j cp5] rfl rfl (four_new _ _ _ _ _ _) (by simp [Value.oneCell']) (by unfold maxLen; omega) (by omega) TL8.2.2.size (by omega) ?_))
                intro v' w9 hown' hgrow hwh
                have hsA := size_one wr (.cells #[.int .i64 (j : Int), .int .i64 (t2 : Int), .int .i64 s2, .slice (some ⟨g5, 0, none⟩) j cp5] 59)
                generalize wr.alloc (.cells #[.int .i64 (j : Int), .int .i64 (t2 : Int), .int .i64 s2, .slice (some ⟨g5, 0, none⟩) j cp5] 59) = WA at *
                have hb9' : Below w1.heap.size w1 w9 := grown_below TL8.2.2 (Nat.le_refl _) TL8.1.own hgrow
                rw [HJ.out] at hown' OV8
                have hPt := TL8.1.app OV8 hown' hgrow
                have hTn := tol_new TL8 h2 HT2.out HNO.out HS2.out hPt hb9'
                have PM9 : Hid (Pam w9 G11 (i : Int) (tq : Int) sq (.slice po i pcap)) := PM8.block (hgrow.block G11 PM8.lt (fun e => hap (by simpa [Value.ownBlock] using e.symm)))
                obtain ⟨g9, cp9, rfl⟩ : ∃ g cp, v' = .slice (some ⟨g, 0, none⟩) (n' + 1) cp := by
                  rcases hown'.2 with ⟨_, h9⟩ | ⟨g, cp, cur, h9, _⟩
                  · omega
                  · exact ⟨g, cp, h9⟩
                have hap9 : g9 ≠ G11 := by
                  have h8 := PM8.lt
                  rcases hwh with h9 | ⟨h9, _⟩
                  · have : g9 = g := by simpa [Value.ownBlock] using h9
                    omega
                  · have : g9 = WA.heap.size := by rw [hsA]; simpa [Value.ownBlock] using h9
                    omega
                have HTn : Hid (∃ T' S' U' P', Tol w1 w9 M a b i xs T U (.slice (some ⟨g9, 0, none⟩) (n' + 1) cp9) (n' + 1) (prq ch q (x + 1)) T' S' U' P') := ⟨_, _, _, _, hTn⟩
                clear hown' hgrow hwh hPt hTn TL8 PM8 OV8
                go_wp2
                go_step3
                go_wp2
                refine ‹∀ (a : Act) (w : World), Code.wp Try.prog _ _ a w → _› _ _ ?_
                go_wp2
                go_roundw
                case rel => exact ⟨x + 1, g9, cp9, n' + 1, by go_num, by omega, rfl, hap9, HTn.out, PM9.out⟩
                case measure => simp [intOf]; omega
          · rintro a' w' ⟨g2, cp2, n2, v13, v14, v15, v27, v28, v29, v30, v31, v32, v33, v34, v35, v36, v37, v38, v39, v40, v41, v42, v43, v44, v45, v46, v47, v48, v49, v50, v51, v52, v53, v54, v55, v56, rfl, hap2, hR⟩
            go_wp2
            refine ‹∀ (a : Act) (w : World), Code.wp Try.prog _ _ a w → _› _ _ ?_
            go_wp2
            go_roundw
            case rel => exact ⟨x + 1, g2, cp2, n2, by go_num, by omega, rfl, hap2, hR.out⟩
            case measure => simp [intOf]; omega
        · obtain rfl : ch = x := by omega
          have HR : Hid _ := hrel.out.1
          clear hrel
          go_wp2
          go_roundw
          case rel =>
            obtain ⟨T', S', U', P', hTol⟩ := HR.out
            refine ⟨q + 1, g, cp, n', by go_num, by omega, rfl, T', S', U', P', hTol.1, hTol.2.1.congr (fun q' b' => ?_) (fun _ => Iff.rfl), hTol.2.2⟩
            unfold prq
            omega
          case measure => simp [intOf]; omega
    · obtain rfl : n0 = q := by omega
      have HR : Hid _ := hrel.out
      clear hrel
      go_wp2
      go_ret
      obtain ⟨T', S', U', P', hTol⟩ := HR.out
      refine ⟨_, _, n', T', S', U', P', rfl, ⟨own_base hTol.1.own BL.out.size, fun k hk => own_base (hTol.1.bit k hk) BL.out.size⟩, hTol.2.1.done HL.out (fun q' b' => ?_), bstep BL.out hTol.2.2⟩
      unfold prq alw
      have := HCH.out
      omega
end Go.Proofs.Ytgkcofjhajjjgaa
