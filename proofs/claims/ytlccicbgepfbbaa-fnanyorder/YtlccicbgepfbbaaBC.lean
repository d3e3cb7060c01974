/- A balance made; a group moved. -/
import Derived.Test.YtlccicbgepfbbaaBB
import Derived.Deep.QuietTactic
namespace Go.Proofs.Ytlccicbgepfbbaa
open Go.RowKit

theorem apart_app {w : World} {B s n : Nat} {e : TypeId} {t o v' : Value} {xs : List Value} (ht : w.ownsRow B e s t n xs) (ha : Apart t o) (hu : v'.ownBlock = o.ownBlock ∨ v'.ownBlock = some w.heap.size) : Apart t v' := by
  rcases hu with hu | hu
  · unfold Apart at *
    rw [hu]
    exact ha
  · refine .inr (fun e => ?_)
    rw [hu] at e
    have := World.ownsRow.lt ht _ e
    omega

/-- An append, and where the row lies behind it. -/
theorem wpList_app {P : Program} (w : World) {ops : Array Oper} {rest : List Oper} {o : Oper} {a : Act} {Q : Exit → Act → World → Prop} (hgd : o.guard = none) (s x : Operand) (t : TypeId)
    (ho : o.op = .call { callee := .builtin .append, args := #[s, x], argTypes := #[t, t] })
    (base : Nat) (e : TypeId) (i : TypeInfo) (z : Value) (size bytes : Nat) (ht : P.underlying t = some (.slice e)) (hi : P.info? e = some i) (hz : i.zero = some z)
    (hsize : i.size = size) (hby : i.bytes = bytes) (hzs : z.cells.size = size) (hsz : 0 < size)
    (v : Value) (n : Nat) (xs : List Value) (hs : a.eval s = v) (hown : w.ownsRow base e size v n xs)
    (ad : Addr) (m c : Nat) (news : List Value) (hx : a.eval x = .slice (some ad) m c) (hl : news.length = m * size) (hnews : ∀ j u, news[j]? = some u → w.cell? (ad.add j) = some u) (h1 : ∀ u ∈ news, u.oneCell' = true)
    (h63 : n + m ≤ maxLen) (hbytes : (n + m) * bytes ≤ 140737488355328) (hbase : base ≤ w.heap.size) (hm : 0 < m)
    (h : ∀ v' w', w'.ownsRow base e size v' (n + m) (xs ++ news) → w.grownBy w' v.ownBlock → (v'.ownBlock = v.ownBlock ∨ (v'.ownBlock = some w.heap.size ∧ Below w.heap.size w w')) → wpList P ops Q rest (a.put o.dst v') w') : wpList P ops Q (o :: rest) a w :=
  wpList_plain hgd fun _ hK => wp_app w s x t ho base e i z size bytes ht hi hz hsize hby hzs hsz v n xs hs hown ad m c news hx hl hnews h1 h63 hbytes hbase hm fun v' w' h2 h3 h4 => hK _ _ (h v' w' h2 h3 h4)

/-- A row apart from the one that grew is as it was. -/
theorem own_grown {w w' : World} {B s n : Nat} {e : TypeId} {t o : Value} {xs : List Value} (h : w.ownsRow B e s t n xs) (hg : w.grownBy w' o.ownBlock) (ha : Apart t o) : w'.ownsRow B e s t n xs := by
  refine ⟨h.1, ?_⟩
  rcases h.2 with h' | ⟨g', cap', cur, h', hb', hg', rest⟩
  · exact .inl h'
  · refine .inr ⟨g', cap', cur, h', hb', (hg.block g' (Array.getElem?_eq_some_iff.1 hg').1 (fun e => ?_)).trans hg', rest⟩
    subst h'
    rcases ha with ha | ha
    · cases ha
    · exact ha e

theorem rg_grown {w w' : World} {B G s n : Nat} {e : TypeId} {v x y : Value} {xs : List Value} (h : Rg w G x y) (hg : w.grownBy w' v.ownBlock) (ho : w.ownsRow B e s v n xs) (hB : G < B) : Rg w' G x y :=
  h.block (hg.block G h.lt (fun e => by have := (World.ownsRow.lt ho G e.symm).1; omega))

theorem one_set (w : World) (G j : Nat) (u v : Value) (t : TypeId) : ∀ j' u', [v][j']? = some u' → ((w.setCell ⟨G, j, none⟩ u).alloc (.cells #[v] t)).cell? ((⟨w.heap.size, 0, none⟩ : Addr).add j') = some u' := by
  have h := one_new (w.setCell ⟨G, j, none⟩ u) v t
  rw [show (w.setCell ⟨G, j, none⟩ u).heap.size = w.heap.size by simp [World.setCell]] at h
  exact h

theorem own_set {w : World} {B G s n j : Nat} {e : TypeId} {v u : Value} {xs : List Value} (h : w.ownsRow B e s v n xs) (hB : G < B) : (w.setCell ⟨G, j, none⟩ u).ownsRow B e s v n xs :=
  own_kd h ((Kd.refl (fun g => g = G) w).put (.inl rfl) j u) fun g hg e => by have := (World.ownsRow.lt h g hg).1; omega

set_option maxRecDepth 20000 in
set_option maxHeartbeats 8000000 in
theorem newB_any (w : World) (n : Nat) (hn : n ≤ 20) (h0 : 1 ≤ n) :
    Calls Try.prog 41 #[.int .i64 (n : Int)] w fun e w' => ∃ P Q cf cg, e = .returned (.pointer (some ⟨w.heap.size, 0, none⟩)) ∧ Blc w' (w.heap.size + 1) w.heap.size P Q n cf cg (fun _ => ((1 : Nat) : Int)) (fun i => (i : Int)) ∧ Below w.heap.size w w' := by
  obtain ⟨i0, hi, hz0, hz1, hz2⟩ := info_parts Try.info3
  have R0 : Hid (Rg (w.alloc (.cells #[.slice none 0 0, .slice none 0 0] 64)) w.heap.size (.slice none 0 0) (.slice none 0 0)) := Rg.new w _ _ _
  have B0 : Hid (Below w.heap.size w (w.alloc (.cells #[.slice none 0 0, .slice none 0 0] 64))) := below_one _ _
  have S0 : Hid ((w.alloc (.cells #[.slice none 0 0, .slice none 0 0] 64)).heap.size = w.heap.size + 1) := by show _ = _; simp
  go_enter Try.func41, Try.ntmps41
  go_wp2
  generalize w.alloc (.cells #[.slice none 0 0, .slice none 0 0] 64) = W0 at *
  obtain ⟨G, hG⟩ : ∃ G, G = w.heap.size := ⟨_, rfl⟩
  rw [← hG] at R0 S0 ⊢
  have HG : Hid (G = w.heap.size) := hG
  clear hG
  go_loopw [4, 8] (fun _ i wr => ∃ k : Nat, i = .int .i64 k ∧ k ≤ n ∧ Hid (∃ fv gv, Rg wr G fv gv ∧ wr.ownsRow (G + 1) 3 1 fv k (ils (fun _ => ((1 : Nat) : Int)) k) ∧ wr.ownsRow (G + 1) 3 1 gv k (ils (fun i => (i : Int)) k) ∧ Apart fv gv ∧ Below w.heap.size w wr)) (fun _ i _ => n - (intOf i).toNat)
  case atStart => exact ⟨0, rfl, by omega, _, _, R0.out, ⟨rfl, .inl ⟨rfl, rfl⟩⟩, ⟨rfl, .inl ⟨rfl, rfl⟩⟩, .inl rfl, B0.out⟩
  case round =>
    obtain ⟨k, rfl, hk, hrel⟩ := hrel
    obtain ⟨fv, gv, hrg, hof, hog, hap, hbl⟩ := hrel.out
    obtain ⟨fo, fc, rfl, hfg⟩ := own_open hof
    obtain ⟨go, gc, rfl, hgg⟩ := own_open hog
    have HBS : Hid (G + 1 ≤ wr.heap.size) := hrg.lt
    by_cases h1 : k < n
    · have c0 := hrg.c0
      have c1 := hrg.c1
      have z0 := hrg.z0
      have z1 := hrg.z1
      have HRG : Hid (Rg wr G (.slice fo k fc) (.slice go k gc)) := hrg
      have HOG : Hid (wr.ownsRow (G + 1) 3 1 (.slice go k gc) k (ils (fun i => (i : Int)) k)) := hog
      have HAP : Hid (Apart (.slice fo k fc) (.slice go k gc)) := hap
      have HBL : Hid (Below w.heap.size w wr) := hbl
      have hb3 := below_one wr (.cells #[.int .i64 1] 3)
      have HO3 : Hid _ := own_below hof hb3
      have HG3 : Hid _ := own_below hog hb3
      have HR3 : Hid _ := hrg.block (hb3.block G hrg.lt)
      have HB3 : Hid _ := bstep hbl hb3
      have HS3 : Hid (G + 1 ≤ (wr.alloc (.cells #[.int .i64 1] 3)).heap.size) := Nat.le_trans HBS.out hb3.size
      have hk20 : k < 20 := by omega
      clear hrg hof hog hap hbl hb3 hrel hfg hgg
      go_wp2_with (first
        | (at_builtin; (fail_if_success have := M1); refine wpList_app _ rfl _ _ 27 rfl (G + 1) 3 i0 (.int .i64 0) 1 8 Try.underlying27 hi hz0 hz1 hz2 rfl (by decide) _ k _ rfl HO3.out ⟨wr.heap.size, 0, none⟩ 1 1 [.int .i64 1] rfl rfl (one_new _ _ _) (by simp [Value.oneCell']) (by unfold maxLen; omega) (by omega) HS3.out (by decide) ?_; intro v1 w1 hown hgrow hor; have M1 : Hid True := trivial; obtain ⟨fo1, fc1, rfl, _⟩ := own_open hown; have OF1 : Hid (w1.ownsRow (G + 1) 3 1 (.slice fo1 (k + 1) fc1) (k + 1) (ils (fun _ => ((1 : Nat) : Int)) k ++ [.int .i64 1])) := hown; have R1 := rg_grown HR3.out hgrow HO3.out (Nat.lt_succ_self G); have c10 := R1.c0; have c11 := R1.c1; have z10 := R1.z0; have z11 := R1.z1; have R1h : Hid _ := R1; have AP1 : Hid (Apart (.slice go k gc) (.slice fo1 (k + 1) fc1)) := apart_app HG3.out (apart_symm HAP.out) (hor.imp id fun h => h.1); have OG1 : Hid (w1.ownsRow (G + 1) 3 1 (.slice go k gc) k (ils (fun i => (i : Int)) k)) := own_grown HG3.out hgrow (apart_symm HAP.out); have B1 : Hid (Below w.heap.size w w1) := grown_below HB3.out (by have := HG.out; have := HS3.out; omega) (own_base HO3.out (by have := HG.out; omega)) hgrow; have S1 : Hid (G + 1 ≤ w1.heap.size) := Nat.le_trans HS3.out hgrow.size; clear hown hgrow hor R1)
        | (at_builtin; have Z := M1; refine wpList_app _ rfl _ _ 27 rfl (G + 1) 3 i0 (.int .i64 0) 1 8 Try.underlying27 hi hz0 hz1 hz2 rfl (by decide) _ k _ rfl (own_below (own_set (u := .slice fo1 (k + 1) fc1) (j := 0) OG1.out (Nat.lt_succ_self G)) (below_one _ (.cells #[.int .i64 (k : Int)] 3))) ⟨w1.heap.size, 0, none⟩ 1 1 [.int .i64 (k : Int)] rfl rfl (one_set _ _ _ _ _ _) (by simp [Value.oneCell']) (by unfold maxLen; omega) (by omega) (by have := S1.out; simp <;> omega) (by decide) ?_; intro v2 w2 hown hgrow hor; obtain ⟨go2, gc2, rfl, _⟩ := own_open hown; have OG2 : Hid (w2.ownsRow (G + 1) 3 1 (.slice go2 (k + 1) gc2) (k + 1) (ils (fun i => (i : Int)) (k + 1))) := (by rw [ils_snoc]; exact hown); have X1 := own_below (own_set (u := .slice fo1 (k + 1) fc1) (j := 0) OF1.out (Nat.lt_succ_self G)) (below_one _ (.cells #[.int .i64 (k : Int)] 3)); have Y1 := own_below (own_set (u := .slice fo1 (k + 1) fc1) (j := 0) OG1.out (Nat.lt_succ_self G)) (below_one _ (.cells #[.int .i64 (k : Int)] 3)); have OF2 : Hid (w2.ownsRow (G + 1) 3 1 (.slice fo1 (k + 1) fc1) (k + 1) (ils (fun _ => ((1 : Nat) : Int)) (k + 1))) := (by rw [ils_snoc]; exact own_grown X1 hgrow (apart_symm AP1.out)); have AP2 : Hid (Apart (.slice fo1 (k + 1) fc1) (.slice go2 (k + 1) gc2)) := apart_app X1 (apart_symm AP1.out) (hor.imp id fun h => h.1); have R2a : Rg ((w1.setCell ⟨G, 0, none⟩ (.slice fo1 (k + 1) fc1)).alloc (.cells #[.int .i64 (k : Int)] 3)) G (.slice fo1 (k + 1) fc1) (.slice go k gc) := (R1h.out.put0 _).block ((below_one _ _).block G (R1h.out.put0 _).lt); have R2 := rg_grown R2a hgrow Y1 (Nat.lt_succ_self G); have c20 := R2.c0; have c21 := R2.c1; have z20 := R2.z0; have z21 := R2.z1; have R2h : Hid _ := R2; have B2 : Hid (Below w.heap.size w w2) := grown_below (bstep (Kd.below B1.out ((Kd.refl (fun g => g = G) w1).put (.inl rfl) 0 (.slice fo1 (k + 1) fc1)) (by have := S1.out; have := HG.out; omega) (by rintro g rfl; have := HG.out; omega)) (below_one _ (.cells #[.int .i64 (k : Int)] 3))) (by have := S1.out; have := HG.out; simp <;> omega) (own_base Y1 (by have := HG.out; omega)) hgrow; clear hown hgrow hor X1 Y1 R2a R2))
      go_roundw
      case rel =>
        refine ⟨k + 1, by go_num, by omega, _, _, R2h.out.put1 _, own_set OF2.out (Nat.lt_succ_self G), own_set OG2.out (Nat.lt_succ_self G), AP2.out, Kd.below B2.out ((Kd.refl (fun g => g = G) w2).put (.inl rfl) 1 (.slice go2 (k + 1) gc2)) (by have := B2.out.size; omega) (by rintro g rfl; have := HG.out; omega)⟩
      case measure => simp [intOf]; omega
    · obtain rfl : k = n := by omega
      obtain ⟨P, rfl⟩ := hfg (by omega)
      obtain ⟨Q, rfl⟩ := hgg (by omega)
      have HR : Hid (Blc wr (G + 1) G P Q k fc gc (fun _ => ((1 : Nat) : Int)) (fun i => (i : Int))) := ⟨hrg, hof, hog, (by intro e; subst e; rcases hap with h | h; exact absurd h (by simp [Value.ownBlock]); exact h rfl), Nat.lt_succ_self G⟩
      have HBL : Hid (Below w.heap.size w wr) := hbl
      clear hrg hof hog hap hbl hrel
      go_wp2
      go_ret
      have e := HG.out
      clear HG
      subst e
      exact ⟨_, _, _, _, rfl, HR.out, HBL.out⟩

set_option maxHeartbeats 8000000 in
theorem move_any {w : World} {B G P Q n cf cg : Nat} {f g : Nat → Int} (gr to x : Int) (h : Blc w B G P Q n cf cg f g) (hn : n ≤ 20) (hf : ∀ b, b < n → 0 ≤ f b ∧ f b ≤ 1000000000) (hx : 0 ≤ x ∧ x ≤ 1000000) :
    Calls Try.prog 68 #[.pointer (some ⟨G, 0, none⟩), .int .i64 gr, .int .i64 to, .int .i64 x] w fun e w' => e = .returned (.tuple #[]) ∧ Blc w' B G P Q n cf cg (fun b => if g b = gr then f b * x else f b) (fun b => if g b = gr then to else g b) ∧ Kd (fun q => q = P ∨ q = Q) w w' := by
  have HH : Hid (Blc w B G P Q n cf cg f g) := h
  have HF : Hid (∀ b, b < n → 0 ≤ f b ∧ f b ≤ 1000000000) := hf
  have c1 := h.rg.c1
  clear h hf
  go_enter Try.func68, Try.ntmps68
  go_wp2
  clear c1
  go_loopw [8, 9, 15] (fun _ _ i wr => ∃ k : Nat, i = .int .i64 k ∧ k ≤ n ∧ Hid (Blc wr B G P Q n cf cg (fun b => if b < k then (if g b = gr then f b * x else f b) else f b) (fun b => if b < k then (if g b = gr then to else g b) else g b) ∧ Kd (fun q => q = P ∨ q = Q) w wr)) (fun _ _ i _ => n - (intOf i).toNat)
  case atStart => exact ⟨0, rfl, by omega, HH.out, Kd.refl _ _⟩
  case round =>
    obtain ⟨k, rfl, hk, hrel⟩ := hrel
    have HB : Hid (Blc wr B G P Q n cf cg (fun b => if b < k then (if g b = gr then f b * x else f b) else f b) (fun b => if b < k then (if g b = gr then to else g b) else g b)) := hrel.out.1
    have HK : Hid (Kd (fun q => q = P ∨ q = Q) w wr) := hrel.out.2
    clear hrel
    by_cases h1 : k < n
    · have c0 := HB.out.rg.c0
      have c1 := HB.out.rg.c1
      have a0 := World.ownsRow.cellAt HB.out.of k (by omega)
      rw [ils_get h1, if_neg (Nat.lt_irrefl k)] at a0
      have a1 := World.ownsRow.cellAt HB.out.og k (by omega)
      rw [ils_get h1, if_neg (Nat.lt_irrefl k)] at a1
      have z0 := World.ownsRow.frozenAt HB.out.of k
      have z1 := World.ownsRow.frozenAt HB.out.og k
      obtain ⟨f1, f2⟩ := HF.out k h1
      have hne := HB.out.ne
      have hne2 : ¬ Q = P := fun e => hne e.symm
      have hgp : ¬ G = P := by have := (World.ownsRow.lt HB.out.of P rfl).1; have := HB.out.lt; omega
      have hgq : ¬ G = Q := by have := (World.ownsRow.lt HB.out.og Q rfl).1; have := HB.out.lt; omega
      have hgp2 : ¬ P = G := fun e => hgp e.symm
      have hgq2 : ¬ Q = G := fun e => hgq e.symm
      by_cases h2 : g k = gr
      · obtain ⟨y, hy⟩ : ∃ y, y = f k := ⟨_, rfl⟩
        have HY : Hid (y = f k) := hy
        rw [← hy] at a0 f1 f2
        clear hy
        have H2 : Hid (g k = gr) := h2
        rw [h2] at a1
        clear h2
        have hyx : 0 ≤ y * x := Int.mul_nonneg f1 hx.1
        have hyx2 : y * x ≤ 1000000000 * 1000000 := Int.mul_le_mul f2 hx.2 hx.1 (by decide)
        have hyx3 : y * x ≤ 1000000000000000 := by simpa using hyx2
        clear hyx2
        go_wp2
        go_roundw
        case rel =>
          have k1 : Kd (fun q => q = P ∨ q = Q) wr ((wr.setCell ⟨Q, k, none⟩ (.int .i64 to)).setCell ⟨P, k, none⟩ (.int .i64 (y * x))) := ((Kd.refl (fun q => q = P ∨ q = Q) wr).put (.inl (.inr rfl)) k (.int .i64 to)).put (.inl (.inl rfl)) k (.int .i64 (y * x))
          have s1 := (World.ownsRow.stored (own_kd HB.out.of ((Kd.refl (fun q => q = Q) wr).put (.inl rfl) k (.int .i64 to)) (by intro g hg e; injection hg with e2; subst e2; exact hne e)) k (.int .i64 (y * x))).1
          have s2 := own_kd (World.ownsRow.stored HB.out.og k (.int .i64 to)).1 ((Kd.refl (fun q => q = P) _).put (.inl rfl) k (.int .i64 (y * x))) (by intro g hg e; injection hg with e2; subst e2; exact hne2 e)
          rw [ils_put] at s1 s2
          refine ⟨k + 1, by go_num, by omega, ⟨HB.out.rg.block (k1.block G HB.out.rg.lt (by rintro (e | e); exact hgp e; exact hgq e)), ?_, ?_, hne, HB.out.lt⟩, HK.out.trans k1⟩
          · rw [ils_congr fun i hi => ?_]
            · exact s1
            · by_cases e : i = k
              · subst e; rw [if_pos (by omega), if_pos H2.out, if_pos rfl, HY.out]
              · rw [if_neg e]
                by_cases h3 : i < k
                · rw [if_pos h3, if_pos (by omega)]
                · rw [if_neg h3, if_neg (by omega)]
          · rw [ils_congr fun i hi => ?_]
            · exact s2
            · by_cases e : i = k
              · subst e; rw [if_pos (by omega), if_pos H2.out, if_pos rfl]
              · rw [if_neg e]
                by_cases h3 : i < k
                · rw [if_pos h3, if_pos (by omega)]
                · rw [if_neg h3, if_neg (by omega)]
        case measure => simp [intOf]; omega
      · have H2 : Hid (¬ g k = gr) := h2
        go_wp2
        go_roundw
        case rel =>
          refine ⟨k + 1, by go_num, by omega, ⟨HB.out.rg, ?_, ?_, hne, HB.out.lt⟩, HK.out⟩
          · rw [ils_congr fun i hi => ?_]
            · exact HB.out.of
            · by_cases e : i = k
              · subst e; rw [if_pos (by omega), if_neg H2.out, if_neg (by omega)]
              · by_cases h3 : i < k
                · rw [if_pos h3, if_pos (by omega)]
                · rw [if_neg h3, if_neg (by omega)]
          · rw [ils_congr fun i hi => ?_]
            · exact HB.out.og
            · by_cases e : i = k
              · subst e; rw [if_pos (by omega), if_neg H2.out, if_neg (by omega)]
              · by_cases h3 : i < k
                · rw [if_pos h3, if_pos (by omega)]
                · rw [if_neg h3, if_neg (by omega)]
        case measure => simp [intOf]; omega
    · obtain rfl : k = n := by omega
      go_wp2
      go_end0
      refine ⟨rfl, ⟨HB.out.rg, ?_, ?_, HB.out.ne, HB.out.lt⟩, HK.out⟩
      · rw [ils_congr fun i hi => ?_]
        · exact HB.out.of
        · rw [if_pos hi]
      · rw [ils_congr fun i hi => ?_]
        · exact HB.out.og
        · rw [if_pos hi]
end Go.Proofs.Ytlccicbgepfbbaa
