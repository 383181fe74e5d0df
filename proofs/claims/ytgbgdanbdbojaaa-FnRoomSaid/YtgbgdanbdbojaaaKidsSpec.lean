/- The model's l3Kids. -/
import Derived.Test.YtgbgdanbdbojaaaProg
import Derived.Test.YtgbgdanbdbojaaaSh0
import Derived.Test.YtgbgdanbdbojaaaSh3
import Derived.Deep.Cut
namespace Go.Proofs.Ytgbgdanbdbojaaa
open Go.RowKit

/-- What a node becomes, as the model's struct. -/
def splitV (lk lc : Value) (mid : Int) (rk rc : Value) (two : Bool) (cnt : Int) : Value := .agg #[lk, lc, .int .i64 mid, rk, rc, .bool two, .int .i64 cnt]

theorem box7 {w : World} {b : Nat} {a0 a1 a2 a3 a4 a5 a6 : Value} {t : TypeId} (h : w.heap[b]? = some (.cells #[a0, a1, a2, a3, a4, a5, a6] t (0, 0))) :
    w.cell? ⟨b, 0, none⟩ = some a0 ∧ w.cell? ⟨b, 1, none⟩ = some a1 ∧ w.cell? ⟨b, 2, none⟩ = some a2 ∧ w.cell? ⟨b, 3, none⟩ = some a3 ∧ w.cell? ⟨b, 4, none⟩ = some a4 ∧ w.cell? ⟨b, 5, none⟩ = some a5 ∧ w.cell? ⟨b, 6, none⟩ = some a6 := by
  refine ⟨?_, ?_, ?_, ?_, ?_, ?_, ?_⟩ <;> simp [World.cell?, h]

theorem TreesOwn.lower {w : World} {lo lo' : Nat} {v : Value} {K : List (Value × Value)} (h : TreesOwn w lo v K) (hl : lo' ≤ lo) : TreesOwn w lo' v K := by
  obtain ⟨h1, h2 | ⟨g, cap, cur, hv, hbb, hr⟩⟩ := h
  · exact ⟨h1, .inl h2⟩
  · exact ⟨h1, .inr ⟨g, cap, cur, hv, by omega, hr⟩⟩

/-- The kids when one has become another one or two. -/
def kidsV (K : List (Value × Value)) (i : Nat) (l r : Value × Value) (two : Bool) : List (Value × Value) := K.take i ++ [l] ++ (if two then [r] else []) ++ K.drop (i + 1)

set_option maxRecDepth 100000 in
set_option maxHeartbeats 2000000 in
theorem l3Kids_c (w : World) (v : Value) (K : List (Value × Value)) (i : Nat) (ka la : Option Addr) (kn kc ln lcp : Nat) (rk rc : Value) (mid : Int) (two : Bool) (cnt : Int)
    (hr : ∃ a n c a' n' c', rk = .slice a n c ∧ rc = .slice a' n' c')
    (hk : ∀ W, Below w.heap.size w W → KidsAt W v K) (hcap : ∃ a cap, v = .slice a K.length cap ∧ K.length ≤ cap ∧ cap ≤ maxLen) (h1 : ∀ u, u ∈ flatT K → u.oneCell' = true) (hi : i < K.length) (hn : K.length ≤ 1048576) :
    Calls Try.prog 80 #[v, .int .i64 i, splitV (.slice ka kn kc) (.slice la ln lcp) mid rk rc two cnt] w fun e w' => ∃ v', e = .returned v' ∧ TreesOwn w' w.heap.size v' (kidsV K i (.slice ka kn kc, .slice la ln lcp) (rk, rc) two) ∧ Below w.heap.size w w' := by
  obtain ⟨a, cap, rfl, hc1, hc2⟩ := hcap
  obtain ⟨ra, rn, rcc, ra', rn', rcc', rfl, rfl⟩ := hr
  unfold maxLen at hc2
  have hkw := hk w (Below.refl _ _)
  obtain ⟨a0, cap0, hv, hnl, hat⟩ := hkw
  simp only [Value.slice.injEq, true_and] at hv
  obtain ⟨rfl, rfl⟩ := hv
  rcases hat with hat | ⟨b, o, rfl, _⟩
  · rw [hat] at hi; simp at hi
  have hraw : ∀ W, Below w.heap.size w W → ∀ j u, (flatT K)[j]? = some u → W.cell? ⟨b, o + j, none⟩ = some u := fun W hb j u hj => by
    obtain ⟨a0, cap0, hv, _, hat⟩ := hk W hb
    simp only [Value.slice.injEq, true_and] at hv
    obtain ⟨rfl, rfl⟩ := hv
    rcases hat with hat | ⟨b', o', e, hat⟩
    · rw [hat] at hi; simp at hi
    · simp only [Option.some.injEq, Addr.mk.injEq, and_true] at e
      obtain ⟨rfl, rfl⟩ := e
      exact hat j u hj
  obtain ⟨W1, hW1⟩ : ∃ W1, W1 = (w.alloc (.cells #[.slice ka kn kc, .slice la ln lcp, .int .i64 mid, .slice ra rn rcc, .slice ra' rn' rcc', .bool two, .int .i64 cnt] 58)).alloc (.cells #[] 26) := ⟨_, rfl⟩
  have hs1 : W1.heap.size = w.heap.size + 2 := by rw [hW1]; simp
  have hb1 : Below w.heap.size w W1 := by rw [hW1]; exact ((Below.refl _ _).alloc (Nat.le_refl _) _).alloc (by simp) _
  have kb1 : W1.heap[w.heap.size]? = some (.cells #[.slice ka kn kc, .slice la ln lcp, .int .i64 mid, .slice ra rn rcc, .slice ra' rn' rcc', .bool two, .int .i64 cnt] 58 (0, 0)) := by rw [hW1, old_blk _ _ _ (by simp), new_blk]
  have h00 : TreesOwn W1 (w.heap.size + 1) (.slice (some ⟨w.heap.size + 1, 0, none⟩) 0 0) [] := by
    have h := World.ownsRow_made (base := w.heap.size + 1) (e := 26) (size := 2) (w.alloc (.cells #[.slice ka kn kc, .slice la ln lcp, .int .i64 mid, .slice ra rn rcc, .slice ra' rn' rcc', .bool two, .int .i64 cnt] 58)) #[] 0 (by simp) (by unfold maxLen; omega) rfl
    rw [World.size_alloc] at h
    rw [hW1]; exact h
  have h1t : ∀ u, u ∈ flatT (K.take i) → u.oneCell' = true := fun u hu => h1 u (by rw [flatT_take] at hu; exact List.mem_of_mem_take hu)
  have h1d : ∀ u, u ∈ flatT (K.drop (i + 1)) → u.oneCell' = true := fun u hu => h1 u (by rw [flatT_drop] at hu; exact List.mem_of_mem_drop hu)
  have hfr : ∀ W, Below w.heap.size w W → KidsAt W (.slice (some ⟨b, o, none⟩) i cap) (K.take i) := fun W hb => by
    have h := KidsAt.part (n := i) (hraw W hb) 0 i cap (by omega) (by omega) (by omega)
    simpa using h
  have hbk : ∀ W, Below w.heap.size w W → ∀ c', KidsAt W (.slice (some ⟨b, o + (i + 1) * 2, none⟩) (K.length - (i + 1)) c') (K.drop (i + 1)) := fun W hb c' => by
    have h := KidsAt.part (n := K.length - (i + 1)) (hraw W hb) (i + 1) K.length c' (by omega) (Nat.le_refl _) rfl
    rwa [List.take_of_length_le (by simp)] at h
  have HW1 := Lib.hid hW1
  have H1 := Lib.hid (And.intro hb1 (And.intro h00 (And.intro hs1 kb1)))
  have HF := Lib.hid (And.intro hfr h1t)
  have HBK := Lib.hid (And.intro hbk h1d)
  have hlen1 : (([] : List (Value × Value)).length + (K.take i).length) ≤ 100000000 := by simp; omega
  have HLEN := Lib.hid hlen1
  have hwr : IntKind.i64.wrap ((i : Int) + 1) = (i : Int) + 1 := IntWalk.i64_in _ (by omega)
  clear hW1 hs1 hb1 h00 hfr hbk h1t h1d hlen1 hraw hk h1 kb1 hnl
  unfold splitV
  go_enter Try.func80, Try.ntmps80
  go_upto_region 1 with (fail)
  go_upto_region 2 with (at_builtin; rw [← HW1.out]; refine wpList_append_trees rfl _ _ rfl (w.heap.size + 1) _ _ [] (K.take i) rfl H1.out.2.1 rfl (HF.out.1 _ H1.out.1) HF.out.2 HLEN.out (by have := H1.out.2.2.1; omega) ?_; intro v2 w2 hown2 hbel2 _ hsh2; obtain ⟨a2, c2, rfl⟩ := hsh2; generalize hL2 : ([] : List (Value × Value)) ++ K.take i = L2 at hown2 ⊢; have H2 := Lib.hid (And.intro hown2 (And.intro hbel2 hL2)); clear hown2 hbel2 hL2)
  have hlb2 : L2.length ≤ 1048576 := by rw [← H2.out.2.2]; simp; omega
  have HLB2 := Lib.hid hlb2
  have hs2 := H2.out.2.1.size
  have kb2 := (H2.out.2.1.block _ (by omega)).trans H1.out.2.2.2
  obtain ⟨x0, x1, x2, x3, x4, x5, x6⟩ := box7 kb2
  have hlo2 : w.heap.size + 1 ≤ w2.heap.size := by have := H1.out.2.2.1; omega
  have HLO2 := Lib.hid hlo2
  have hii : (i : Int) + 1 ≤ (K.length : Int) := by omega
  have KB2 := Lib.hid kb2
  clear hlb2 kb2 hlo2 hs2
  go_upto_region 3 with (at_builtin; refine wpList_append_trees rfl _ _ rfl (w.heap.size + 1) _ _ L2 [(.slice ka kn kc, .slice la ln lcp)] rfl (World.ownsRow.alloc H2.out.1 _) rfl (KidsAt.one w2 _ _) (fun u hu => by simp [flatT] at hu; rcases hu with rfl | rfl <;> rfl) (by have := HLB2.out; simp; omega) (by have := HLO2.out; simp; omega) ?_; intro v3 w3 hown3 hbel3 _ hsh3; obtain ⟨a3, c3, rfl⟩ := hsh3; generalize hL3 : L2 ++ [(Value.slice ka kn kc, Value.slice la ln lcp)] = L3 at hown3 ⊢; have kb3 := (hbel3.block w.heap.size (by omega)).trans ((old_blk w2 (.cells #[.slice ka kn kc, .slice la ln lcp] 26) _ (by have := HLO2.out; omega)).trans KB2.out); have H3 := Lib.hid (And.intro hown3 (And.intro (H2.out.2.1.trans (((Below.refl w2.heap.size w2).alloc (Nat.le_refl _) _).mono HLO2.out |>.trans hbel3)) (And.intro hL3 kb3))); clear hown3 hbel3 hL3 kb3)
  have hs1 := H1.out.2.2.1
  have hs3 := H3.out.2.1.size
  have hlb3 : L3.length ≤ 1048577 := by rw [← H3.out.2.2.1]; have := HLB2.out; simp; omega
  have HLB3 := Lib.hid hlb3
  clear hlb3 x0 x1 x2 x3 x4 x5 x6
  obtain ⟨x0, x1, x2, x3, x4, x5, x6⟩ := box7 H3.out.2.2.2
  have hlo3 : w.heap.size + 1 ≤ w3.heap.size := by omega
  have HLO3 := Lib.hid hlo3
  have HE3 := Lib.hid (show TreesOwn w3 (w.heap.size + 1) (.slice a3 L3.length c3) L3 ∧ Below (w.heap.size + 1) W1 w3 from ⟨H3.out.1, H3.out.2.1⟩)
  clear hlo3
  cases two with
  | false =>
    go_upto_region 5 with (fail)
    by_cases hci : cap = i + 1
    · have hd : K.drop (i + 1) = [] := List.drop_eq_nil_of_le (by omega)
      have HD := Lib.hid hd
      clear hd
      subst hci
      go_wp2_with (at_builtin; refine wpList_append_trees rfl _ _ rfl (w.heap.size + 1) _ _ L3 [] rfl HE3.out.1 rfl (KidsAt.none' _ _ (fun _ => rfl)) (fun u hu => by simp [flatT] at hu) (by have := HLB3.out; simp; omega) (by have := HE3.out.2.size; have := H1.out.2.2.1; omega) ?_; intro v6 w6 hown6 hbel6 _ hsh6; obtain ⟨a6, c6, rfl⟩ := hsh6; generalize hL6 : L3 ++ ([] : List (Value × Value)) = L6 at hown6 ⊢; have H6 := Lib.hid (And.intro hown6 (And.intro hbel6 hL6)); clear hown6 hbel6 hL6)
      go_ret
      refine ⟨_, rfl, ?_, ?_⟩
      · have e : L6 = kidsV K i (.slice ka kn kc, .slice la ln lcp) (.slice ra rn rcc, .slice ra' rn' rcc') false := by
          rw [← H6.out.2.2]; unfold kidsV; rw [HD.out]; rw [← H3.out.2.2.1, ← H2.out.2.2]; simp
        rw [← e]
        exact TreesOwn.lower H6.out.1 (by omega)
      · exact H1.out.1.trans (((HE3.out.2).trans H6.out.2.1).mono (by omega))
    · go_wp2_with (at_builtin; refine wpList_append_trees rfl _ _ rfl (w.heap.size + 1) _ _ L3 (K.drop (i + 1)) rfl HE3.out.1 rfl (HBK.out.1 _ (H1.out.1.trans ((HE3.out.2).mono (by omega))) _) HBK.out.2 (by have := HLB3.out; simp; omega) (by have := HE3.out.2.size; have := H1.out.2.2.1; omega) ?_; intro v6 w6 hown6 hbel6 _ hsh6; obtain ⟨a6, c6, rfl⟩ := hsh6; generalize hL6 : L3 ++ K.drop (i + 1) = L6 at hown6 ⊢; have H6 := Lib.hid (And.intro hown6 (And.intro hbel6 hL6)); clear hown6 hbel6 hL6)
      go_ret
      refine ⟨_, rfl, ?_, ?_⟩
      · have e : L6 = kidsV K i (.slice ka kn kc, .slice la ln lcp) (.slice ra rn rcc, .slice ra' rn' rcc') false := by
          rw [← H6.out.2.2]; unfold kidsV; rw [← H3.out.2.2.1, ← H2.out.2.2]; simp
        rw [← e]
        exact TreesOwn.lower H6.out.1 (by omega)
      · exact H1.out.1.trans (((HE3.out.2).trans H6.out.2.1).mono (by omega))

  | true =>
    go_upto_region 5 with (at_builtin; refine wpList_append_trees rfl _ _ rfl (w.heap.size + 1) _ _ L3 [(.slice ra rn rcc, .slice ra' rn' rcc')] rfl (World.ownsRow.alloc H3.out.1 _) rfl (KidsAt.one w3 _ _) (fun u hu => by simp [flatT] at hu; rcases hu with rfl | rfl <;> rfl) (by have := HLB3.out; simp; omega) (by have := HLO3.out; simp; omega) ?_; intro v4 w4 hown4 hbel4 _ hsh4; obtain ⟨a4, c4, rfl⟩ := hsh4; generalize hL4 : L3 ++ [(Value.slice ra rn rcc, Value.slice ra' rn' rcc')] = L4 at hown4 ⊢; have H4 := Lib.hid (And.intro hown4 (H3.out.2.1.trans (((Below.refl w3.heap.size w3).alloc (Nat.le_refl _) _).mono HLO3.out |>.trans hbel4))); have HL4 := Lib.hid hL4; clear hown4 hbel4 hL4)
    have hlb4 : L4.length ≤ 1048578 := by rw [← HL4.out]; have := HLB3.out; simp; omega
    have HLB4 := Lib.hid hlb4
    clear hlb4
    by_cases hci : cap = i + 1
    · have hd : K.drop (i + 1) = [] := List.drop_eq_nil_of_le (by omega)
      have HD := Lib.hid hd
      clear hd
      subst hci
      go_wp2_with (at_builtin; refine wpList_append_trees rfl _ _ rfl (w.heap.size + 1) _ _ L4 [] rfl H4.out.1 rfl (KidsAt.none' _ _ (fun _ => rfl)) (fun u hu => by simp [flatT] at hu) (by have := HLB4.out; simp; omega) (by have := H4.out.2.size; have := H1.out.2.2.1; omega) ?_; intro v6 w6 hown6 hbel6 _ hsh6; obtain ⟨a6, c6, rfl⟩ := hsh6; generalize hL6 : L4 ++ ([] : List (Value × Value)) = L6 at hown6 ⊢; have H6 := Lib.hid (And.intro hown6 (And.intro hbel6 hL6)); clear hown6 hbel6 hL6)
      go_ret
      refine ⟨_, rfl, ?_, ?_⟩
      · have e : L6 = kidsV K i (.slice ka kn kc, .slice la ln lcp) (.slice ra rn rcc, .slice ra' rn' rcc') true := by
          rw [← H6.out.2.2]; unfold kidsV; rw [HD.out]; rw [← HL4.out, ← H3.out.2.2.1, ← H2.out.2.2]; simp
        rw [← e]
        exact TreesOwn.lower H6.out.1 (by omega)
      · exact H1.out.1.trans (((H4.out.2).trans H6.out.2.1).mono (by omega))
    · go_wp2_with (at_builtin; refine wpList_append_trees rfl _ _ rfl (w.heap.size + 1) _ _ L4 (K.drop (i + 1)) rfl H4.out.1 rfl (HBK.out.1 _ (H1.out.1.trans ((H4.out.2).mono (by omega))) _) HBK.out.2 (by have := HLB4.out; simp; omega) (by have := H4.out.2.size; have := H1.out.2.2.1; omega) ?_; intro v6 w6 hown6 hbel6 _ hsh6; obtain ⟨a6, c6, rfl⟩ := hsh6; generalize hL6 : L4 ++ K.drop (i + 1) = L6 at hown6 ⊢; have H6 := Lib.hid (And.intro hown6 (And.intro hbel6 hL6)); clear hown6 hbel6 hL6)
      go_ret
      refine ⟨_, rfl, ?_, ?_⟩
      · have e : L6 = kidsV K i (.slice ka kn kc, .slice la ln lcp) (.slice ra rn rcc, .slice ra' rn' rcc') true := by
          rw [← H6.out.2.2]; unfold kidsV; rw [← HL4.out, ← H3.out.2.2.1, ← H2.out.2.2]; simp
        rw [← e]
        exact TreesOwn.lower H6.out.1 (by omega)
      · exact H1.out.1.trans (((H4.out.2).trans H6.out.2.1).mono (by omega))
end Go.Proofs.Ytgbgdanbdbojaaa
