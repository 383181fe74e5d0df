/- The contract of the model's l1Leaf. -/
import Derived.Test.YtepkigcbjepbpaaProg
import Derived.Test.YtepkigcbjepbpaaSh0
import Derived.Test.YtepkigcbjepbpaaSh4
import Derived.Test.YtepkigcbjepbpaaSh6
import Derived.Test.YtepkigcbjepbpaaHeld
import Derived.Test.YtepkigcbjepbpaaOpenTwo
import Derived.Test.YtepkigcbjepbpaaSh12
import Derived.Test.YtepkigcbjepbpaaSh18
import Derived.Test.YtepkigcbjepbpaaSh19
import Derived.Test.YtepkigcbjepbpaaL4Right
import Derived.Test.YtepkigcbjepbpaaSh20
import Derived.Test.YtepkigcbjepbpaaSh1
import Derived.Test.YtepkigcbjepbpaaSh2
import Derived.Test.YtepkigcbjepbpaaSh14
import Derived.Test.YtepkigcbjepbpaaSh3

/- What the model's l4Repair asks of its parts: boxes, the two kids at a place, trees that are read. -/
namespace Go.Proofs.Ytepkigcbjepbpaa
open Go.RowKit

theorem Td.tree {w : World} {F : Cells} {kv cv : Value} {t : Tr} (h : Td w F kv cv t) : TreeIn w w.heap.size kv cv t := by
  induction h with
  | mk ks kids F Fk Fc kv cv hkr hc hkids sk sc ss ap lt ih =>
    obtain ⟨_, a, cap, rfl, h1, h2, h3, h4⟩ := hc
    rw [List.length_map] at h1 ⊢
    have e1 : kids.length = (kids.map KidT.t).length := by simp
    rw [e1] at h1 ⊢
    refine .mk ks (kids.map KidT.t) _ a cap (fun i => ((kids.map KidT.pair).getD i (undef, undef)).1) (fun i => ((kids.map KidT.pair).getD i (undef, undef)).2) (rowF_in hkr) h1 h2 ?_ (fun i hi => ?_)
    · rcases h4 with h4 | ⟨b, o, rfl, g1, g2⟩
      · left; omega
      · by_cases h0 : kids.length = 0
        · left; simpa using h0
        · refine .inr ⟨b, o, rfl, lt_of_there (o := o + 0) (g1 0 (by rw [← e1] at h1; omega)).2.1, fun i hi => ?_⟩
          rw [List.length_map] at hi
          have := g2 i (by simpa using hi)
          simpa [hi] using this
    · rw [List.length_map] at hi
      have := ih kids[i] (List.getElem_mem hi)
      simpa [hi, KidT.pair] using this

theorem box3 {w : World} {b : Nat} {x y z : Value} {t : TypeId} (h : w.heap[b]? = some (.cells #[x, y, z] t (0, 0))) :
    w.cell? ⟨b, 0, none⟩ = some x ∧ w.cell? ⟨b, 1, none⟩ = some y ∧ w.cell? ⟨b, 2, none⟩ = some z ∧ w.frozen? ⟨b, 0, none⟩ = false ∧ w.frozen? ⟨b, 1, none⟩ = false ∧ w.frozen? ⟨b, 2, none⟩ = false := by
  refine ⟨?_, ?_, ?_, ?_, ?_, ?_⟩ <;> simp [World.cell?, World.frozen?, h]
theorem two_blk {w : World} {b : Nat} {o0 o1 : Value} {t : TypeId} (h : w.heap[b]? = some (.cells #[o0, o1] t (0, 0))) (v0 v1 : Value) :
    ((w.setCell ⟨b, 0, none⟩ v0).setCell ⟨b, 1, none⟩ v1).heap[b]? = some (.cells #[v0, v1] t (0, 0)) := by
  have := set_blk (o := 1) v1 (set_blk (o := 0) v0 h)
  rw [this]; simp
theorem three_blk {w : World} {b : Nat} {o0 o1 o2 : Value} {t : TypeId} (h : w.heap[b]? = some (.cells #[o0, o1, o2] t (0, 0))) (v0 v1 v2 : Value) :
    (((w.setCell ⟨b, 0, none⟩ v0).setCell ⟨b, 1, none⟩ v1).setCell ⟨b, 2, none⟩ v2).heap[b]? = some (.cells #[v0, v1, v2] t (0, 0)) := by
  have := set_blk (o := 2) v2 (set_blk (o := 1) v1 (set_blk (o := 0) v0 h))
  rw [this]; simp

structure Four (W : World) (n : Nat) (kv cv : Value) (b j : Int) (sh : Bool) : Prop where
  node : W.heap[n]? = some (.cells #[kv, cv] 29 (0, 0))
  rep : W.heap[n + 1]? = some (.cells #[.int .i64 b, .int .i64 j, .bool sh] 47 (0, 0))
  out : W.heap[n + 2]? = some (.cells #[.slice none 0 0, .slice none 0 0] 29 (0, 0))
  outr : W.heap[n + 3]? = some (.cells #[.int .i64 0, .int .i64 0, .bool false] 47 (0, 0))

theorem Four.keep {W W' : World} {n : Nat} {kv cv : Value} {b j : Int} {sh : Bool} {G : Cells} (h : Four W n kv cv b j sh) (hk : KeptF G W W') (hG : ∀ q o, G q o → q < n ∨ n + 4 ≤ q) : Four W' n kv cv b j sh :=
  ⟨hk.block' h.node (fun o e => by have := hG _ o e; omega), hk.block' h.rep (fun o e => by have := hG _ o e; omega), hk.block' h.out (fun o e => by have := hG _ o e; omega), hk.block' h.outr (fun o e => by have := hG _ o e; omega)⟩

theorem Four.made (w : World) (kv cv : Value) (b j : Int) (sh : Bool) : Four ((((w.alloc (.cells #[kv, cv] 29)).alloc (.cells #[.int .i64 b, .int .i64 j, .bool sh] 47)).alloc (.cells #[.slice none 0 0, .slice none 0 0] 29)).alloc (.cells #[.int .i64 0, .int .i64 0, .bool false] 47)) w.heap.size kv cv b j sh := by
  refine ⟨?_, ?_, ?_, ?_⟩
  · rw [old_blk _ _ _ (by simp <;> omega), old_blk _ _ _ (by simp <;> omega), old_blk _ _ _ (by simp), new_blk]
  · rw [old_blk _ _ _ (by simp <;> omega), old_blk _ _ _ (by simp <;> omega), show w.heap.size + 1 = (w.alloc (.cells #[kv, cv] 29)).heap.size by simp, new_blk]
  · rw [old_blk _ _ _ (by simp <;> omega), show w.heap.size + 2 = ((w.alloc (.cells #[kv, cv] 29)).alloc (.cells #[.int .i64 b, .int .i64 j, .bool sh] 47)).heap.size by simp, new_blk]
  · rw [show w.heap.size + 3 = (((w.alloc (.cells #[kv, cv] 29)).alloc (.cells #[.int .i64 b, .int .i64 j, .bool sh] 47)).alloc (.cells #[.slice none 0 0, .slice none 0 0] 29)).heap.size by simp, new_blk]

structure Ends (W W' : World) (n : Nat) (kv cv : Value) (b j : Int) (sh : Bool) : Prop where
  c0 : W'.cell? ⟨n + 2, 0, none⟩ = some kv
  c1 : W'.cell? ⟨n + 2, 1, none⟩ = some cv
  d0 : W'.cell? ⟨n + 3, 0, none⟩ = some (.int .i64 b)
  d1 : W'.cell? ⟨n + 3, 1, none⟩ = some (.int .i64 j)
  d2 : W'.cell? ⟨n + 3, 2, none⟩ = some (.bool sh)
  kept : KeptF (fun x _ => x = n + 2 ∨ x = n + 3) W W'

theorem ends_a {W : World} {n : Nat} {o0 o1 p0 p1 p2 : Value} {t t' : TypeId} (h1 : W.heap[n + 2]? = some (.cells #[o0, o1] t (0, 0))) (h2 : W.heap[n + 3]? = some (.cells #[p0, p1, p2] t' (0, 0))) (kv cv : Value) (b j : Int) (sh : Bool) :
    Ends W (((((W.setCell ⟨n + 2, 0, none⟩ kv).setCell ⟨n + 2, 1, none⟩ cv).setCell ⟨n + 3, 0, none⟩ (.int .i64 b)).setCell ⟨n + 3, 1, none⟩ (.int .i64 j)).setCell ⟨n + 3, 2, none⟩ (.bool sh)) n kv cv b j sh := by
  have a1 := two_blk h1 kv cv
  have a2 : ((W.setCell ⟨n + 2, 0, none⟩ kv).setCell ⟨n + 2, 1, none⟩ cv).heap[n + 3]? = some (.cells #[p0, p1, p2] t' (0, 0)) := by rw [set_other _ _ _ _ _ (by omega), set_other _ _ _ _ _ (by omega)]; exact h2
  have a3 := three_blk a2 (.int .i64 b) (.int .i64 j) (.bool sh)
  have a4 : (((((W.setCell ⟨n + 2, 0, none⟩ kv).setCell ⟨n + 2, 1, none⟩ cv).setCell ⟨n + 3, 0, none⟩ (.int .i64 b)).setCell ⟨n + 3, 1, none⟩ (.int .i64 j)).setCell ⟨n + 3, 2, none⟩ (.bool sh)).heap[n + 2]? = some (.cells #[kv, cv] t (0, 0)) := by
    rw [set_other _ _ _ _ _ (by omega), set_other _ _ _ _ _ (by omega), set_other _ _ _ _ _ (by omega)]; exact a1
  obtain ⟨x1, x2, _, _⟩ := box2 a4
  obtain ⟨y1, y2, y3, _⟩ := box3 a3
  refine ⟨x1, x2, y1, y2, y3, ?_⟩
  refine (((((KeptF.setCell _ _ _ _ (.inl rfl)).trans ((KeptF.setCell (F := fun x _ => x = n + 2 ∨ x = n + 3) _ _ _ _ (.inl rfl)).mono (fun _ _ _ h => .inl h))).trans ((KeptF.setCell (F := fun x _ => x = n + 2 ∨ x = n + 3) _ _ _ _ (.inr rfl)).mono (fun _ _ _ h => .inl h))).trans ((KeptF.setCell (F := fun x _ => x = n + 2 ∨ x = n + 3) _ _ _ _ (.inr rfl)).mono (fun _ _ _ h => .inl h))).trans ((KeptF.setCell (F := fun x _ => x = n + 2 ∨ x = n + 3) _ _ _ _ (.inr rfl)).mono (fun _ _ _ h => .inl h)))
theorem ends_b {W : World} {n : Nat} {o0 o1 p0 p1 p2 : Value} {t t' : TypeId} (h1 : W.heap[n + 2]? = some (.cells #[o0, o1] t (0, 0))) (h2 : W.heap[n + 3]? = some (.cells #[p0, p1, p2] t' (0, 0))) (kv cv : Value) (b j : Int) (sh : Bool) :
    Ends W (((((W.setCell ⟨n + 3, 0, none⟩ (.int .i64 b)).setCell ⟨n + 3, 1, none⟩ (.int .i64 j)).setCell ⟨n + 3, 2, none⟩ (.bool sh)).setCell ⟨n + 2, 0, none⟩ kv).setCell ⟨n + 2, 1, none⟩ cv) n kv cv b j sh := by
  have a1 := three_blk h2 (.int .i64 b) (.int .i64 j) (.bool sh)
  have a2 : (((W.setCell ⟨n + 3, 0, none⟩ (.int .i64 b)).setCell ⟨n + 3, 1, none⟩ (.int .i64 j)).setCell ⟨n + 3, 2, none⟩ (.bool sh)).heap[n + 2]? = some (.cells #[o0, o1] t (0, 0)) := by rw [set_other _ _ _ _ _ (by omega), set_other _ _ _ _ _ (by omega), set_other _ _ _ _ _ (by omega)]; exact h1
  have a3 := two_blk a2 kv cv
  have a4 : (((((W.setCell ⟨n + 3, 0, none⟩ (.int .i64 b)).setCell ⟨n + 3, 1, none⟩ (.int .i64 j)).setCell ⟨n + 3, 2, none⟩ (.bool sh)).setCell ⟨n + 2, 0, none⟩ kv).setCell ⟨n + 2, 1, none⟩ cv).heap[n + 3]? = some (.cells #[.int .i64 b, .int .i64 j, .bool sh] t' (0, 0)) := by
    rw [set_other _ _ _ _ _ (by omega), set_other _ _ _ _ _ (by omega)]; exact a1
  obtain ⟨x1, x2, _, _⟩ := box2 a3
  obtain ⟨y1, y2, y3, _⟩ := box3 a4
  refine ⟨x1, x2, y1, y2, y3, ?_⟩
  refine (((((KeptF.setCell _ _ _ _ (.inr rfl)).trans ((KeptF.setCell (F := fun x _ => x = n + 2 ∨ x = n + 3) _ _ _ _ (.inr rfl)).mono (fun _ _ _ h => .inl h))).trans ((KeptF.setCell (F := fun x _ => x = n + 2 ∨ x = n + 3) _ _ _ _ (.inr rfl)).mono (fun _ _ _ h => .inl h))).trans ((KeptF.setCell (F := fun x _ => x = n + 2 ∨ x = n + 3) _ _ _ _ (.inl rfl)).mono (fun _ _ _ h => .inl h))).trans ((KeptF.setCell (F := fun x _ => x = n + 2 ∨ x = n + 3) _ _ _ _ (.inl rfl)).mono (fun _ _ _ h => .inl h)))
theorem Ends.drew {W W' : World} {n : Nat} {kv cv : Value} {b j : Int} {sh : Bool} (h : Ends W W' n kv cv b j sh) : Ends W W'.drew n kv cv b j sh :=
  ⟨h.c0, h.c1, h.d0, h.d1, h.d2, h.kept.trans ((KeptF.drew _ _).mono (fun _ _ _ h => h))⟩

def Restored (w : World) (F : Cells) (D : Tr.Del) (sh : Bool) (e : Ending) (w' : World) : Prop :=
  ∃ (kv cv : Value) (F' : Cells), e = .returned (.tuple #[.agg #[kv, cv], .agg #[.int .i64 (D.b : Int), .int .i64 (D.j : Int), .bool sh]]) ∧ Td w' F' kv cv D.t ∧ (∀ x o, F' x o → F x o ∨ w.heap.size ≤ x) ∧ KeptF F w w'

structure Node4 (w : World) (F Fk Fc : Cells) (kv cv : Value) (k : List Int) (kids : List KidT) : Prop where
  hk : RowF w Fk kv (k.map (Value.int .i64))
  hc : RowT w Fc cv (kids.map KidT.pair)
  hkids : ∀ z, z ∈ kids → Td w z.F z.kv z.cv z.t
  sk : ∀ q o, Fk q o → F q o
  sc : ∀ q o, Fc q o → F q o
  ss : ∀ z, z ∈ kids → ∀ q o, z.F q o → F q o
  ap : (Fk :: Fc :: kids.map KidT.F).Pairwise Apart
  lt : ∀ q o, F q o → q < w.heap.size

theorem Node4.keep {w W : World} {F Fk Fc : Cells} {kv cv : Value} {k : List Int} {kids : List KidT} (h : Node4 w F Fk Fc kv cv k kids) (hk : KeptF (fun _ _ => False) w W) : Node4 W F Fk Fc kv cv k kids :=
  ⟨h.hk.keep hk (fun _ _ _ e => e), h.hc.keep hk (fun _ _ _ e => e), fun z hz => (h.hkids z hz).keep hk (fun _ _ _ e => e), h.sk, h.sc, h.ss, h.ap, fun q o e => Nat.lt_of_lt_of_le (h.lt q o e) hk.size⟩

theorem Wrought.of_sub {w : World} {F : Cells} {t t' : Tr} (h : t = t') : ∀ e w', Wrought w F t e w' → Wrought w F t' e w' := fun e w' hh => h ▸ hh

theorem callJoin {w : World} {F Fk Fc : Cells} {kv cv : Value} {k : List Int} {kids : List KidT} (h : Node4 w F Fk Fc kv cv k kids) (i : Nat) (hi : i + 1 < kids.length) (hkc : kids.length = k.length + 1) (hn : kids.length ≤ 100000)
    (hsz : ∀ z, z ∈ kids → z.t.ks.length ≤ 100000 ∧ z.t.cs.length ≤ 100000 ∧ Tr.Shaped z.t) : Calls Try.prog 119 #[.agg #[kv, cv], .int .i64 (i : Int)] w (Wrought w F (Tr.joined k (kids.map KidT.t) i)) := by
  obtain ⟨pre, x, y, post, hkl, hpl⟩ := two_mid hi
  subst hkl
  have zx := hsz x (by simp)
  have zy := hsz y (by simp)
  obtain ⟨CH, kidsx, kidsy, hcx, hcy, ho⟩ := openTwo_of (x := x) (y := y) (kx := x.t.ks) (ky := y.t.ks) (cx := x.t.cs) (cy := y.t.cs) (by cases x.t; rfl) (by cases y.t; rfl) h.hk h.hc h.hkids h.sk h.sc h.ss h.ap
  have lx : kidsx.length ≤ 100000 := by have := zx.2.1; rwa [hcx, List.length_map] at this
  have ly : kidsy.length ≤ 100000 := by have := zy.2.1; rwa [hcy, List.length_map] at this
  have hlen : (pre ++ x :: y :: post).length = pre.length + (2 + post.length) := by simp; omega
  have hc := l4Join_c w F CH kv cv k pre post x.kv x.cv x.t.ks kidsx y.kv y.cv y.t.ks kidsy ho (by omega) zx.1 zy.1 lx ly (by omega) (by omega)
  have he := Tr.joined_mid k (pre.map KidT.t) (post.map KidT.t) x.t y.t
  rw [hpl] at hc
  rw [List.length_map, hpl] at he
  refine hc.mono (Wrought.of_sub ?_)
  rw [show (pre ++ x :: y :: post).map KidT.t = pre.map KidT.t ++ x.t :: y.t :: post.map KidT.t by simp, he, hcx, hcy]
theorem callLeft {w : World} {F Fk Fc : Cells} {kv cv : Value} {k : List Int} {kids : List KidT} (h : Node4 w F Fk Fc kv cv k kids) (i : Nat) (hi : i + 1 < kids.length) (hkc : kids.length = k.length + 1) (hn : kids.length ≤ 100000)
    (hsz : ∀ z, z ∈ kids → z.t.ks.length ≤ 100000 ∧ z.t.cs.length ≤ 100000 ∧ Tr.Shaped z.t) (hy : 1 < (Tr.kidAt (kids.map KidT.t) (i + 1)).ks.length) :
    Calls Try.prog 118 #[.agg #[kv, cv], .int .i64 (i : Int)] w (Wrought w F (Tr.behind k (kids.map KidT.t) i)) := by
  obtain ⟨pre, x, y, post, hkl, hpl⟩ := two_mid hi
  subst hkl
  have zx := hsz x (by simp)
  have zy := hsz y (by simp)
  have em : (pre ++ x :: y :: post).map KidT.t = pre.map KidT.t ++ x.t :: y.t :: post.map KidT.t := by simp
  rw [em, show i = (pre.map KidT.t).length by rw [List.length_map, hpl], Tr.kidAt_mid1] at hy
  obtain ⟨CH, kidsx, kidsy, hcx, hcy, ho⟩ := openTwo_of (x := x) (y := y) (kx := x.t.ks) (ky := y.t.ks) (cx := x.t.cs) (cy := y.t.cs) (by cases x.t; rfl) (by cases y.t; rfl) h.hk h.hc h.hkids h.sk h.sc h.ss h.ap
  have hsh : kidsy.length ≠ 1 := by
    have h2 := zy.2.2
    have e : y.t.cs.length = kidsy.length := by rw [hcy, List.length_map]
    rcases h2 with h2 | h2 <;> omega
  have lx : kidsx.length ≤ 100000 := by have := zx.2.1; rwa [hcx, List.length_map] at this
  have ly : kidsy.length ≤ 100000 := by have := zy.2.1; rwa [hcy, List.length_map] at this
  have hlen : (pre ++ x :: y :: post).length = pre.length + (2 + post.length) := by simp; omega
  have hc := l4Left_c w F CH kv cv k pre post x.kv x.cv x.t.ks kidsx y.kv y.cv y.t.ks kidsy ho (by omega) hy hsh zx.1 zy.1 lx ly (by omega) (by omega)
  have he := Tr.behind_mid k (pre.map KidT.t) (post.map KidT.t) x.t y.t
  rw [hpl] at hc
  rw [List.length_map, hpl] at he
  refine hc.mono (Wrought.of_sub ?_)
  rw [em, he, hcx, hcy]
theorem callRight {w : World} {F Fk Fc : Cells} {kv cv : Value} {k : List Int} {kids : List KidT} (h : Node4 w F Fk Fc kv cv k kids) (i : Nat) (hi : i + 1 < kids.length) (hkc : kids.length = k.length + 1) (hn : kids.length ≤ 100000)
    (hsz : ∀ z, z ∈ kids → z.t.ks.length ≤ 100000 ∧ z.t.cs.length ≤ 100000 ∧ Tr.Shaped z.t) (hx : 0 < (Tr.kidAt (kids.map KidT.t) i).ks.length) :
    Calls Try.prog 117 #[.agg #[kv, cv], .int .i64 ((i + 1 : Nat) : Int)] w (Wrought w F (Tr.ahead k (kids.map KidT.t) i)) := by
  obtain ⟨pre, x, y, post, hkl, hpl⟩ := two_mid hi
  subst hkl
  have zx := hsz x (by simp)
  have zy := hsz y (by simp)
  have em : (pre ++ x :: y :: post).map KidT.t = pre.map KidT.t ++ x.t :: y.t :: post.map KidT.t := by simp
  rw [em, show i = (pre.map KidT.t).length by rw [List.length_map, hpl], Tr.kidAt_mid] at hx
  obtain ⟨CH, kidsx, kidsy, hcx, hcy, ho⟩ := openTwo_of (x := x) (y := y) (kx := x.t.ks) (ky := y.t.ks) (cx := x.t.cs) (cy := y.t.cs) (by cases x.t; rfl) (by cases y.t; rfl) h.hk h.hc h.hkids h.sk h.sc h.ss h.ap
  have hsh : kidsx.length = 0 ∨ kidsx.length = x.t.ks.length + 1 := by
    have h2 := zx.2.2
    have e : x.t.cs.length = kidsx.length := by rw [hcx, List.length_map]
    rcases h2 with h2 | h2
    · left; omega
    · right; omega
  have lx : kidsx.length ≤ 100000 := by have := zx.2.1; rwa [hcx, List.length_map] at this
  have ly : kidsy.length ≤ 100000 := by have := zy.2.1; rwa [hcy, List.length_map] at this
  have hlen : (pre ++ x :: y :: post).length = pre.length + (2 + post.length) := by simp; omega
  have hc := l4Right_c w F CH kv cv k pre post x.kv x.cv x.t.ks kidsx y.kv y.cv y.t.ks kidsy ho (by omega) hx hsh zx.1 zy.1 lx ly (by omega) (by omega)
  have he := Tr.ahead_mid k (pre.map KidT.t) (post.map KidT.t) x.t y.t hx
  rw [hpl] at hc
  rw [List.length_map, hpl] at he
  refine hc.mono (Wrought.of_sub ?_)
  rw [em, he, hcx, hcy]
end Go.Proofs.Ytepkigcbjepbpaa

/- A tree that is valid for some width has few keys. -/
namespace Go.Proofs.Ytepkigcbjepbpaa
open Go.RowKit

namespace Tr
theorem keys_length (k : List Int) (c : List Tr) : (Tr.mk k c).keys.length = lens (keyss c) + k.length := by
  have hk := length_keyss c
  simp only [keys, upto_length]
  rw [List.take_of_length_le (by omega), List.take_of_length_le (by omega)]
mutual
theorem small {wide : Int} (h2 : 2 ≤ wide) : ∀ (t : Tr) (d : Int), nodesB wide (wide / 2) d t = true → t.weight + 1 ≤ 2 * t.keys.length
  | .mk k c, d, h => by
    simp only [nodesB, Bool.and_eq_true, Bool.or_eq_true] at h
    have h1 : wide / 2 ≤ (k.length : Int) := by have := h.1.1; simp [inB] at this; omega
    rw [keys_length]
    simp only [weight]
    rcases h.2 with h3 | h3
    · have hc : c = [] := by simpa using h3
      subst hc
      simp [weights, keyss, lens]; omega
    · have := smalls h2 c _ h3.2
      omega
theorem smalls {wide : Int} (h2 : 2 ≤ wide) : ∀ (c : List Tr) (d : Int), nodesAllB wide d c = true → weights c ≤ 2 * lens (keyss c)
  | [], d, _ => by simp [weights]
  | t :: r, d, h => by
    simp only [nodesAllB, Bool.and_eq_true] at h
    have h3 := small h2 t _ h.1
    have h4 := smalls h2 r _ h.2
    simp only [weights, keyss, lens]; omega
end
theorem few : ∀ (l : List Int) (lo : Int), l.Pairwise (· < ·) → (∀ x, x ∈ l → lo ≤ x ∧ x ≤ 99) → (l.length : Int) ≤ max 0 (100 - lo)
  | [], lo, _, _ => by simp; omega
  | a :: r, lo, hp, hm => by
    rw [List.pairwise_cons] at hp
    have h1 := hm a (by simp)
    have h2 := few r (a + 1) hp.2 (fun x hx => ⟨by have := hp.1 x hx; omega, (hm x (by simp [hx])).2⟩)
    simp only [List.length_cons]
    omega
theorem sorted_mem {ks : List Int} (h : sortedB ks = true) : ∀ x, x ∈ ks → 0 ≤ x ∧ x ≤ 99 := fun x hx => by
  obtain ⟨i, hi, rfl⟩ := List.mem_iff_getElem.1 hx
  simp only [sortedB, List.all_eq_true, List.mem_range] at h
  have h1 := h i hi
  simp only [okAt, Bool.and_eq_true, inB, decide_eq_true_eq] at h1
  have h2 := h1.1
  simpa [List.getD_eq_getElem?_getD, hi] using h2
theorem valid_keys {wide : Int} {t : Tr} (h : validB wide t = true) : sortedB t.keys = true := by
  simp only [validB, Bool.and_eq_true] at h; exact h.2.2
theorem valid_well {wide : Int} {t : Tr} (h : validB wide t = true) : Well t := by
  have h' := h
  simp only [validB, Bool.and_eq_true] at h'
  exact ⟨⟨wide, 0, _, h'.2.1⟩, pairwise_of_sorted h'.2.2⟩
theorem valid_small {wide : Int} {t : Tr} (h : validB wide t = true) : t.weight ≤ 200 := by
  have hk := valid_keys h
  have hf := few t.keys 0 (pairwise_of_sorted hk) (sorted_mem hk)
  have hw := valid_wide h
  simp only [validB, Bool.and_eq_true] at h
  cases t with
  | mk k c =>
    rw [keys_length] at hf
    have h' := h.2.1
    simp only [nodesB, Bool.and_eq_true, Bool.or_eq_true] at h'
    simp only [weight]
    rcases h'.2 with h3 | h3
    · have hc : c = [] := by simpa using h3
      subst hc
      simp [weights] at hf ⊢; omega
    · have := smalls hw.1 c _ h3.2
      omega
end Tr
end Go.Proofs.Ytepkigcbjepbpaa

/- Trees in memory by the blocks that they lie in: a footprint. -/
namespace Go.Proofs.Ytepkigcbjepbpaa
open Go.RowKit

def IntsP (w : World) (P : Nat → Prop) (v : Value) (ks : List Int) : Prop :=
  ∃ (a : Option Addr) (cap : Nat), v = .slice a ks.length cap ∧ ks.length ≤ cap ∧ cap ≤ maxLen ∧ (a = none → cap = 0) ∧
    (ks = [] ∨ ∃ b o, a = some ⟨b, o, none⟩ ∧ P b ∧ ∀ i, i < ks.length → w.cell? ⟨b, o + i, none⟩ = some (.int .i64 (ks.getD i 0)))

def KidsP (w : World) (P : Nat → Prop) (a : Option Addr) (n : Nat) (kvs cvs : Nat → Value) : Prop :=
  n = 0 ∨ ∃ b o, a = some ⟨b, o, none⟩ ∧ P b ∧ ∀ i, i < n →
    w.cell? ⟨b, o + i * 2, none⟩ = some (kvs i) ∧ w.cell? ⟨b, o + i * 2 + 1, none⟩ = some (cvs i)

inductive TreeP (w : World) (P : Nat → Prop) : Value → Value → Tr → Prop where
  | mk (ks : List Int) (cs : List Tr) (kv : Value) (a : Option Addr) (cap : Nat) (kvs cvs : Nat → Value)
      (hk : IntsP w P kv ks) (hlen : cs.length ≤ cap) (hcap : cap ≤ maxLen) (hat : KidsP w P a cs.length kvs cvs)
      (hkids : ∀ i (h : i < cs.length), TreeP w P (kvs i) (cvs i) cs[i]) :
      TreeP w P kv (.slice a cs.length cap) (.mk ks cs)

theorem cellP {w w' : World} {b o : Nat} (h : w'.heap[b]? = w.heap[b]?) : w'.cell? ⟨b, o, none⟩ = w.cell? ⟨b, o, none⟩ := World.cell?_of_block (w := w) (a := ⟨b, o, none⟩) h

theorem IntsP.same {w w' : World} {P Q : Nat → Prop} {v : Value} {ks : List Int} (h : IntsP w P v ks) (hb : ∀ k, P k → w'.heap[k]? = w.heap[k]?) (hq : ∀ k, P k → Q k) : IntsP w' Q v ks := by
  obtain ⟨a, cap, hv, h1, h2, hnl, h3⟩ := h
  refine ⟨a, cap, hv, h1, h2, hnl, ?_⟩
  rcases h3 with h3 | ⟨b, o, h3, h4, h5⟩
  · exact .inl h3
  · exact .inr ⟨b, o, h3, hq b h4, fun i hi => by rw [cellP (hb b h4)]; exact h5 i hi⟩

theorem TreeP.tree {w : World} {B : Nat} {P : Nat → Prop} {kv cv : Value} {t : Tr} (h : TreeP w P kv cv t) (hq : ∀ k, P k → k < B) : TreeIn w B kv cv t := by
  induction h with
  | mk ks cs kv a cap kvs cvs hk hlen hcap hat hkids ih =>
    refine TreeIn.mk ks cs kv a cap kvs cvs ?_ hlen hcap ?_ ih
    · obtain ⟨a, cap, hv, h1, h2, hnl, h3⟩ := hk
      refine ⟨a, cap, hv, h1, h2, hnl, ?_⟩
      rcases h3 with h3 | ⟨b, o, h3, h4, h5⟩
      · exact .inl h3
      · exact .inr ⟨b, o, h3, hq b h4, h5⟩
    · rcases hat with h3 | ⟨b, o, h3, h4, h5⟩
      · exact .inl h3
      · exact .inr ⟨b, o, h3, hq b h4, h5⟩

theorem TreeP.slices {w : World} {P : Nat → Prop} {kv cv : Value} {t : Tr} (h : TreeP w P kv cv t) : ∃ a n c a' n' c', kv = .slice a n c ∧ cv = .slice a' n' c' := by
  cases h with
  | mk ks cs kv a cap kvs cvs hk hlen hcap hat hkids =>
    obtain ⟨ka, kcap, rfl, _⟩ := hk
    exact ⟨_, _, _, _, _, _, rfl, rfl⟩

theorem IntsOwn.p {w : World} {lo : Nat} {v : Value} {ks : List Int} (h : IntsOwn w lo v ks) : IntsP w (fun k => lo ≤ k ∧ k < w.heap.size) v ks := by
  obtain ⟨a, cap, hv, h1, h2, h3, h4⟩ := IntsOwn.in h
  refine ⟨a, cap, hv, h1, h2, h3, ?_⟩
  rcases h4 with h4 | ⟨b, o, h5, h6, h7⟩
  · exact .inl h4
  · refine .inr ⟨b, o, h5, ⟨?_, h6⟩, h7⟩
    obtain ⟨_, ⟨e1, _⟩ | ⟨g, c, cur, e1, e2, _⟩⟩ := h
    · rw [e1, h5] at hv; cases hv
    · rw [e1] at hv
      simp only [Value.slice.injEq] at hv
      rw [h5] at hv
      simp only [Option.some.injEq, Addr.mk.injEq, and_true] at hv
      obtain ⟨⟨rfl, _⟩, _⟩ := hv
      exact e2

theorem IntsOwn.keep {w w' : World} {lo : Nat} {v : Value} {ks : List Int} (h : IntsOwn w lo v ks) (hb : ∀ k, lo ≤ k → k < w.heap.size → w'.heap[k]? = w.heap[k]?) : IntsOwn w' lo v ks := by
  obtain ⟨h1, h2 | ⟨g, cap, cur, hv, hbb, hg, hr⟩⟩ := h
  · exact ⟨h1, .inl h2⟩
  · exact ⟨h1, .inr ⟨g, cap, cur, hv, hbb, (hb g hbb (Array.getElem?_eq_some_iff.1 hg).1).trans hg, hr⟩⟩

def Plain (w : World) (k : Nat) : Prop := ∃ (c : Array Value) (t : TypeId), w.heap[k]? = some (.cells c t (0, 0))
theorem Plain.kept {w w' : World} {k : Nat} (h : Plain w k) (hb : w'.heap[k]? = w.heap[k]?) : Plain w' k := by
  obtain ⟨c, t, h⟩ := h
  exact ⟨c, t, hb.trans h⟩

def KidsQ (w : World) (P : Nat → Prop) (a : Option Addr) (n : Nat) (kvs cvs : Nat → Value) : Prop :=
  n = 0 ∨ ∃ b o, a = some ⟨b, o, none⟩ ∧ (P b ∧ Plain w b) ∧ ∀ i, i < n →
    w.cell? ⟨b, o + i * 2, none⟩ = some (kvs i) ∧ w.cell? ⟨b, o + i * 2 + 1, none⟩ = some (cvs i)

inductive TreeQ (w : World) (P : Nat → Prop) : Value → Value → Tr → Prop where
  | mk (ks : List Int) (cs : List Tr) (kv : Value) (a : Option Addr) (cap : Nat) (kvs cvs : Nat → Value)
      (hk : IntsP w P kv ks) (hlen : cs.length ≤ cap) (hcap : cap ≤ maxLen) (hat : KidsQ w P a cs.length kvs cvs)
      (hkids : ∀ i (h : i < cs.length), TreeQ w P (kvs i) (cvs i) cs[i]) :
      TreeQ w P kv (.slice a cs.length cap) (.mk ks cs)

theorem KidsQ.same {w w' : World} {P Q : Nat → Prop} {a : Option Addr} {n : Nat} {kvs cvs : Nat → Value} (h : KidsQ w P a n kvs cvs) (hb : ∀ k, P k → w'.heap[k]? = w.heap[k]?) (hq : ∀ k, P k → Q k) : KidsQ w' Q a n kvs cvs := by
  rcases h with h3 | ⟨b, o, h3, h4, h5⟩
  · exact .inl h3
  · exact .inr ⟨b, o, h3, ⟨hq b h4.1, h4.2.kept (hb b h4.1)⟩, fun i hi => ⟨by rw [cellP (hb b h4.1)]; exact (h5 i hi).1, by rw [cellP (hb b h4.1)]; exact (h5 i hi).2⟩⟩

theorem TreeQ.same {w w' : World} {P Q : Nat → Prop} {kv cv : Value} {t : Tr} (h : TreeQ w P kv cv t) (hb : ∀ k, P k → w'.heap[k]? = w.heap[k]?) (hq : ∀ k, P k → Q k) : TreeQ w' Q kv cv t := by
  induction h with
  | mk ks cs kv a cap kvs cvs hk hlen hcap hat hkids ih => exact TreeQ.mk ks cs kv a cap kvs cvs (hk.same hb hq) hlen hcap (hat.same hb hq) ih

theorem TreeQ.p {w : World} {P : Nat → Prop} {kv cv : Value} {t : Tr} (h : TreeQ w P kv cv t) : TreeP w P kv cv t := by
  induction h with
  | mk ks cs kv a cap kvs cvs hk hlen hcap hat hkids ih =>
    refine TreeP.mk ks cs kv a cap kvs cvs hk hlen hcap ?_ ih
    rcases hat with h3 | ⟨b, o, h3, h4, h5⟩
    · exact .inl h3
    · exact .inr ⟨b, o, h3, h4.1, h5⟩

theorem TreeQ.tree {w : World} {B : Nat} {P : Nat → Prop} {kv cv : Value} {t : Tr} (h : TreeQ w P kv cv t) (hq : ∀ k, P k → k < B) : TreeIn w B kv cv t := h.p.tree hq

theorem TreeQ.slices {w : World} {P : Nat → Prop} {kv cv : Value} {t : Tr} (h : TreeQ w P kv cv t) : ∃ a n c a' n' c', kv = .slice a n c ∧ cv = .slice a' n' c' := h.p.slices
end Go.Proofs.Ytepkigcbjepbpaa

/- The contract of the model's l1Leaf. -/
namespace Go.Proofs.Ytepkigcbjepbpaa
open Go.RowKit

def Leafed (w : World) (ks : List Int) (e : Ending) (w' : World) : Prop :=
  ∃ (kv : Value) (g : Nat), e = .returned (.agg #[kv, .slice (some ⟨g, 0, none⟩) 0 0]) ∧ IntsOwn w' (w.heap.size + 1) kv ks ∧ (∀ k, kv.ownBlock = some k → k < g) ∧
    w.heap.size < g ∧ w'.heap[g]? = some (.cells #[] 29 (0, 0)) ∧ Below w.heap.size w w'

set_option maxHeartbeats 1000000 in
theorem leaf_c (w : World) (v : Value) (ks : List Int) (hk : ∀ w', Below w.heap.size w w' → IntsAt w' v ks) (hl : ks.length ≤ 1048576) :
    Calls Try.prog 102 #[v] w (Leafed w ks) := by
  obtain ⟨W1, hW1⟩ : ∃ W1, W1 = w.alloc (.cells #[.slice none 0 0, .slice none 0 0] 29) := ⟨_, rfl⟩
  have hs1 : W1.heap.size = w.heap.size + 1 := by rw [hW1]; simp
  have hb1 : Below w.heap.size w W1 := by rw [hW1]; exact (Below.refl _ _).alloc (Nat.le_refl _) _
  have h00 : IntsOwn (W1.alloc (.cells #[] 3)) (w.heap.size + 1) (.slice (some ⟨w.heap.size + 1, 0, none⟩) 0 0) [] := by
    rw [← hs1]; exact World.ownsRow_made W1 #[] 0 (Nat.le_refl _) (by unfold maxLen; omega) rfl
  have hsrc : IntsAt (W1.alloc (.cells #[] 3)) v ks := hk _ (hb1.alloc (by omega) _)
  have hlo : w.heap.size + 1 ≤ (W1.alloc (.cells #[] 3)).heap.size := by simp; omega
  have hln : ([] : List Int).length + ks.length ≤ 17592186044416 := by simp; omega
  have kb0 : (W1.alloc (.cells #[] 3)).heap[w.heap.size]? = some (.cells #[.slice none 0 0, .slice none 0 0] 29 (0, 0)) := by rw [old_blk _ _ _ (by omega), hW1, new_blk]
  have hb2 : Below w.heap.size w (W1.alloc (.cells #[] 3)) := hb1.alloc (by omega) _
  have hs2 : (W1.alloc (.cells #[] 3)).heap.size = w.heap.size + 2 := by simp; omega
  have H00 := Lib.hid h00
  have HSRC := Lib.hid hsrc
  have HLN := Lib.hid hln
  have HB2 := Lib.hid (And.intro kb0 (And.intro hb2 hs2))
  rw [hW1] at H00 HSRC hlo HB2
  clear h00 hsrc hln hb1 hk hW1 hs1 kb0 hb2 hs2 W1
  go_enter Try.func102, Try.ntmps102
  go_wp2_with (at_builtin; refine wpList_append_ints rfl _ _ rfl (w.heap.size + 1) _ _ [] ks rfl H00.out rfl HSRC.out HLN.out hlo ?_; intro v2 w2 hown2 hbel2 _ hsh2; obtain ⟨a2, c2, rfl⟩ := hsh2; have hsz2 := hbel2.size; have hsz0 := HB2.out.2.2; have hlt2 : w.heap.size < w2.heap.size := (by omega); have kb2 := (hbel2.block w.heap.size (by omega)).trans HB2.out.1; obtain ⟨c1, c2', c3, c4⟩ := box2 kb2; have HOX := Lib.hid (And.intro hown2 (And.intro hbel2 (And.intro kb2 hsz2))); clear hown2 hbel2 kb2 hsz2 hsz0)
  obtain ⟨F, hF⟩ : ∃ F, F = (((w2.setCell ⟨w.heap.size, 0, none⟩ (.slice a2 ks.length c2)).setCell ⟨w.heap.size, 1, none⟩ (.slice (some ⟨w2.heap.size, 0, none⟩) 0 0)).alloc (.cells #[] 29)) := ⟨_, rfl⟩
  have hsF : ((w2.setCell ⟨w.heap.size, 0, none⟩ (.slice a2 ks.length c2)).setCell ⟨w.heap.size, 1, none⟩ (.slice (some ⟨w2.heap.size, 0, none⟩) 0 0)).heap.size = w2.heap.size := by simp
  have kF : F.heap[w.heap.size]? = some (.cells #[.slice a2 ks.length c2, .slice (some ⟨w2.heap.size, 0, none⟩) 0 0] 29 (0, 0)) := by
    rw [hF, old_blk _ _ _ (by rw [hsF]; exact hlt2)]
    exact set_blk (o := 1) _ (set_blk (o := 0) _ HOX.out.2.2.1)
  have kG : F.heap[w2.heap.size]? = some (.cells #[] 29 (0, 0)) := by
    have h := new_blk ((w2.setCell ⟨w.heap.size, 0, none⟩ (.slice a2 ks.length c2)).setCell ⟨w.heap.size, 1, none⟩ (.slice (some ⟨w2.heap.size, 0, none⟩) 0 0)) (.cells #[] 29)
    rw [hsF] at h; rw [hF]; exact h
  have kE : ∀ k, k ≠ w.heap.size → k < w2.heap.size → F.heap[k]? = w2.heap[k]? := fun k h1 h2 => by
    rw [hF, old_blk _ _ _ (by rw [hsF]; exact h2), set_other _ _ _ _ _ h1, set_other _ _ _ _ _ h1]
  have hzF : F.heap.size = w2.heap.size + 1 := by rw [hF]; simp
  rw [← hF]
  have hoF : F.os = w2.os ∧ F.tape = w2.tape ∧ F.output = w2.output := by rw [hF]; exact ⟨rfl, rfl, rfl⟩
  clear hF c1 c2' c3 c4
  obtain ⟨d1, d2, d3, d4⟩ := box2 kF
  have hb2 := HB2.out.2.1
  have hbe := HOX.out.2.1
  refine bodyPost_ret (v := .agg #[.slice a2 ks.length c2, .slice (some ⟨w2.heap.size, 0, none⟩) 0 0]) (by simp [results, Try.results102, go_sem, d1, d2]) rfl ⟨_, w2.heap.size, rfl, ?_, ?_, hlt2, kG, ?_⟩
  · have h := HOX.out.1
    rw [List.nil_append] at h
    exact h.keep (fun k h1 h2 => kE k (by omega) h2)
  · intro k hk
    have h := HOX.out.1
    rw [List.nil_append] at h
    exact (h.lt k hk).2
  · refine ⟨hoF.1.trans (hbe.os.trans hb2.os), hoF.2.1.trans (hbe.tape.trans hb2.tape), hoF.2.2.trans (hbe.output.trans hb2.output), by omega, fun k hk => ?_⟩
    rw [kE k (by omega) (by omega), hbe.block k (by omega), hb2.block k hk]
end Go.Proofs.Ytepkigcbjepbpaa
