/- The contract of tree: a node's tree, in rows of the call's own. -/
import Derived.Test.YtananonjomfpkaaQg24
import Derived.Test.YtananonjomfpkaaQg26
/- What the model's l4Repair asks of its parts: boxes, the two kids at a place, trees that are read. -/
namespace Go.Proofs.Ytananonjomfpkaa
open Go.RowKit
theorem Td.tree {w : World} {F : Cells} {kv cv : Value} {t : Tr} (h : Td w F kv cv t) : TreeIn w w.heap.size kv cv t := by
 induction h with
 | mk ks kids F Fk Fc kv cv hkr hc hkids sk sc ss ap lt ih =>
   obtain ⟨_, a, cap, rfl, h1, h2, h3, h4⟩ := hc
   rw [List.length_map] at h1 ⊢
   have e1 : kids.length = (kids.map KidT.t).length := by simp
   rw [e1] at h1 ⊢
   refine .mk ks (kids.map KidT.t) _ a cap (fun i => ((kids.map KidT.pair).getD i (undef, undef)).1) (fun i => ((kids.map KidT.pair).getD i (undef, undef)).2) (rowF_in hkr) h1 h2 ?_ (fun i hi => ?_)
   · rcases h4 with h4 | ⟨b, o, rfl, g1, g2⟩
     · left; omega
     · by_cases h0 : kids.length = 0
       · left; simpa using h0
       · refine .inr ⟨b, o, rfl, lt_of_there (o := o + 0) (g1 0 (by rw [← e1] at h1; omega)).2.1, fun i hi => ?_⟩
         rw [List.length_map] at hi
         have := g2 i (by simpa using hi)
         simpa [hi] using this
   · rw [List.length_map] at hi
     have := ih kids[i] (List.getElem_mem hi)
     simpa [hi, KidT.pair] using this
theorem box3 {w : World} {b : Nat} {x y z : Value} {t : TypeId} (h : w.heap[b]? = some (.cells #[x, y, z] t (0, 0))) :
   w.cell? ⟨b, 0, none⟩ = some x ∧ w.cell? ⟨b, 1, none⟩ = some y ∧ w.cell? ⟨b, 2, none⟩ = some z ∧ w.frozen? ⟨b, 0, none⟩ = false ∧ w.frozen? ⟨b, 1, none⟩ = false ∧ w.frozen? ⟨b, 2, none⟩ = false := by
 refine ⟨?_, ?_, ?_, ?_, ?_, ?_⟩ <;> simp [World.cell?, World.frozen?, h]
theorem two_blk {w : World} {b : Nat} {o0 o1 : Value} {t : TypeId} (h : w.heap[b]? = some (.cells #[o0, o1] t (0, 0))) (v0 v1 : Value) :
   ((w.setCell ⟨b, 0, none⟩ v0).setCell ⟨b, 1, none⟩ v1).heap[b]? = some (.cells #[v0, v1] t (0, 0)) := by
 have := set_blk (o := 1) v1 (set_blk (o := 0) v0 h)
 rw [this]; simp
theorem three_blk {w : World} {b : Nat} {o0 o1 o2 : Value} {t : TypeId} (h : w.heap[b]? = some (.cells #[o0, o1, o2] t (0, 0))) (v0 v1 v2 : Value) :
   (((w.setCell ⟨b, 0, none⟩ v0).setCell ⟨b, 1, none⟩ v1).setCell ⟨b, 2, none⟩ v2).heap[b]? = some (.cells #[v0, v1, v2] t (0, 0)) := by
 have := set_blk (o := 2) v2 (set_blk (o := 1) v1 (set_blk (o := 0) v0 h))
 rw [this]; simp
structure Four (W : World) (n : Nat) (kv cv : Value) (b j : Int) (sh : Bool) : Prop where
 node : W.heap[n]? = some (.cells #[kv, cv] 26 (0, 0))
 rep : W.heap[n + 1]? = some (.cells #[.int .i64 b, .int .i64 j, .bool sh] 52 (0, 0))
 out : W.heap[n + 2]? = some (.cells #[.slice none 0 0, .slice none 0 0] 26 (0, 0))
 outr : W.heap[n + 3]? = some (.cells #[.int .i64 0, .int .i64 0, .bool false] 52 (0, 0))
theorem Four.keep {W W' : World} {n : Nat} {kv cv : Value} {b j : Int} {sh : Bool} {G : Cells} (h : Four W n kv cv b j sh) (hk : KeptF G W W') (hG : ∀ q o, G q o → q < n ∨ n + 4 ≤ q) : Four W' n kv cv b j sh :=
 ⟨hk.block' h.node (fun o e => by have := hG _ o e; omega), hk.block' h.rep (fun o e => by have := hG _ o e; omega), hk.block' h.out (fun o e => by have := hG _ o e; omega), hk.block' h.outr (fun o e => by have := hG _ o e; omega)⟩
theorem Four.made (w : World) (kv cv : Value) (b j : Int) (sh : Bool) : Four ((((w.alloc (.cells #[kv, cv] 26)).alloc (.cells #[.int .i64 b, .int .i64 j, .bool sh] 52)).alloc (.cells #[.slice none 0 0, .slice none 0 0] 26)).alloc (.cells #[.int .i64 0, .int .i64 0, .bool false] 52)) w.heap.size kv cv b j sh := by
 refine ⟨?_, ?_, ?_, ?_⟩
 · rw [old_blk _ _ _ (by simp <;> omega), old_blk _ _ _ (by simp <;> omega), old_blk _ _ _ (by simp), new_blk]
 · rw [old_blk _ _ _ (by simp <;> omega), old_blk _ _ _ (by simp <;> omega), show w.heap.size + 1 = (w.alloc (.cells #[kv, cv] 26)).heap.size by simp, new_blk]
 · rw [old_blk _ _ _ (by simp <;> omega), show w.heap.size + 2 = ((w.alloc (.cells #[kv, cv] 26)).alloc (.cells #[.int .i64 b, .int .i64 j, .bool sh] 52)).heap.size by simp, new_blk]
 · rw [show w.heap.size + 3 = (((w.alloc (.cells #[kv, cv] 26)).alloc (.cells #[.int .i64 b, .int .i64 j, .bool sh] 52)).alloc (.cells #[.slice none 0 0, .slice none 0 0] 26)).heap.size by simp, new_blk]
structure Ends (W W' : World) (n : Nat) (kv cv : Value) (b j : Int) (sh : Bool) : Prop where
 c0 : W'.cell? ⟨n + 2, 0, none⟩ = some kv
 c1 : W'.cell? ⟨n + 2, 1, none⟩ = some cv
 d0 : W'.cell? ⟨n + 3, 0, none⟩ = some (.int .i64 b)
 d1 : W'.cell? ⟨n + 3, 1, none⟩ = some (.int .i64 j)
 d2 : W'.cell? ⟨n + 3, 2, none⟩ = some (.bool sh)
 kept : KeptF (fun x _ => x = n + 2 ∨ x = n + 3) W W'
theorem ends_a {W : World} {n : Nat} {o0 o1 p0 p1 p2 : Value} {t t' : TypeId} (h1 : W.heap[n + 2]? = some (.cells #[o0, o1] t (0, 0))) (h2 : W.heap[n + 3]? = some (.cells #[p0, p1, p2] t' (0, 0))) (kv cv : Value) (b j : Int) (sh : Bool) :
   Ends W (((((W.setCell ⟨n + 2, 0, none⟩ kv).setCell ⟨n + 2, 1, none⟩ cv).setCell ⟨n + 3, 0, none⟩ (.int .i64 b)).setCell ⟨n + 3, 1, none⟩ (.int .i64 j)).setCell ⟨n + 3, 2, none⟩ (.bool sh)) n kv cv b j sh := by
 have a1 := two_blk h1 kv cv
 have a2 : ((W.setCell ⟨n + 2, 0, none⟩ kv).setCell ⟨n + 2, 1, none⟩ cv).heap[n + 3]? = some (.cells #[p0, p1, p2] t' (0, 0)) := by rw [set_other _ _ _ _ _ (by omega), set_other _ _ _ _ _ (by omega)]; exact h2
 have a3 := three_blk a2 (.int .i64 b) (.int .i64 j) (.bool sh)
 have a4 : (((((W.setCell ⟨n + 2, 0, none⟩ kv).setCell ⟨n + 2, 1, none⟩ cv).setCell ⟨n + 3, 0, none⟩ (.int .i64 b)).setCell ⟨n + 3, 1, none⟩ (.int .i64 j)).setCell ⟨n + 3, 2, none⟩ (.bool sh)).heap[n + 2]? = some (.cells #[kv, cv] t (0, 0)) := by
   rw [set_other _ _ _ _ _ (by omega), set_other _ _ _ _ _ (by omega), set_other _ _ _ _ _ (by omega)]; exact a1
 obtain ⟨x1, x2, _, _⟩ := box2 a4
 obtain ⟨y1, y2, y3, _⟩ := box3 a3
 refine ⟨x1, x2, y1, y2, y3, ?_⟩
 refine (((((KeptF.setCell _ _ _ _ (.inl rfl)).trans ((KeptF.setCell (F := fun x _ => x = n + 2 ∨ x = n + 3) _ _ _ _ (.inl rfl)).mono (fun _ _ _ h => .inl h))).trans ((KeptF.setCell (F := fun x _ => x = n + 2 ∨ x = n + 3) _ _ _ _ (.inr rfl)).mono (fun _ _ _ h => .inl h))).trans ((KeptF.setCell (F := fun x _ => x = n + 2 ∨ x = n + 3) _ _ _ _ (.inr rfl)).mono (fun _ _ _ h => .inl h))).trans ((KeptF.setCell (F := fun x _ => x = n + 2 ∨ x = n + 3) _ _ _ _ (.inr rfl)).mono (fun _ _ _ h => .inl h)))
theorem ends_b {W : World} {n : Nat} {o0 o1 p0 p1 p2 : Value} {t t' : TypeId} (h1 : W.heap[n + 2]? = some (.cells #[o0, o1] t (0, 0))) (h2 : W.heap[n + 3]? = some (.cells #[p0, p1, p2] t' (0, 0))) (kv cv : Value) (b j : Int) (sh : Bool) :
   Ends W (((((W.setCell ⟨n + 3, 0, none⟩ (.int .i64 b)).setCell ⟨n + 3, 1, none⟩ (.int .i64 j)).setCell ⟨n + 3, 2, none⟩ (.bool sh)).setCell ⟨n + 2, 0, none⟩ kv).setCell ⟨n + 2, 1, none⟩ cv) n kv cv b j sh := by
 have a1 := three_blk h2 (.int .i64 b) (.int .i64 j) (.bool sh)
 have a2 : (((W.setCell ⟨n + 3, 0, none⟩ (.int .i64 b)).setCell ⟨n + 3, 1, none⟩ (.int .i64 j)).setCell ⟨n + 3, 2, none⟩ (.bool sh)).heap[n + 2]? = some (.cells #[o0, o1] t (0, 0)) := by rw [set_other _ _ _ _ _ (by omega), set_other _ _ _ _ _ (by omega), set_other _ _ _ _ _ (by omega)]; exact h1
 have a3 := two_blk a2 kv cv
 have a4 : (((((W.setCell ⟨n + 3, 0, none⟩ (.int .i64 b)).setCell ⟨n + 3, 1, none⟩ (.int .i64 j)).setCell ⟨n + 3, 2, none⟩ (.bool sh)).setCell ⟨n + 2, 0, none⟩ kv).setCell ⟨n + 2, 1, none⟩ cv).heap[n + 3]? = some (.cells #[.int .i64 b, .int .i64 j, .bool sh] t' (0, 0)) := by
   rw [set_other _ _ _ _ _ (by omega), set_other _ _ _ _ _ (by omega)]; exact a1
 obtain ⟨x1, x2, _, _⟩ := box2 a3
 obtain ⟨y1, y2, y3, _⟩ := box3 a4
 refine ⟨x1, x2, y1, y2, y3, ?_⟩
 refine (((((KeptF.setCell _ _ _ _ (.inr rfl)).trans ((KeptF.setCell (F := fun x _ => x = n + 2 ∨ x = n + 3) _ _ _ _ (.inr rfl)).mono (fun _ _ _ h => .inl h))).trans ((KeptF.setCell (F := fun x _ => x = n + 2 ∨ x = n + 3) _ _ _ _ (.inr rfl)).mono (fun _ _ _ h => .inl h))).trans ((KeptF.setCell (F := fun x _ => x = n + 2 ∨ x = n + 3) _ _ _ _ (.inl rfl)).mono (fun _ _ _ h => .inl h))).trans ((KeptF.setCell (F := fun x _ => x = n + 2 ∨ x = n + 3) _ _ _ _ (.inl rfl)).mono (fun _ _ _ h => .inl h)))
theorem Ends.drew {W W' : World} {n : Nat} {kv cv : Value} {b j : Int} {sh : Bool} (h : Ends W W' n kv cv b j sh) : Ends W W'.drew n kv cv b j sh :=
 ⟨h.c0, h.c1, h.d0, h.d1, h.d2, h.kept.trans ((KeptF.drew _ _).mono (fun _ _ _ h => h))⟩
def Restored (w : World) (F : Cells) (D : Tr.Del) (sh : Bool) (e : Ending) (w' : World) : Prop :=
 ∃ (kv cv : Value) (F' : Cells), e = .returned (.tuple #[.agg #[kv, cv], .agg #[.int .i64 (D.b : Int), .int .i64 (D.j : Int), .bool sh]]) ∧ Td w' F' kv cv D.t ∧ (∀ x o, F' x o → F x o ∨ w.heap.size ≤ x) ∧ KeptF F w w'
structure Node4 (w : World) (F Fk Fc : Cells) (kv cv : Value) (k : List Int) (kids : List KidT) : Prop where
 hk : RowF w Fk kv (k.map (Value.int .i64))
 hc : RowT w Fc cv (kids.map KidT.pair)
 hkids : ∀ z, z ∈ kids → Td w z.F z.kv z.cv z.t
 sk : ∀ q o, Fk q o → F q o
 sc : ∀ q o, Fc q o → F q o
 ss : ∀ z, z ∈ kids → ∀ q o, z.F q o → F q o
 ap : (Fk :: Fc :: kids.map KidT.F).Pairwise Apart
 lt : ∀ q o, F q o → q < w.heap.size
theorem Node4.keep {w W : World} {F Fk Fc : Cells} {kv cv : Value} {k : List Int} {kids : List KidT} (h : Node4 w F Fk Fc kv cv k kids) (hk : KeptF (fun _ _ => False) w W) : Node4 W F Fk Fc kv cv k kids :=
 ⟨h.hk.keep hk (fun _ _ _ e => e), h.hc.keep hk (fun _ _ _ e => e), fun z hz => (h.hkids z hz).keep hk (fun _ _ _ e => e), h.sk, h.sc, h.ss, h.ap, fun q o e => Nat.lt_of_lt_of_le (h.lt q o e) hk.size⟩
theorem Wrought.of_sub {w : World} {F : Cells} {t t' : Tr} (h : t = t') : ∀ e w', Wrought w F t e w' → Wrought w F t' e w' := fun e w' hh => h ▸ hh
theorem callJoin {w : World} {F Fk Fc : Cells} {kv cv : Value} {k : List Int} {kids : List KidT} (h : Node4 w F Fk Fc kv cv k kids) (i : Nat) (hi : i + 1 < kids.length) (hkc : kids.length = k.length + 1) (hn : kids.length ≤ 100000)
   (hsz : ∀ z, z ∈ kids → z.t.ks.length ≤ 100000 ∧ z.t.cs.length ≤ 100000 ∧ Tr.Shaped z.t) : Calls Try.prog 146 #[.agg #[kv, cv], .int .i64 (i : Int)] w (Wrought w F (Tr.joined k (kids.map KidT.t) i)) := by
 obtain ⟨pre, x, y, post, hkl, hpl⟩ := two_mid hi
 subst hkl
 have zx := hsz x (by simp)
 have zy := hsz y (by simp)
 obtain ⟨CH, kidsx, kidsy, hcx, hcy, ho⟩ := openTwo_of (x := x) (y := y) (kx := x.t.ks) (ky := y.t.ks) (cx := x.t.cs) (cy := y.t.cs) (by cases x.t; rfl) (by cases y.t; rfl) h.hk h.hc h.hkids h.sk h.sc h.ss h.ap
 have lx : kidsx.length ≤ 100000 := by have := zx.2.1; rwa [hcx, List.length_map] at this
 have ly : kidsy.length ≤ 100000 := by have := zy.2.1; rwa [hcy, List.length_map] at this
 have hlen : (pre ++ x :: y :: post).length = pre.length + (2 + post.length) := by simp; omega
 have hc := l4Join_c w F CH kv cv k pre post x.kv x.cv x.t.ks kidsx y.kv y.cv y.t.ks kidsy ho (by omega) zx.1 zy.1 lx ly (by omega) (by omega)
 have he := Tr.joined_mid k (pre.map KidT.t) (post.map KidT.t) x.t y.t
 rw [hpl] at hc
 rw [List.length_map, hpl] at he
 refine hc.mono (Wrought.of_sub ?_)
 rw [show (pre ++ x :: y :: post).map KidT.t = pre.map KidT.t ++ x.t :: y.t :: post.map KidT.t by simp, he, hcx, hcy]
theorem callLeft {w : World} {F Fk Fc : Cells} {kv cv : Value} {k : List Int} {kids : List KidT} (h : Node4 w F Fk Fc kv cv k kids) (i : Nat) (hi : i + 1 < kids.length) (hkc : kids.length = k.length + 1) (hn : kids.length ≤ 100000)
   (hsz : ∀ z, z ∈ kids → z.t.ks.length ≤ 100000 ∧ z.t.cs.length ≤ 100000 ∧ Tr.Shaped z.t) (hy : 1 < (Tr.kidAt (kids.map KidT.t) (i + 1)).ks.length) :
   Calls Try.prog 145 #[.agg #[kv, cv], .int .i64 (i : Int)] w (Wrought w F (Tr.behind k (kids.map KidT.t) i)) := by
 obtain ⟨pre, x, y, post, hkl, hpl⟩ := two_mid hi
 subst hkl
 have zx := hsz x (by simp)
 have zy := hsz y (by simp)
 have em : (pre ++ x :: y :: post).map KidT.t = pre.map KidT.t ++ x.t :: y.t :: post.map KidT.t := by simp
 rw [em, show i = (pre.map KidT.t).length by rw [List.length_map, hpl], Tr.kidAt_mid1] at hy
 obtain ⟨CH, kidsx, kidsy, hcx, hcy, ho⟩ := openTwo_of (x := x) (y := y) (kx := x.t.ks) (ky := y.t.ks) (cx := x.t.cs) (cy := y.t.cs) (by cases x.t; rfl) (by cases y.t; rfl) h.hk h.hc h.hkids h.sk h.sc h.ss h.ap
 have hsh : kidsy.length ≠ 1 := by
   have h2 := zy.2.2
   have e : y.t.cs.length = kidsy.length := by rw [hcy, List.length_map]
   rcases h2 with h2 | h2 <;> omega
 have lx : kidsx.length ≤ 100000 := by have := zx.2.1; rwa [hcx, List.length_map] at this
 have ly : kidsy.length ≤ 100000 := by have := zy.2.1; rwa [hcy, List.length_map] at this
 have hlen : (pre ++ x :: y :: post).length = pre.length + (2 + post.length) := by simp; omega
 have hc := l4Left_c w F CH kv cv k pre post x.kv x.cv x.t.ks kidsx y.kv y.cv y.t.ks kidsy ho (by omega) hy hsh zx.1 zy.1 lx ly (by omega) (by omega)
 have he := Tr.behind_mid k (pre.map KidT.t) (post.map KidT.t) x.t y.t
 rw [hpl] at hc
 rw [List.length_map, hpl] at he
 refine hc.mono (Wrought.of_sub ?_)
 rw [em, he, hcx, hcy]
theorem callRight {w : World} {F Fk Fc : Cells} {kv cv : Value} {k : List Int} {kids : List KidT} (h : Node4 w F Fk Fc kv cv k kids) (i : Nat) (hi : i + 1 < kids.length) (hkc : kids.length = k.length + 1) (hn : kids.length ≤ 100000)
   (hsz : ∀ z, z ∈ kids → z.t.ks.length ≤ 100000 ∧ z.t.cs.length ≤ 100000 ∧ Tr.Shaped z.t) (hx : 0 < (Tr.kidAt (kids.map KidT.t) i).ks.length) :
   Calls Try.prog 144 #[.agg #[kv, cv], .int .i64 ((i + 1 : Nat) : Int)] w (Wrought w F (Tr.ahead k (kids.map KidT.t) i)) := by
 obtain ⟨pre, x, y, post, hkl, hpl⟩ := two_mid hi
 subst hkl
 have zx := hsz x (by simp)
 have zy := hsz y (by simp)
 have em : (pre ++ x :: y :: post).map KidT.t = pre.map KidT.t ++ x.t :: y.t :: post.map KidT.t := by simp
 rw [em, show i = (pre.map KidT.t).length by rw [List.length_map, hpl], Tr.kidAt_mid] at hx
 obtain ⟨CH, kidsx, kidsy, hcx, hcy, ho⟩ := openTwo_of (x := x) (y := y) (kx := x.t.ks) (ky := y.t.ks) (cx := x.t.cs) (cy := y.t.cs) (by cases x.t; rfl) (by cases y.t; rfl) h.hk h.hc h.hkids h.sk h.sc h.ss h.ap
 have hsh : kidsx.length = 0 ∨ kidsx.length = x.t.ks.length + 1 := by
   have h2 := zx.2.2
   have e : x.t.cs.length = kidsx.length := by rw [hcx, List.length_map]
   rcases h2 with h2 | h2
   · left; omega
   · right; omega
 have lx : kidsx.length ≤ 100000 := by have := zx.2.1; rwa [hcx, List.length_map] at this
 have ly : kidsy.length ≤ 100000 := by have := zy.2.1; rwa [hcy, List.length_map] at this
 have hlen : (pre ++ x :: y :: post).length = pre.length + (2 + post.length) := by simp; omega
 have hc := l4Right_c w F CH kv cv k pre post x.kv x.cv x.t.ks kidsx y.kv y.cv y.t.ks kidsy ho (by omega) hx hsh zx.1 zy.1 lx ly (by omega) (by omega)
 have he := Tr.ahead_mid k (pre.map KidT.t) (post.map KidT.t) x.t y.t hx
 rw [hpl] at hc
 rw [List.length_map, hpl] at he
 refine hc.mono (Wrought.of_sub ?_)
 rw [em, he, hcx, hcy]
end Go.Proofs.Ytananonjomfpkaa
/- A tree that is valid for some width has few keys. -/
namespace Go.Proofs.Ytananonjomfpkaa
open Go.RowKit
namespace Tr
theorem keys_length (k : List Int) (c : List Tr) : (Tr.mk k c).keys.length = lens (keyss c) + k.length := by
 have hk := length_keyss c
 simp only [keys, upto_length]
 rw [List.take_of_length_le (by omega), List.take_of_length_le (by omega)]
mutual
theorem small {wide : Int} (h2 : 2 ≤ wide) : ∀ (t : Tr) (d : Int), nodesB wide (wide / 2) d t = true → t.weight + 1 ≤ 2 * t.keys.length
 | .mk k c, d, h => by
   simp only [nodesB, Bool.and_eq_true, Bool.or_eq_true] at h
   have h1 : wide / 2 ≤ (k.length : Int) := by have := h.1.1; simp [inB] at this; omega
   rw [keys_length]
   simp only [weight]
   rcases h.2 with h3 | h3
   · have hc : c = [] := by simpa using h3
     subst hc
     simp [weights, keyss, lens]; omega
   · have := smalls h2 c _ h3.2
     omega
theorem smalls {wide : Int} (h2 : 2 ≤ wide) : ∀ (c : List Tr) (d : Int), nodesAllB wide d c = true → weights c ≤ 2 * lens (keyss c)
 | [], d, _ => by simp [weights]
 | t :: r, d, h => by
   simp only [nodesAllB, Bool.and_eq_true] at h
   have h3 := small h2 t _ h.1
   have h4 := smalls h2 r _ h.2
   simp only [weights, keyss, lens]; omega
end
theorem few : ∀ (l : List Int) (lo : Int), l.Pairwise (· < ·) → (∀ x, x ∈ l → lo ≤ x ∧ x ≤ 99) → (l.length : Int) ≤ max 0 (100 - lo)
 | [], lo, _, _ => by simp; omega
 | a :: r, lo, hp, hm => by
   rw [List.pairwise_cons] at hp
   have h1 := hm a (by simp)
   have h2 := few r (a + 1) hp.2 (fun x hx => ⟨by have := hp.1 x hx; omega, (hm x (by simp [hx])).2⟩)
   simp only [List.length_cons]
   omega
theorem sorted_mem {ks : List Int} (h : sortedB ks = true) : ∀ x, x ∈ ks → 0 ≤ x ∧ x ≤ 99 := fun x hx => by
 obtain ⟨i, hi, rfl⟩ := List.mem_iff_getElem.1 hx
 simp only [sortedB, List.all_eq_true, List.mem_range] at h
 have h1 := h i hi
 simp only [okAt, Bool.and_eq_true, inB, decide_eq_true_eq] at h1
 have h2 := h1.1
 simpa [List.getD_eq_getElem?_getD, hi] using h2
theorem valid_keys {wide : Int} {t : Tr} (h : validB wide t = true) : sortedB t.keys = true := by
 simp only [validB, Bool.and_eq_true] at h; exact h.2.2
theorem valid_well {wide : Int} {t : Tr} (h : validB wide t = true) : Well t := by
 have h' := h
 simp only [validB, Bool.and_eq_true] at h'
 exact ⟨⟨wide, 0, _, h'.2.1⟩, pairwise_of_sorted h'.2.2⟩
theorem valid_small {wide : Int} {t : Tr} (h : validB wide t = true) : t.weight ≤ 200 := by
 have hk := valid_keys h
 have hf := few t.keys 0 (pairwise_of_sorted hk) (sorted_mem hk)
 have hw := valid_wide h
 simp only [validB, Bool.and_eq_true] at h
 cases t with
 | mk k c =>
   rw [keys_length] at hf
   have h' := h.2.1
   simp only [nodesB, Bool.and_eq_true, Bool.or_eq_true] at h'
   simp only [weight]
   rcases h'.2 with h3 | h3
   · have hc : c = [] := by simpa using h3
     subst hc
     simp [weights] at hf ⊢; omega
   · have := smalls hw.1 c _ h3.2
     omega
end Tr
end Go.Proofs.Ytananonjomfpkaa
/- The contract of tree: a node's tree, in rows of the call's own. -/
namespace Go.Proofs.Ytananonjomfpkaa
open Go.RowKit
theorem rowF_ints {w : World} {F : Cells} {v : Value} {k : List Int} (h : RowF w F v (k.map (Value.int .i64))) : IntsAt w v k := by
 obtain ⟨_, ka, kcap, rfl, k1, k2, k3, k4⟩ := h
 refine ⟨ka, kcap, by simp, k3, ?_⟩
 rcases k4 with k4 | ⟨kb, ko, rfl, g1, g2⟩
 · subst k4
   simp at k1
   exact .inl k1
 · refine .inr ⟨kb, ko, rfl, fun i hi => ?_⟩
   rw [g2 i (by simpa using hi)]
   simp [hi]
theorem treeO_step {wr w6 w7 : World} {lo bt j rc gg cap7 : Nat} {kv xk xc : Value} {ra : Option Addr} {ks : List Int} {cs : List Tr} {kids : List KidO} {P Q : Blocks}
   (hbox : wr.heap[bt]? = some (.cells #[kv, .slice ra j rc] 26 (0, 0))) (hj : j < cs.length) (hkt : cs.take j = kids.map KidO.t) (hlo : lo ≤ bt)
   (htr : TreeO wr lo P kv (.slice ra j rc) (.mk ks (cs.take j))) (hP : ¬ P bt)
   (hn : TreeO w6 wr.heap.size Q xk xc cs[j]) (h6 : Below wr.heap.size wr w6)
   (hpar : IntsOwn wr lo kv ks ∧ (∀ x, x ∈ kids → TreeO wr lo x.P x.kv x.cv x.t) ∧ (∀ b, ownB kv b → P b) ∧ (∀ b, ownB (.slice ra j rc) b → P b) ∧ (∀ x, x ∈ kids → ∀ b, x.P b → P b) ∧ (ownB kv :: ownB (.slice ra j rc) :: kids.map KidO.P).Pairwise ApartB ∧ (∀ b, P b → lo ≤ b ∧ b < wr.heap.size))
   (hown : w7.ownsRow lo 26 2 (.slice (some ⟨gg, 0, none⟩) (j + 1) cap7) (j + 1) (flatT (kids.map KidO.pair) ++ [xk, xc]))
   (hg : (w6.alloc (.cells #[xk, xc] 26)).grownBy w7 (Value.slice ra j rc).ownBlock)
   (hat : (Value.slice ra j rc).ownBlock = some gg ∨ gg = w6.heap.size + 1) :
   ∃ P' : Blocks, (w7.setCell ⟨bt, 1, none⟩ (.slice (some ⟨gg, 0, none⟩) (j + 1) cap7)).heap[bt]? = some (.cells #[kv, .slice (some ⟨gg, 0, none⟩) (j + 1) cap7] 26 (0, 0)) ∧
     TreeO (w7.setCell ⟨bt, 1, none⟩ (.slice (some ⟨gg, 0, none⟩) (j + 1) cap7)) lo P' kv (.slice (some ⟨gg, 0, none⟩) (j + 1) cap7) (.mk ks (cs.take (j + 1))) ∧ ¬ P' bt ∧
     Below lo wr (w7.setCell ⟨bt, 1, none⟩ (.slice (some ⟨gg, 0, none⟩) (j + 1) cap7)) := by
 obtain ⟨hk, hkids, sk, sc, ss, ap, lt⟩ := hpar
 have hbt : bt < wr.heap.size := (Array.getElem?_eq_some_iff.1 hbox).1
 have hsz6 : wr.heap.size ≤ w6.heap.size := h6.size
 have hsz7 : w6.heap.size + 1 ≤ w7.heap.size := by have := hg.size; simpa using this
 obtain ⟨wf, hwf⟩ : ∃ wf, wf = w7.setCell ⟨bt, 1, none⟩ (.slice (some ⟨gg, 0, none⟩) (j + 1) cap7) := ⟨_, rfl⟩
 have hsf : wf.heap.size = w7.heap.size := by rw [hwf]; simp
 have own : ∀ k, (Value.slice ra j rc).ownBlock = some k → P k := fun k h => sc k h
 have old6 : ∀ k, k < w6.heap.size → (Value.slice ra j rc).ownBlock ≠ some k → w7.heap[k]? = w6.heap[k]? := fun k h1 h3 => by
   rw [hg.block k (by simp; omega) (fun e => h3 e.symm), old_blk _ _ _ h1]
 have old6f : ∀ k, k < w6.heap.size → k ≠ bt → (Value.slice ra j rc).ownBlock ≠ some k → wf.heap[k]? = w6.heap[k]? := fun k h1 h2 h3 => by
   rw [hwf, set_other _ _ _ _ _ h2, old6 k h1 h3]
 have hbox' : wf.heap[bt]? = some (.cells #[kv, .slice (some ⟨gg, 0, none⟩) (j + 1) cap7] 26 (0, 0)) := by
   have h1 : w7.heap[bt]? = some (.cells #[kv, .slice ra j rc] 26 (0, 0)) := ((old6 bt (by omega) (fun e => hP (own _ e))).trans (h6.block bt hbt)).trans hbox
   rw [hwf]; exact set_blk _ h1
 have hrow : TreesOwn wf lo (.slice (some ⟨gg, 0, none⟩) (j + 1) cap7) (kids.map KidO.pair ++ [(xk, xc)]) := by
   have hl : (kids.map KidO.pair ++ [(xk, xc)]).length = j + 1 := by
     have := congrArg List.length hkt
     simp at this ⊢
     omega
   unfold TreesOwn
   rw [hl, flatT_append]
   refine ownsRow_held (by simpa [flatT] using hown) (fun k e => ?_)
   have e' : gg = k := by simpa [Value.ownBlock] using e
   rw [hwf, set_other _ _ _ _ _ (fun e2 => ?_)]
   subst e'; subst e2
   rcases hat with h | h
   · exact hP (own _ h)
   · omega
 have hpush := TreeO.push (w' := wf) (u := cs[j]) hk hkids sk sc ss ap lt (by omega)
   (fun b h1 h2 => (old6f b (by have := (lt b h1).2; omega) (fun e => hP (e ▸ h1)) h2).trans (h6.block b (lt b h1).2))
   ((hn.same (w' := wf) (by omega) (fun b h => old6f b (hn.lt b h).2 (by have := (hn.lt b h).1; omega) (fun e => by have := (lt b (own b e)).2; have := (hn.lt b h).1; omega))).lower (by omega)) (fun b h => (hn.lt b h).1) hrow
   (fun b h => by
     have e' : gg = b := by simpa [ownB, Value.ownBlock] using h
     subst e'
     rcases hat with h2 | h2
     · exact .inl h2
     · exact .inr ⟨by omega, fun hq => by have := (hn.lt _ hq).2; omega⟩)
 rw [← hkt, List.take_append_getElem] at hpush
 rw [← hwf]
 refine ⟨_, hbox', hpush.1, fun h => ?_, ?_, ?_, ?_, by omega, fun k hk => ?_⟩
 · rcases hpush.2 bt h with h | h
   · exact hP h
   · omega
 · rw [hwf]; exact hg.os.trans h6.os
 · rw [hwf]; exact hg.tape.trans h6.tape
 · rw [hwf]; exact hg.output.trans h6.output
 · exact (old6f k (by omega) (by omega) (fun e => by have := (lt k (own k e)).1; omega)).trans (h6.block k (by omega))
set_option maxRecDepth 100000 in
set_option maxHeartbeats 2000000 in
theorem tree_c {w : World} {F : Cells} {b : Nat} {t : Tr} (ht : Nd w F b t) (hw : t.weight ≤ 1048576) :
   ∀ w', Below w.heap.size w w' →
   Calls Try.prog 56 #[.pointer (some ⟨b, 0, none⟩)] w' fun e w'' => ∃ kv cv P, e = .returned (.agg #[kv, cv]) ∧ TreeO w'' w'.heap.size P kv cv t ∧ Below w'.heap.size w' w'' := by
 induction ht with
 | mk ks kds F Fk Fc b kv cv hbox hkr hcr hkids sb sk sc ss ap lt ih =>
   intro w' hbw
   obtain ⟨i0, hi0, hz0, hz1, hz2⟩ := info_parts Try.infoTree
   simp only [Tr.weight] at hw
   obtain ⟨cs, hcs⟩ : ∃ cs, cs = kds.map KidD.t := ⟨_, rfl⟩
   rw [← hcs] at hw ⊢
   have hcl : cs.length = kds.length := by rw [hcs]; simp
   have hl0 := Tr.length_le_weights cs
   have hB := hbw.size
   have hblt : b < w.heap.size := (Array.getElem?_eq_some_iff.1 hbox).1
   have hka := rowF_ints (hkr.keep (KeptF.of_below (F := fun _ _ => False) hbw (Nat.le_refl _)) (fun _ _ _ h => h))
   have hcr' := hcr.keep (KeptF.of_below (F := fun _ _ => False) hbw (Nat.le_refl _)) (fun _ _ _ h => h)
   have hbox' := (hbw.block b hblt).trans hbox
   obtain ⟨_, ca, ccap, rfl, c1, c2, c3, c4⟩ := hcr'
   rw [List.length_map, ← hcl] at c1 hbox'
   have hat : ∀ (i : Nat) (h : i < cs.length), ∃ (cb co : Nat) (p : Nat), ca = some ⟨cb, co, none⟩ ∧ cb < w'.heap.size ∧ w'.cell? ⟨cb, co + i, none⟩ = some (.pointer (some ⟨p, 0, none⟩)) ∧
       ∀ w2, Below w.heap.size w w2 → Calls Try.prog 56 #[.pointer (some ⟨p, 0, none⟩)] w2 fun e w3 => ∃ kv cv P, e = .returned (.agg #[kv, cv]) ∧ TreeO w3 w2.heap.size P kv cv cs[i] ∧ Below w2.heap.size w2 w3 := fun i hi => by
     have hi' : i < kds.length := by omega
     rcases c4 with h | ⟨cb, co, rfl, g1, g2⟩
     · omega
     · have hx := g2 i (by simpa using hi')
       have hwt := Tr.weight_get_le cs i hi
       have he : cs[i] = kds[i].t := by simp [hcs]
       refine ⟨cb, co, kds[i].p, rfl, lt_of_there (o := co + i) (by rw [hx]; rfl), by rw [hx]; simp [KidD.ptr], ?_⟩
       rw [he] at hwt ⊢
       exact ih kds[i] (List.getElem_mem hi') (by omega)
   have hka0 := hka
   obtain ⟨ka, kcp, hkv, -⟩ := hka0
   subst hkv
   have HAT := Lib.hid hat
   have HKA := Lib.hid hka
   have HBW := Lib.hid hbw
   obtain ⟨W1, hW1⟩ : ∃ W1, W1 = w'.alloc (.cells #[.slice none 0 0, .slice none 0 0] 26) := ⟨_, rfl⟩
   have hs1 : W1.heap.size = w'.heap.size + 1 := by rw [hW1]; simp
   have hb1 : Below w'.heap.size w' W1 := by rw [hW1]; exact (Below.refl _ _).alloc (Nat.le_refl _) _
   have kb : W1.heap[w'.heap.size]? = some (.cells #[.slice none 0 0, .slice none 0 0] 26 (0, 0)) := by rw [hW1, new_blk]
   have nb : W1.heap[b]? = some (.cells #[.slice ka ks.length kcp, .slice ca cs.length ccap] 99 (0, 0)) := (hb1.block b (by omega)).trans hbox'
   have hcl1 := clone_c W1 (ks := ks) (v := .slice ka ks.length kcp) (by
     obtain ⟨a, cap, e1, e2, e3⟩ := hka
     refine ⟨a, cap, e1, e2, ?_⟩
     rcases e3 with e3 | ⟨kb, ko, e4, e5⟩
     · exact .inl e3
     · exact .inr ⟨kb, ko, e4, fun i hi => by rw [below_cell hb1 (World.block_lt_of_cell? w' _ (e5 i hi))]; exact e5 i hi⟩) (by omega)
   have HCL := Lib.hid hcl1
   have HW1 := Lib.hid hW1
   have HB1 := Lib.hid (And.intro hb1 (And.intro kb nb))
   have nbx := nb
   rw [hW1] at nbx
   obtain ⟨x1, x2, x3, x4⟩ := box2 nbx
   clear hcl nbx hbox hkr hcr hkids sb sk sc ss ap lt ih hbw hka hbox' c4 hat hcl1 hW1 hb1 kb nb hcs
   go_enter Try.func56, Try.ntmps56
   go_wp2_with fail
   rw [← HW1.out]
   refine HCL.out.mono ?_
   rintro e w2 ⟨v2, rfl, hown2, hb2⟩
   obtain ⟨a2, q2, rfl⟩ := hown2.shown
   have nb2 := (hb2.block b (by omega)).trans HB1.out.2.2
   clear x1 x2 x3 x4
   obtain ⟨x1, x2, x3, x4⟩ := box2 nb2
   have hs2 := hb2.size
   have hb2' := HB1.out.1.trans (hb2.mono (by omega))
   obtain ⟨y1, y2, y3, y4⟩ := box2 ((old_blk w2 (.cells #[.slice a2 ks.length q2, .slice none 0 0] 26) _ (by omega)).trans nb2)
   obtain ⟨W3, hW3⟩ : ∃ W3, W3 = w2.alloc (.cells #[.slice a2 ks.length q2, .slice none 0 0] 26) := ⟨_, rfl⟩
   have hs3 : W3.heap.size = w2.heap.size + 1 := by rw [hW3]; simp
   have hb3 : Below w2.heap.size w2 W3 := by rw [hW3]; exact (Below.refl _ _).alloc (Nat.le_refl _) _
   have hbx3 : W3.heap[w2.heap.size]? = some (.cells #[.slice a2 ks.length q2, .slice none 0 0] 26 (0, 0)) := by rw [hW3, new_blk]
   have htr3 : TreeO W3 (w'.heap.size + 1) (fun x => ownB (.slice a2 ks.length q2) x) (.slice a2 ks.length q2) (.slice none 0 0) (.mk ks (cs.take 0)) := by
     refine .mk ks [] _ _ _ (ownsRow_held (IntsOwn.lower hown2 (by omega)) (fun k e => hb3.block k (hown2.lt k e).2)) ⟨rfl, .inl ⟨rfl, rfl⟩⟩ (fun x h => by cases h) (fun b h => h) (fun b h => by cases h) (fun x h => by cases h) ?_ (fun q e => ⟨by have := (hown2.lt q e).1; omega, by have := (hown2.lt q e).2; omega⟩)
     exact List.pairwise_cons.2 ⟨fun R hR b _ h => (by simp at hR; subst hR; cases h), List.pairwise_cons.2 ⟨fun _ h => (by cases h), List.Pairwise.nil⟩⟩
   have H0 := Lib.hid (And.intro hbx3 (And.intro htr3 (show ¬ ownB (.slice a2 ks.length q2) w2.heap.size from fun e => by have := (hown2.lt _ e).2; omega)))
   have HB3 := Lib.hid (Below.trans (hb2.mono (show w'.heap.size + 1 ≤ W1.heap.size by omega)) (hb3.mono (by omega)))
   have HW3 := Lib.hid hW3
   clear hb2 hb2' hown2 nb2 hb3 hbx3 htr3 hW3
   go_wp2_with fail
   rw [← HW3.out]
   clear x1 x2 x3 x4 y1 y2 y3 y4
   go_loopw [18] (fun i wr => ∃ (j : Nat) (vk : Value) (P : Blocks), j ≤ cs.length ∧ i = .int .i64 j ∧ wr.heap[w2.heap.size]? = some (.cells #[.slice a2 ks.length q2, vk] 26 (0, 0)) ∧ TreeO wr (w'.heap.size + 1) P (.slice a2 ks.length q2) vk (.mk ks (cs.take j)) ∧ ¬ P w2.heap.size ∧ Below (w'.heap.size + 1) W1 wr) (fun i _ => cs.length - (intOf i).toNat)
   case atStart => exact ⟨0, _, _, Nat.zero_le _, rfl, H0.out.1, H0.out.2.1, H0.out.2.2, HB3.out⟩
   case round =>
     obtain ⟨j, vk, P, hj, rfl, hbx, htr, hP, hbel1⟩ := hrel
     have hbel : Below w'.heap.size w' wr := HB1.out.1.trans (hbel1.mono (by omega))
     by_cases hlt : j < cs.length
     · obtain ⟨cb, co, p, rfl, hcb, hcell, hcall⟩ := HAT.out j hlt
       have hcell' : wr.cell? ⟨cb, co + j, none⟩ = some (.pointer (some ⟨p, 0, none⟩)) := by rw [below_cell hbel (by omega)]; exact hcell
       obtain ⟨kids, hkt, hpk, hpc, hpx, psk, psc, pss, pap, plt⟩ := htr.parts
       have hlk : kids.length = j := by
         have := congrArg List.length hkt
         simp at this
         omega
       obtain ⟨ra, rc, hvk⟩ := TreesOwn.shown hpc
       rw [List.length_map, hlk] at hvk
       subst hvk
       have hrow : wr.ownsRow (w'.heap.size + 1) 26 2 (.slice ra j rc) j (flatT (kids.map KidO.pair)) := by
         have h := hpc
         unfold TreesOwn at h
         rw [List.length_map, hlk] at h
         exact h
       have hcl := hcall wr (HBW.out.trans (hbel.mono hB))
       have hszr := hbel.size
       have hlt2 : w2.heap.size < wr.heap.size := (Array.getElem?_eq_some_iff.1 hbx).1
       have ne1 : some w2.heap.size ≠ (Value.slice ra j rc).ownBlock := fun e => hP (psc _ e.symm)
       obtain ⟨u1, u2, u3, u4⟩ := box2 hbx
       have NE1 := Lib.hid ne1
       have HCALL := Lib.hid (hcall wr.drew (HBW.out.trans ((hbel.mono hB).drew)))
       have HPAR := Lib.hid (And.intro hpk (And.intro hpx (And.intro psk (And.intro psc (And.intro pss (And.intro pap plt))))))
       have HTR := Lib.hid (And.intro hbx (And.intro hkt (And.intro htr hP)))
       have HROW := Lib.hid hrow
       have HBEL := Lib.hid hbel1
       clear hbel1 hcell hcall hkt hpk hpc hpx psk psc pss pap plt hrow hcl ne1 hbx htr hP hbel
       go_wp2_with fail
       go_region_law
         (first
           | ((refine step_append_lies _ (by rfl) _ _ _ (by rfl) (w'.heap.size + 1) 26 i0 _ 2 48 Try.underlying24 hi0 hz0 hz1 hz2 rfl (by omega) _ j _ (by rfl) (H6.out.2.2.2.alloc _) ⟨w6.heap.size, 0, none⟩ 1 1 [.slice p1 p2 p3, .slice p4 p5 p6] (by rfl) (by rfl) (World.news_of_block (cs := #[.slice p1 p2 p3, .slice p4 p5 p6]) (t := 26) (fr := (0, 0)) (heap_alloc_new w6 _)) (by simp [Value.oneCell']) (by omega) (by unfold maxLen; omega) (by omega) (by simp; omega) (w6.heap.size + 1) (by simp) ?_; intro gg cap7 w7 hown7 hgrow7 hat7 hlt7; have v7c := (hgrow7.cell_far ⟨w2.heap.size, 1, none⟩ (by simp; omega) NE1.out).trans t2; have v7f := (hgrow7.frozen_far ⟨w2.heap.size, 1, none⟩ (by simp; omega) NE1.out).trans t4; have H7 := Lib.hid (And.intro hown7 (And.intro hgrow7 hat7)); clear hown7 hgrow7 hat7))
           | (go_simp; go_at_call 56; refine HCALL.out.mono ?_; rintro e w6 ⟨xk, xc, Q, rfl, htr6, hb6⟩; obtain ⟨p1, p2, p3, p4, p5, p6, rfl, rfl⟩ := htr6.tree.slices; have hs6 : wr.heap.size ≤ w6.heap.size := hb6.size; have j6 := (hb6.block w2.heap.size (by simp; omega)).trans HTR.out.1; obtain ⟨z1, z2, z3, z4⟩ := box2 j6; obtain ⟨t1, t2, t3, t4⟩ := box2 ((old_blk w6 (.cells #[.slice p1 p2 p3, .slice p4 p5 p6] 26) _ (by omega)).trans j6); have hr6 := ownsRow_same HROW.out (fun k h1 h2 => hb6.block k (by simp; omega)); have H6 := Lib.hid (And.intro htr6 (And.intro hb6 (And.intro j6 hr6))); clear htr6 hb6 j6 hr6))
       all_goals (
         go_wp2_with fail
         go_roundw
         case rel =>
           obtain ⟨P', g1, g2, g3, g4⟩ := treeO_step HTR.out.1 hlt HTR.out.2.1 (by omega) HTR.out.2.2.1 HTR.out.2.2.2 H6.out.1 (below_undrew H6.out.2.1) HPAR.out H7.out.1 H7.out.2.1 H7.out.2.2
           exact ⟨j + 1, _, P', by omega, by go_num, g1, g2, g3, HBEL.out.trans g4⟩
         case measure => simp [intOf]; omega)
     · obtain rfl : j = cs.length := by omega
       rw [List.take_length] at htr
       obtain ⟨_, _, va, vc, -, rfl⟩ := htr.shown
       have hrb := (hbel1.block w'.heap.size (by omega)).trans HB1.out.2.1
       obtain ⟨u1, u2, u3, u4⟩ := box2 hbx
       obtain ⟨r1, r2, r3, r4⟩ := box2 hrb
       have hszr := hbel.size
       have HTR := Lib.hid htr
       have HBEL := Lib.hid hbel
       have HRB := Lib.hid hrb
       clear htr hbel hbel1 hbx hrb
       go_wp2_with fail
       obtain ⟨wf, hwf⟩ : ∃ wf, wf = (wr.setCell ⟨w'.heap.size, 0, none⟩ (.slice a2 ks.length q2)).setCell ⟨w'.heap.size, 1, none⟩ (.slice va cs.length vc) := ⟨_, rfl⟩
       have hfb : wf.heap[w'.heap.size]? = some (.cells #[.slice a2 ks.length q2, .slice va cs.length vc] 26 (0, 0)) := by
         rw [hwf]; exact set_blk (o := 1) _ (set_blk (o := 0) _ HRB.out)
       obtain ⟨d1, d2, d3, d4⟩ := box2 hfb
       rw [← hwf]
       refine bodyPost_ret (v := .agg #[.slice a2 ks.length q2, .slice va cs.length vc]) (by simp [results, Try.results56, go_sem, d1, d2]) rfl ⟨_, _, P, rfl, ?_, ?_⟩
       · exact (HTR.out.same (w' := wf) (by rw [hwf]; simp) (fun q e => by have := (HTR.out.lt q e).1; rw [hwf, set_other _ _ _ _ _ (by omega), set_other _ _ _ _ _ (by omega)])).lower (by omega)
       · rw [hwf]; exact (HBEL.out.setCell (by show w'.heap.size ≤ w'.heap.size; omega) _).setCell (by show w'.heap.size ≤ w'.heap.size; omega) _
end Go.Proofs.Ytananonjomfpkaa
