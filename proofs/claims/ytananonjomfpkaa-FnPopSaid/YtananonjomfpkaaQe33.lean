/- The contract of the model's l4Greatest: the greatest key of a tree. -/
import Derived.Test.YtananonjomfpkaaQeS12
import Derived.Test.YtananonjomfpkaaQe32
/- What the model's l4Repair asks of its parts: boxes, the two kids at a place, trees that are read. -/
namespace Go.Proofs.Ytananonjomfpkaa
open Go.RowKit
theorem Td.tree {w : World} {F : Cells} {kv cv : Value} {t : Tr} (h : Td w F kv cv t) : TreeIn w w.heap.size kv cv t := by
 induction h with
 | mk ks kids F Fk Fc kv cv hkr hc hkids sk sc ss ap lt ih =>
   obtain ⟨_, a, cap, rfl, h1, h2, h3, h4⟩ := hc
   rw [List.length_map] at h1 ⊢
   have e1 : kids.length = (kids.map KidT.t).length := by simp
   rw [e1] at h1 ⊢
   refine .mk ks (kids.map KidT.t) _ a cap (fun i => ((kids.map KidT.pair).getD i (undef, undef)).1) (fun i => ((kids.map KidT.pair).getD i (undef, undef)).2) (rowF_in hkr) h1 h2 ?_ (fun i hi => ?_)
   · rcases h4 with h4 | ⟨b, o, rfl, g1, g2⟩
     · left; omega
     · by_cases h0 : kids.length = 0
       · left; simpa using h0
       · refine .inr ⟨b, o, rfl, lt_of_there (o := o + 0) (g1 0 (by rw [← e1] at h1; omega)).2.1, fun i hi => ?_⟩
         rw [List.length_map] at hi
         have := g2 i (by simpa using hi)
         simpa [hi] using this
   · rw [List.length_map] at hi
     have := ih kids[i] (List.getElem_mem hi)
     simpa [hi, KidT.pair] using this
theorem box3 {w : World} {b : Nat} {x y z : Value} {t : TypeId} (h : w.heap[b]? = some (.cells #[x, y, z] t (0, 0))) :
   w.cell? ⟨b, 0, none⟩ = some x ∧ w.cell? ⟨b, 1, none⟩ = some y ∧ w.cell? ⟨b, 2, none⟩ = some z ∧ w.frozen? ⟨b, 0, none⟩ = false ∧ w.frozen? ⟨b, 1, none⟩ = false ∧ w.frozen? ⟨b, 2, none⟩ = false := by
 refine ⟨?_, ?_, ?_, ?_, ?_, ?_⟩ <;> simp [World.cell?, World.frozen?, h]
theorem two_blk {w : World} {b : Nat} {o0 o1 : Value} {t : TypeId} (h : w.heap[b]? = some (.cells #[o0, o1] t (0, 0))) (v0 v1 : Value) :
   ((w.setCell ⟨b, 0, none⟩ v0).setCell ⟨b, 1, none⟩ v1).heap[b]? = some (.cells #[v0, v1] t (0, 0)) := by
 have := set_blk (o := 1) v1 (set_blk (o := 0) v0 h)
 rw [this]; simp
theorem three_blk {w : World} {b : Nat} {o0 o1 o2 : Value} {t : TypeId} (h : w.heap[b]? = some (.cells #[o0, o1, o2] t (0, 0))) (v0 v1 v2 : Value) :
   (((w.setCell ⟨b, 0, none⟩ v0).setCell ⟨b, 1, none⟩ v1).setCell ⟨b, 2, none⟩ v2).heap[b]? = some (.cells #[v0, v1, v2] t (0, 0)) := by
 have := set_blk (o := 2) v2 (set_blk (o := 1) v1 (set_blk (o := 0) v0 h))
 rw [this]; simp
structure Four (W : World) (n : Nat) (kv cv : Value) (b j : Int) (sh : Bool) : Prop where
 node : W.heap[n]? = some (.cells #[kv, cv] 26 (0, 0))
 rep : W.heap[n + 1]? = some (.cells #[.int .i64 b, .int .i64 j, .bool sh] 52 (0, 0))
 out : W.heap[n + 2]? = some (.cells #[.slice none 0 0, .slice none 0 0] 26 (0, 0))
 outr : W.heap[n + 3]? = some (.cells #[.int .i64 0, .int .i64 0, .bool false] 52 (0, 0))
theorem Four.keep {W W' : World} {n : Nat} {kv cv : Value} {b j : Int} {sh : Bool} {G : Cells} (h : Four W n kv cv b j sh) (hk : KeptF G W W') (hG : ∀ q o, G q o → q < n ∨ n + 4 ≤ q) : Four W' n kv cv b j sh :=
 ⟨hk.block' h.node (fun o e => by have := hG _ o e; omega), hk.block' h.rep (fun o e => by have := hG _ o e; omega), hk.block' h.out (fun o e => by have := hG _ o e; omega), hk.block' h.outr (fun o e => by have := hG _ o e; omega)⟩
theorem Four.made (w : World) (kv cv : Value) (b j : Int) (sh : Bool) : Four ((((w.alloc (.cells #[kv, cv] 26)).alloc (.cells #[.int .i64 b, .int .i64 j, .bool sh] 52)).alloc (.cells #[.slice none 0 0, .slice none 0 0] 26)).alloc (.cells #[.int .i64 0, .int .i64 0, .bool false] 52)) w.heap.size kv cv b j sh := by
 refine ⟨?_, ?_, ?_, ?_⟩
 · rw [old_blk _ _ _ (by simp <;> omega), old_blk _ _ _ (by simp <;> omega), old_blk _ _ _ (by simp), new_blk]
 · rw [old_blk _ _ _ (by simp <;> omega), old_blk _ _ _ (by simp <;> omega), show w.heap.size + 1 = (w.alloc (.cells #[kv, cv] 26)).heap.size by simp, new_blk]
 · rw [old_blk _ _ _ (by simp <;> omega), show w.heap.size + 2 = ((w.alloc (.cells #[kv, cv] 26)).alloc (.cells #[.int .i64 b, .int .i64 j, .bool sh] 52)).heap.size by simp, new_blk]
 · rw [show w.heap.size + 3 = (((w.alloc (.cells #[kv, cv] 26)).alloc (.cells #[.int .i64 b, .int .i64 j, .bool sh] 52)).alloc (.cells #[.slice none 0 0, .slice none 0 0] 26)).heap.size by simp, new_blk]
structure Ends (W W' : World) (n : Nat) (kv cv : Value) (b j : Int) (sh : Bool) : Prop where
 c0 : W'.cell? ⟨n + 2, 0, none⟩ = some kv
 c1 : W'.cell? ⟨n + 2, 1, none⟩ = some cv
 d0 : W'.cell? ⟨n + 3, 0, none⟩ = some (.int .i64 b)
 d1 : W'.cell? ⟨n + 3, 1, none⟩ = some (.int .i64 j)
 d2 : W'.cell? ⟨n + 3, 2, none⟩ = some (.bool sh)
 kept : KeptF (fun x _ => x = n + 2 ∨ x = n + 3) W W'
theorem ends_a {W : World} {n : Nat} {o0 o1 p0 p1 p2 : Value} {t t' : TypeId} (h1 : W.heap[n + 2]? = some (.cells #[o0, o1] t (0, 0))) (h2 : W.heap[n + 3]? = some (.cells #[p0, p1, p2] t' (0, 0))) (kv cv : Value) (b j : Int) (sh : Bool) :
   Ends W (((((W.setCell ⟨n + 2, 0, none⟩ kv).setCell ⟨n + 2, 1, none⟩ cv).setCell ⟨n + 3, 0, none⟩ (.int .i64 b)).setCell ⟨n + 3, 1, none⟩ (.int .i64 j)).setCell ⟨n + 3, 2, none⟩ (.bool sh)) n kv cv b j sh := by
 have a1 := two_blk h1 kv cv
 have a2 : ((W.setCell ⟨n + 2, 0, none⟩ kv).setCell ⟨n + 2, 1, none⟩ cv).heap[n + 3]? = some (.cells #[p0, p1, p2] t' (0, 0)) := by rw [set_other _ _ _ _ _ (by omega), set_other _ _ _ _ _ (by omega)]; exact h2
 have a3 := three_blk a2 (.int .i64 b) (.int .i64 j) (.bool sh)
 have a4 : (((((W.setCell ⟨n + 2, 0, none⟩ kv).setCell ⟨n + 2, 1, none⟩ cv).setCell ⟨n + 3, 0, none⟩ (.int .i64 b)).setCell ⟨n + 3, 1, none⟩ (.int .i64 j)).setCell ⟨n + 3, 2, none⟩ (.bool sh)).heap[n + 2]? = some (.cells #[kv, cv] t (0, 0)) := by
   rw [set_other _ _ _ _ _ (by omega), set_other _ _ _ _ _ (by omega), set_other _ _ _ _ _ (by omega)]; exact a1
 obtain ⟨x1, x2, _, _⟩ := box2 a4
 obtain ⟨y1, y2, y3, _⟩ := box3 a3
 refine ⟨x1, x2, y1, y2, y3, ?_⟩
 refine (((((KeptF.setCell _ _ _ _ (.inl rfl)).trans ((KeptF.setCell (F := fun x _ => x = n + 2 ∨ x = n + 3) _ _ _ _ (.inl rfl)).mono (fun _ _ _ h => .inl h))).trans ((KeptF.setCell (F := fun x _ => x = n + 2 ∨ x = n + 3) _ _ _ _ (.inr rfl)).mono (fun _ _ _ h => .inl h))).trans ((KeptF.setCell (F := fun x _ => x = n + 2 ∨ x = n + 3) _ _ _ _ (.inr rfl)).mono (fun _ _ _ h => .inl h))).trans ((KeptF.setCell (F := fun x _ => x = n + 2 ∨ x = n + 3) _ _ _ _ (.inr rfl)).mono (fun _ _ _ h => .inl h)))
theorem ends_b {W : World} {n : Nat} {o0 o1 p0 p1 p2 : Value} {t t' : TypeId} (h1 : W.heap[n + 2]? = some (.cells #[o0, o1] t (0, 0))) (h2 : W.heap[n + 3]? = some (.cells #[p0, p1, p2] t' (0, 0))) (kv cv : Value) (b j : Int) (sh : Bool) :
   Ends W (((((W.setCell ⟨n + 3, 0, none⟩ (.int .i64 b)).setCell ⟨n + 3, 1, none⟩ (.int .i64 j)).setCell ⟨n + 3, 2, none⟩ (.bool sh)).setCell ⟨n + 2, 0, none⟩ kv).setCell ⟨n + 2, 1, none⟩ cv) n kv cv b j sh := by
 have a1 := three_blk h2 (.int .i64 b) (.int .i64 j) (.bool sh)
 have a2 : (((W.setCell ⟨n + 3, 0, none⟩ (.int .i64 b)).setCell ⟨n + 3, 1, none⟩ (.int .i64 j)).setCell ⟨n + 3, 2, none⟩ (.bool sh)).heap[n + 2]? = some (.cells #[o0, o1] t (0, 0)) := by rw [set_other _ _ _ _ _ (by omega), set_other _ _ _ _ _ (by omega), set_other _ _ _ _ _ (by omega)]; exact h1
 have a3 := two_blk a2 kv cv
 have a4 : (((((W.setCell ⟨n + 3, 0, none⟩ (.int .i64 b)).setCell ⟨n + 3, 1, none⟩ (.int .i64 j)).setCell ⟨n + 3, 2, none⟩ (.bool sh)).setCell ⟨n + 2, 0, none⟩ kv).setCell ⟨n + 2, 1, none⟩ cv).heap[n + 3]? = some (.cells #[.int .i64 b, .int .i64 j, .bool sh] t' (0, 0)) := by
   rw [set_other _ _ _ _ _ (by omega), set_other _ _ _ _ _ (by omega)]; exact a1
 obtain ⟨x1, x2, _, _⟩ := box2 a3
 obtain ⟨y1, y2, y3, _⟩ := box3 a4
 refine ⟨x1, x2, y1, y2, y3, ?_⟩
 refine (((((KeptF.setCell _ _ _ _ (.inr rfl)).trans ((KeptF.setCell (F := fun x _ => x = n + 2 ∨ x = n + 3) _ _ _ _ (.inr rfl)).mono (fun _ _ _ h => .inl h))).trans ((KeptF.setCell (F := fun x _ => x = n + 2 ∨ x = n + 3) _ _ _ _ (.inr rfl)).mono (fun _ _ _ h => .inl h))).trans ((KeptF.setCell (F := fun x _ => x = n + 2 ∨ x = n + 3) _ _ _ _ (.inl rfl)).mono (fun _ _ _ h => .inl h))).trans ((KeptF.setCell (F := fun x _ => x = n + 2 ∨ x = n + 3) _ _ _ _ (.inl rfl)).mono (fun _ _ _ h => .inl h)))
theorem Ends.drew {W W' : World} {n : Nat} {kv cv : Value} {b j : Int} {sh : Bool} (h : Ends W W' n kv cv b j sh) : Ends W W'.drew n kv cv b j sh :=
 ⟨h.c0, h.c1, h.d0, h.d1, h.d2, h.kept.trans ((KeptF.drew _ _).mono (fun _ _ _ h => h))⟩
def Restored (w : World) (F : Cells) (D : Tr.Del) (sh : Bool) (e : Ending) (w' : World) : Prop :=
 ∃ (kv cv : Value) (F' : Cells), e = .returned (.tuple #[.agg #[kv, cv], .agg #[.int .i64 (D.b : Int), .int .i64 (D.j : Int), .bool sh]]) ∧ Td w' F' kv cv D.t ∧ (∀ x o, F' x o → F x o ∨ w.heap.size ≤ x) ∧ KeptF F w w'
structure Node4 (w : World) (F Fk Fc : Cells) (kv cv : Value) (k : List Int) (kids : List KidT) : Prop where
 hk : RowF w Fk kv (k.map (Value.int .i64))
 hc : RowT w Fc cv (kids.map KidT.pair)
 hkids : ∀ z, z ∈ kids → Td w z.F z.kv z.cv z.t
 sk : ∀ q o, Fk q o → F q o
 sc : ∀ q o, Fc q o → F q o
 ss : ∀ z, z ∈ kids → ∀ q o, z.F q o → F q o
 ap : (Fk :: Fc :: kids.map KidT.F).Pairwise Apart
 lt : ∀ q o, F q o → q < w.heap.size
theorem Node4.keep {w W : World} {F Fk Fc : Cells} {kv cv : Value} {k : List Int} {kids : List KidT} (h : Node4 w F Fk Fc kv cv k kids) (hk : KeptF (fun _ _ => False) w W) : Node4 W F Fk Fc kv cv k kids :=
 ⟨h.hk.keep hk (fun _ _ _ e => e), h.hc.keep hk (fun _ _ _ e => e), fun z hz => (h.hkids z hz).keep hk (fun _ _ _ e => e), h.sk, h.sc, h.ss, h.ap, fun q o e => Nat.lt_of_lt_of_le (h.lt q o e) hk.size⟩
theorem Wrought.of_sub {w : World} {F : Cells} {t t' : Tr} (h : t = t') : ∀ e w', Wrought w F t e w' → Wrought w F t' e w' := fun e w' hh => h ▸ hh
theorem callJoin {w : World} {F Fk Fc : Cells} {kv cv : Value} {k : List Int} {kids : List KidT} (h : Node4 w F Fk Fc kv cv k kids) (i : Nat) (hi : i + 1 < kids.length) (hkc : kids.length = k.length + 1) (hn : kids.length ≤ 100000)
   (hsz : ∀ z, z ∈ kids → z.t.ks.length ≤ 100000 ∧ z.t.cs.length ≤ 100000 ∧ Tr.Shaped z.t) : Calls Try.prog 146 #[.agg #[kv, cv], .int .i64 (i : Int)] w (Wrought w F (Tr.joined k (kids.map KidT.t) i)) := by
 obtain ⟨pre, x, y, post, hkl, hpl⟩ := two_mid hi
 subst hkl
 have zx := hsz x (by simp)
 have zy := hsz y (by simp)
 obtain ⟨CH, kidsx, kidsy, hcx, hcy, ho⟩ := openTwo_of (x := x) (y := y) (kx := x.t.ks) (ky := y.t.ks) (cx := x.t.cs) (cy := y.t.cs) (by cases x.t; rfl) (by cases y.t; rfl) h.hk h.hc h.hkids h.sk h.sc h.ss h.ap
 have lx : kidsx.length ≤ 100000 := by have := zx.2.1; rwa [hcx, List.length_map] at this
 have ly : kidsy.length ≤ 100000 := by have := zy.2.1; rwa [hcy, List.length_map] at this
 have hlen : (pre ++ x :: y :: post).length = pre.length + (2 + post.length) := by simp; omega
 have hc := l4Join_c w F CH kv cv k pre post x.kv x.cv x.t.ks kidsx y.kv y.cv y.t.ks kidsy ho (by omega) zx.1 zy.1 lx ly (by omega) (by omega)
 have he := Tr.joined_mid k (pre.map KidT.t) (post.map KidT.t) x.t y.t
 rw [hpl] at hc
 rw [List.length_map, hpl] at he
 refine hc.mono (Wrought.of_sub ?_)
 rw [show (pre ++ x :: y :: post).map KidT.t = pre.map KidT.t ++ x.t :: y.t :: post.map KidT.t by simp, he, hcx, hcy]
theorem callLeft {w : World} {F Fk Fc : Cells} {kv cv : Value} {k : List Int} {kids : List KidT} (h : Node4 w F Fk Fc kv cv k kids) (i : Nat) (hi : i + 1 < kids.length) (hkc : kids.length = k.length + 1) (hn : kids.length ≤ 100000)
   (hsz : ∀ z, z ∈ kids → z.t.ks.length ≤ 100000 ∧ z.t.cs.length ≤ 100000 ∧ Tr.Shaped z.t) (hy : 1 < (Tr.kidAt (kids.map KidT.t) (i + 1)).ks.length) :
   Calls Try.prog 145 #[.agg #[kv, cv], .int .i64 (i : Int)] w (Wrought w F (Tr.behind k (kids.map KidT.t) i)) := by
 obtain ⟨pre, x, y, post, hkl, hpl⟩ := two_mid hi
 subst hkl
 have zx := hsz x (by simp)
 have zy := hsz y (by simp)
 have em : (pre ++ x :: y :: post).map KidT.t = pre.map KidT.t ++ x.t :: y.t :: post.map KidT.t := by simp
 rw [em, show i = (pre.map KidT.t).length by rw [List.length_map, hpl], Tr.kidAt_mid1] at hy
 obtain ⟨CH, kidsx, kidsy, hcx, hcy, ho⟩ := openTwo_of (x := x) (y := y) (kx := x.t.ks) (ky := y.t.ks) (cx := x.t.cs) (cy := y.t.cs) (by cases x.t; rfl) (by cases y.t; rfl) h.hk h.hc h.hkids h.sk h.sc h.ss h.ap
 have hsh : kidsy.length ≠ 1 := by
   have h2 := zy.2.2
   have e : y.t.cs.length = kidsy.length := by rw [hcy, List.length_map]
   rcases h2 with h2 | h2 <;> omega
 have lx : kidsx.length ≤ 100000 := by have := zx.2.1; rwa [hcx, List.length_map] at this
 have ly : kidsy.length ≤ 100000 := by have := zy.2.1; rwa [hcy, List.length_map] at this
 have hlen : (pre ++ x :: y :: post).length = pre.length + (2 + post.length) := by simp; omega
 have hc := l4Left_c w F CH kv cv k pre post x.kv x.cv x.t.ks kidsx y.kv y.cv y.t.ks kidsy ho (by omega) hy hsh zx.1 zy.1 lx ly (by omega) (by omega)
 have he := Tr.behind_mid k (pre.map KidT.t) (post.map KidT.t) x.t y.t
 rw [hpl] at hc
 rw [List.length_map, hpl] at he
 refine hc.mono (Wrought.of_sub ?_)
 rw [em, he, hcx, hcy]
theorem callRight {w : World} {F Fk Fc : Cells} {kv cv : Value} {k : List Int} {kids : List KidT} (h : Node4 w F Fk Fc kv cv k kids) (i : Nat) (hi : i + 1 < kids.length) (hkc : kids.length = k.length + 1) (hn : kids.length ≤ 100000)
   (hsz : ∀ z, z ∈ kids → z.t.ks.length ≤ 100000 ∧ z.t.cs.length ≤ 100000 ∧ Tr.Shaped z.t) (hx : 0 < (Tr.kidAt (kids.map KidT.t) i).ks.length) :
   Calls Try.prog 144 #[.agg #[kv, cv], .int .i64 ((i + 1 : Nat) : Int)] w (Wrought w F (Tr.ahead k (kids.map KidT.t) i)) := by
 obtain ⟨pre, x, y, post, hkl, hpl⟩ := two_mid hi
 subst hkl
 have zx := hsz x (by simp)
 have zy := hsz y (by simp)
 have em : (pre ++ x :: y :: post).map KidT.t = pre.map KidT.t ++ x.t :: y.t :: post.map KidT.t := by simp
 rw [em, show i = (pre.map KidT.t).length by rw [List.length_map, hpl], Tr.kidAt_mid] at hx
 obtain ⟨CH, kidsx, kidsy, hcx, hcy, ho⟩ := openTwo_of (x := x) (y := y) (kx := x.t.ks) (ky := y.t.ks) (cx := x.t.cs) (cy := y.t.cs) (by cases x.t; rfl) (by cases y.t; rfl) h.hk h.hc h.hkids h.sk h.sc h.ss h.ap
 have hsh : kidsx.length = 0 ∨ kidsx.length = x.t.ks.length + 1 := by
   have h2 := zx.2.2
   have e : x.t.cs.length = kidsx.length := by rw [hcx, List.length_map]
   rcases h2 with h2 | h2
   · left; omega
   · right; omega
 have lx : kidsx.length ≤ 100000 := by have := zx.2.1; rwa [hcx, List.length_map] at this
 have ly : kidsy.length ≤ 100000 := by have := zy.2.1; rwa [hcy, List.length_map] at this
 have hlen : (pre ++ x :: y :: post).length = pre.length + (2 + post.length) := by simp; omega
 have hc := l4Right_c w F CH kv cv k pre post x.kv x.cv x.t.ks kidsx y.kv y.cv y.t.ks kidsy ho (by omega) hx hsh zx.1 zy.1 lx ly (by omega) (by omega)
 have he := Tr.ahead_mid k (pre.map KidT.t) (post.map KidT.t) x.t y.t hx
 rw [hpl] at hc
 rw [List.length_map, hpl] at he
 refine hc.mono (Wrought.of_sub ?_)
 rw [em, he, hcx, hcy]
end Go.Proofs.Ytananonjomfpkaa
/- The model's l4Delete at a leaf. -/
namespace Go.Proofs.Ytananonjomfpkaa
open Go.RowKit
theorem KeptF.alloc' {F : Cells} {w W : World} (h : KeptF F w W) (o : Obj) : KeptF F w (W.alloc o) := h.trans ((KeptF.alloc _ _ _).mono (fun _ _ _ e => e))
theorem KeptF.drew' {F : Cells} {w W : World} (h : KeptF F w W) : KeptF F w W.drew := h.trans ((KeptF.drew _ _).mono (fun _ _ _ e => e))
set_option maxRecDepth 100000 in
set_option maxHeartbeats 4000000 in
theorem l4DelLeaf_c (wide key : Int) (w : World) (F : Cells) (kv cv : Value) (k : List Int) (ht : Td w F kv cv (.mk k [])) (hp : place key k < k.length) (hk9 : k.length ≤ 100000) (bo jo : Nat) (sh : Bool) :
   Calls Try.prog 99 #[.agg #[kv, cv], .int .i64 wide, .int .i64 key, .agg #[.int .i64 (bo : Int), .int .i64 (jo : Int), .bool sh]] w (Restored w F ⟨.mk (takeAt k (place key k)) [], bo, jo⟩ sh) := by
 obtain ⟨kids, Fk, Fc, hkids0, hkr, hcr, hkids, sk, sc, ss, ap, hlt⟩ := ht.parts
 have hk0 : kids = [] := by
   cases kids with
   | nil => rfl
   | cons a r => simp at hkids0
 subst hk0
 clear hkids0 hkids ss ht
 obtain ⟨i, hi⟩ : ∃ i, i = place key k := ⟨_, rfl⟩
 rw [← hi] at hp ⊢
 obtain ⟨ca, ccap, hcv⟩ : ∃ a c, cv = .slice a 0 c := by
   obtain ⟨a, c, e⟩ := hcr.n.shown
   exact ⟨a, c, e⟩
 obtain ⟨kb, ko, kcap, rfl, k1, k2⟩ := hkr.n.addr (by simp; omega)
 simp only [List.length_map] at hkr k1 ⊢
 subst hcv
 obtain ⟨W1, hW1⟩ : ∃ W1, W1 = (((w.alloc (.cells #[.slice (some ⟨kb, ko, none⟩) k.length kcap, .slice ca 0 ccap] 26)).alloc (.cells #[.int .i64 (bo : Int), .int .i64 (jo : Int), .bool sh] 52)).alloc (.cells #[.slice none 0 0, .slice none 0 0] 26)).alloc (.cells #[.int .i64 0, .int .i64 0, .bool false] 52) := ⟨_, rfl⟩
 have hf1 := Four.made w (.slice (some ⟨kb, ko, none⟩) k.length kcap) (.slice ca 0 ccap) (bo : Int) (jo : Int) sh
 have hb1 : Below w.heap.size w W1 := by
   rw [hW1]
   exact ((((Below.refl _ _).alloc (Nat.le_refl _) _).alloc (by simp) _).alloc (by simp <;> omega) _).alloc (by simp <;> omega) _
 rw [← hW1] at hf1
 have hs1 : W1.heap.size = w.heap.size + 4 := by rw [hW1]; simp
 have hpl := l2Place_c W1 w.heap.size ((rowF_in hkr).later hb1 (Nat.le_refl _)) key
 rw [← hi] at hpl
 obtain ⟨x1, x2, x3, x4⟩ := box2 hf1.node
 have HPL := Lib.hid hpl
 have HW1 := Lib.hid hW1
 have HR := Lib.hid (And.intro hkr (And.intro hcr (And.intro sk (And.intro sc (And.intro ap hlt)))))
 have H1 := Lib.hid (And.intro hf1 (And.intro hb1 hs1))
 have HI := Lib.hid hi
 clear hpl hW1 hkr hcr sk sc ap hlt hf1 hb1 hi
 unfold maxLen at k2
 go_enter Try.func99, Try.ntmps99
 go_upto_region 1 with (fail)
 rw [← HW1.out]
 go_wp2_with fail
 refine HPL.out.mono ?_
 rintro e w2 ⟨rfl, hb2⟩
 have hs2 := hb2.size
 have hf2 := H1.out.1.keep (KeptF.of_below (F := fun _ _ => False) hb2 (Nat.le_refl _)) (fun q o e => e.elim)
 have hk2 : KeptF (fun _ _ => False) w w2 := KeptF.of_below (H1.out.2.1.trans (hb2.mono (by omega))) (Nat.le_refl _)
 clear x1 x2 x3 x4
 obtain ⟨x1, x2, x3, x4⟩ := box2 hf2.node
 obtain ⟨y1, y2, y3, y4, y5, y6⟩ := box3 hf2.rep
 have hrow := HR.out.1.keep hk2 (fun _ _ _ e => e)
 have hsz2 : w.heap.size + 4 ≤ w2.heap.size := by omega
 have ci := (RowF.cells_of hrow (by omega)).2.2.2.2 i (by simpa using hp)
 rw [List.getElem_map] at ci
 obtain ⟨ki, hki⟩ : ∃ ki, ki = k[i] := ⟨_, rfl⟩
 rw [← hki] at ci
 have hless := l4Less_c w2 w2.heap.size (.slice (some ⟨kb, ko, none⟩) k.length kcap) k i (rowF_in hrow) (Nat.le_refl _) hp (by omega)
 have HLESS := Lib.hid hless
 have H2 := Lib.hid (And.intro hf2 (And.intro hk2 hrow))
 have hii : (i : Int) < (k.length : Int) := by omega
 have hi0 : (0 : Int) ≤ (i : Int) := by omega
 clear hf2 hk2 hrow hless hb2 hs1 hs2 hki
 go_upto_region 2 with (fail)
 go_cut [11] from 14 (fun s11 wx => ∃ B, s11 = .bool B ∧ wx = w2)
 case first =>
   by_cases he : ki = key
   · go_wp2_with fail
     go_meet
     exact ⟨_, rfl, rfl⟩
   · go_wp2_with fail
     go_meet
     exact ⟨_, rfl, rfl⟩
 case rest =>
 obtain ⟨B, rfl, rfl⟩ := hcut
 rename World => w2
 go_upto_region 4 with (fail)
 go_wp2_with fail
 refine HLESS.out.mono ?_
 rintro e w3 ⟨v3, rfl, hown3, hb3⟩
 obtain ⟨a3, c3, rfl⟩ := IntsOwn.shown hown3
 obtain ⟨L3, hL3⟩ : ∃ L3, L3 = (takeAt k i).length := ⟨_, rfl⟩
 rw [← hL3] at hown3 ⊢
 have hk3 := KeptF.of_below (F := fun _ _ => False) hb3 (Nat.le_refl _)
 have hf3 := H2.out.1.keep hk3 (fun q o e => e.elim)
 obtain ⟨W4, hW4⟩ : ∃ W4, W4 = w3.setCell ⟨w.heap.size, 0, none⟩ (.slice a3 L3 c3) := ⟨_, rfl⟩
 have hf4 : Four W4 w.heap.size (.slice a3 L3 c3) (.slice ca 0 ccap) (bo : Int) (jo : Int) sh := by
   refine ⟨?_, by rw [hW4, set_other _ _ _ _ _ (by omega)]; exact hf3.rep, by rw [hW4, set_other _ _ _ _ _ (by omega)]; exact hf3.out, by rw [hW4, set_other _ _ _ _ _ (by omega)]; exact hf3.outr⟩
   rw [hW4, set_blk (o := 0) _ hf3.node]; simp
 have hk4 : KeptF (fun x _ => x = w.heap.size) w3 W4 := by rw [hW4]; exact KeptF.setCell _ _ _ _ rfl
 clear x1 x2 x3 x4 y1 y2 y3 y4 y5 y6
 obtain ⟨x1, x2, x3, x4⟩ := box2 hf3.node
 have H4 := Lib.hid (And.intro hf4 (And.intro hk4 (And.intro hk3 (And.intro hown3 hL3))))
 have HW4 := Lib.hid hW4
 clear hf4 hk4 hk3 hown3 hL3 hW4 hf3 hb3
 go_upto_region 5 with (fail)
 rw [← HW4.out]
 clear x1 x2 x3 x4
 obtain ⟨x1, x2, x3, x4⟩ := box2 H4.out.1.node
 obtain ⟨y1, y2, y3, y4, y5, y6⟩ := box3 H4.out.1.rep
 obtain ⟨g1, g2, g3, g4⟩ := box2 H4.out.1.out
 obtain ⟨h1, h2, h3, h4, h5, h6⟩ := box3 H4.out.1.outr
 go_region_law (fail)
 all_goals (
   go_wp2_with fail
   clear x1 x2 x3 x4 y1 y2 y3 y4 y5 y6 g1 g2 g3 g4 h1 h2 h3 h4 h5 h6
   generalize hW : World.drew _ = W8
   have he : Ends W4 W8 w.heap.size (.slice a3 L3 c3) (.slice ca 0 ccap) (bo : Int) (jo : Int) sh := by
     rw [← hW]
     first
       | exact (ends_a H4.out.1.out H4.out.1.outr _ _ _ _ _).drew
       | exact (ends_b H4.out.1.out H4.out.1.outr _ _ _ _ _).drew
   obtain ⟨q1, q2, q3, q4, q5, hk⟩ := he
   have HK := Lib.hid hk
   clear hk hW
   refine bodyPost_ret (v := .tuple #[.agg #[.slice a3 L3 c3, .slice ca 0 ccap], .agg #[.int .i64 (bo : Int), .int .i64 (jo : Int), .bool sh]]) (by simp [results, Try.results99, go_sem, q1, q2, q3, q4, q5]) rfl ?_
   obtain ⟨hf4, hk4, hk3, hown3, hL3⟩ := H4.out
   obtain ⟨hkr, hcr, sk, sc, ap, hlt⟩ := HR.out
   have hz3 := hk3.size
   have hz4 := hk4.size
   have hkall : KeptF (fun x _ => w.heap.size ≤ x) w W8 := by
     have a1 := H2.out.2.1.mono (G := fun x _ => w.heap.size ≤ x) (fun _ _ _ e => e.elim)
     have a2 := a1.trans (hk3.mono (fun _ _ _ e => e.elim))
     have a3 := a2.trans (hk4.mono (fun q o _ e => .inl (by have e' : q = w.heap.size := e; omega)))
     exact a3.trans (HK.out.mono (fun q o _ e => .inl (by omega)))
   have hown8 : RowF W8 (fun x _ => (Value.slice a3 L3 c3).ownBlock = some x) (.slice a3 L3 c3) ((takeAt k i).map (Value.int .i64)) := by
     rw [hL3] at hown3 ⊢
     have h0 := RowF.of_owns hown3
     have hl3 := hown3.lt
     refine (h0.keep hk4 (fun q o a e => ?_)).keep HK.out (fun q o a e => ?_)
     · have e' : q = w.heap.size := e
       have := (hl3 q a).1; omega
     · have := (hl3 q a).1; omega
   have hc8 := hcr.keep hkall (fun q o a e => by have := hlt q o (sc q o a); omega)
   have hT := Td.build (kids := []) hown8 hc8 (fun z hz => by cases hz) (by
     refine List.pairwise_cons.2 ⟨fun G hG => ?_, List.pairwise_cons.2 ⟨fun G hG => (by cases hG), List.Pairwise.nil⟩⟩
     simp at hG
     subst hG
     intro q o a e
     have h1 := hlt q o (sc q o e)
     have h2 := (hown3.lt q a).1
     omega)
   refine ⟨_, _, _, rfl, hT, fun q o a => ?_, ?_⟩
   · rcases a with a | a | ⟨z, hz, _⟩
     · right; have := (hown3.lt q a).1; omega
     · exact .inl (sc q o a)
     · cases hz
   · have := hkall.below (B := w.heap.size) (Nat.le_refl _) (fun x o h => h)
     exact KeptF.of_below this (Nat.le_refl _))
end Go.Proofs.Ytananonjomfpkaa
/- The contract of the model's l4Greatest: the greatest key of a tree. -/
namespace Go.Proofs.Ytananonjomfpkaa
open Go.RowKit
set_option maxRecDepth 100000 in
set_option maxHeartbeats 4000000 in
theorem specGreatest_c {w : World} {B : Nat} {kv cv : Value} {t : Tr} (ht : TreeIn w B kv cv t) (hf : Tr.Full t) (hw : t.weight ≤ 1048576) (w' : World) (hbw : Below B w w') (hB : B ≤ w'.heap.size) :
   Calls Try.prog 125 #[.agg #[kv, cv]] w' fun e w'' => e = .returned (.int .i64 t.greatest) ∧ Below w'.heap.size w' w'' := by
 obtain ⟨a5, n5, m5, a6, n6, m6, rfl, rfl⟩ := ht.slices
 obtain ⟨W1, hW1⟩ : ∃ W1, W1 = w'.alloc (.cells #[.slice a5 n5 m5, .slice a6 n6 m6] 26) := ⟨_, rfl⟩
 have hs1 : W1.heap.size = w'.heap.size + 1 := by rw [hW1]; simp
 have hb1 : Below w'.heap.size w' W1 := by rw [hW1]; exact (Below.refl _ _).alloc (Nat.le_refl _) _
 have kb : W1.heap[w'.heap.size]? = some (.cells #[.slice a5 n5 m5, .slice a6 n6 m6] 26 (0, 0)) := by rw [hW1, new_blk]
 have HT := Lib.hid ht
 have HBW := Lib.hid hbw
 have HW1 := Lib.hid hW1
 have H1 := Lib.hid (And.intro hb1 kb)
 have HF := Lib.hid hf
 clear ht hbw hW1 hb1 kb hf
 go_enter Try.func125, Try.ntmps125
 go_wp2_with fail
 rw [← HW1.out]
 go_loopg [] t.weight (fun k wr => ∃ (tr : Tr) (kvr cvr : Value), wr.heap[w'.heap.size]? = some (.cells #[kvr, cvr] 26 (0, 0)) ∧ TreeIn w B kvr cvr tr ∧ Tr.Full tr ∧
   tr.weight ≤ k ∧ tr.greatest = t.greatest ∧ Below w'.heap.size w' wr ∧ tr.weight ≤ 1048576)
 case atStart => exact ⟨t, _, _, H1.out.2, HT.out, HF.out, Nat.le_refl _, rfl, H1.out.1, hw⟩
 case round =>
   obtain ⟨tr, kvr, cvr, hbox, htr, hfl, hk, hgr, hbel, hwt⟩ := hrel
   cases tr with
   | mk ks cs =>
   obtain ⟨a, cap, kvs, cvs, rfl, hki, hlen, hcap, hat, hkids⟩ := htr.parts
   obtain ⟨ka, kcap, rfl, k1, k2, k3, k4⟩ := hki
   have hsr := hbel.size
   have hlt := (Array.getElem?_eq_some_iff.1 hbox).1
   have hBr : Below B w wr := HBW.out.trans (hbel.mono hB)
   have hkn := hfl.keys
   have hki4 : IntsIn wr B (.slice ka ks.length kcap) ks := IntsIn.later ⟨ka, kcap, rfl, k1, k2, k3, k4⟩ hBr (Nat.le_refl _)
   unfold maxLen at k2 hcap
   have hl0 := Tr.length_le_weights cs
   have hwt' := hwt
   simp only [Tr.weight] at hwt'
   cases hcl : cs.length with
   | zero =>
     obtain ⟨m, hm⟩ : ∃ m, ks.length = m + 1 := ⟨ks.length - 1, by omega⟩
     have hg := Tr.greatest_leaf (k := ks) hcl
     rw [hm, Nat.add_sub_cancel] at hg
     obtain ⟨_, _, hv, _, _, _, h⟩ := hki4
     injection hv with e1 _ e3
     subst e1 e3
     rcases h with h | ⟨b, off, rfl, hb, hat4⟩
     · exact absurd (by rw [h]; rfl) hkn
     have ha' : wr.cell? ⟨b, off + m, none⟩ = some (.int .i64 (ks.getD m 0)) := hat4 m (by omega)
     rw [← hg, hgr] at ha'
     rw [hm, hcl] at hbox
     rw [hm] at k1
     have HBEL := Lib.hid hbel
     obtain ⟨x1, x2, x3, x4⟩ := box2 hbox
     clear hat4 hg hat hkids htr hfl hk hbel hgr hBr hbox k4 hm hkn hwt hwt' hl0 hcl
     go_wp2_with fail
     go_ret
     exact ⟨rfl, HBEL.out⟩
   | succ m =>
     have hic : m < cs.length := by omega
     have hgi := Tr.greatest_inner (k := ks) (cs := cs) (by omega)
     obtain ⟨ka5, kn5, kc5, ca5, cn5, cc5, hkv5, hcv5⟩ := (hkids m hic).slices
     rcases hat with h | ⟨kb5, ko5, rfl, hkb5, hkat5⟩
     · omega
     have hka := (hkat5 m hic).1
     have hkc := (hkat5 m hic).2
     rw [hkv5] at hka
     rw [hcv5] at hkc
     have z1 := (below_cell hBr hkb5).trans hka
     have z2 := (below_cell hBr hkb5).trans hkc
     have hgm : cs[m].greatest = t.greatest := by
       rw [← hgr, hgi]; congr 1; simp [hcl]
     rw [hcl] at hbox hlen
     obtain ⟨x1, x2, x3, x4⟩ := box2 hbox
     have HKV5 := Lib.hid (And.intro hkv5 hcv5)
     have HR := Lib.hid (And.intro hbox (And.intro hkids (And.intro hfl (And.intro hk (And.intro hbel (And.intro hgm hBr))))))
     have HCL := Lib.hid hcl
     clear hka hkc hkat5 hkv5 hcv5 hbox hkids hfl hk hbel hgm hBr hgi hgr htr hki4 k4 hcl
     go_wp2_with fail
     go_roundg cs[m].weight
     case measure => have h := HR.out.2.2.2.1; simp only [Tr.weight] at h; have := Tr.weight_get_le cs m hic; omega
     case rel =>
       refine ⟨cs[m], _, _, set_blk _ (set_blk _ HR.out.1), ?_, Tr.Tops.kid HR.out.2.2.1.tops m hic, Nat.le_refl _, HR.out.2.2.2.2.2.1, ?_, ?_⟩
       · rw [← HKV5.out.1, ← HKV5.out.2]; exact HR.out.2.1 m hic
       · exact (HR.out.2.2.2.2.1.setCell (Nat.le_refl _) _).setCell (Nat.le_refl _) _
       · have := Tr.weight_get_le cs m hic; omega
end Go.Proofs.Ytananonjomfpkaa
