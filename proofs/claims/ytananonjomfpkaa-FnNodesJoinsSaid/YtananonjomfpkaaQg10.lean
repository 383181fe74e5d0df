/- Trees of the model whose rows are their own, up to the capacity: what the model changes in place. -/
import Derived.Test.YtananonjomfpkaaQg9
import Derived.ArgAppend
/- Finding: the nodes on the way to a number, as plain data. -/
namespace Go.Proofs.Ytananonjomfpkaa
open Go.RowKit
namespace Tr
mutual
def way (c : Int) : Tr → List Tr
 | .mk k cs => .mk k cs :: (ways c cs).getD (place c k) []
def ways (c : Int) : List Tr → List (List Tr)
 | [] => []
 | t :: r => way c t :: ways c r
end
theorem ways_get (c : Int) (cs : List Tr) (i : Nat) (h : i < cs.length) : (ways c cs).getD i [] = cs[i].way c := by
 induction cs generalizing i with
 | nil => simp at h
 | cons t r ih =>
   cases i with
   | zero => simp [ways]
   | succ i => simpa [ways] using ih i (by simpa using h)
theorem ways_length (c : Int) (cs : List Tr) : (ways c cs).length = cs.length := by
 induction cs with
 | nil => rfl
 | cons t r ih => simp only [ways, List.length_cons, ih]
theorem way_leaf {c : Int} {k : List Int} {cs : List Tr} (h : cs.length = 0) : (Tr.mk k cs).way c = [.mk k cs] := by
 rw [way, List.getD_eq_getElem?_getD, List.getElem?_eq_none (by rw [ways_length]; omega)]; rfl
theorem way_inner {c : Int} {k : List Int} {cs : List Tr} (h : place c k < cs.length) : (Tr.mk k cs).way c = .mk k cs :: cs[place c k].way c := by
 rw [way, ways_get c cs _ h]
def hasAt (key : Int) (t : Tr) : Bool := decide (place key t.ks < t.ks.length ∧ t.ks.getD (place key t.ks) 0 = key)
def inner (t : Tr) : Bool := decide (t.cs.length ≠ 0)
def stepsOf (c : Int) (l : List Tr) : List Int := (l.filter inner).map (fun t => (place c t.ks : Int))
theorem stepsOf_snoc (c : Int) (l : List Tr) (t : Tr) : stepsOf c (l ++ [t]) = if t.cs.length ≠ 0 then stepsOf c l ++ [(place c t.ks : Int)] else stepsOf c l := by
 unfold stepsOf
 rw [List.filter_append]
 by_cases h : t.cs.length ≠ 0
 · have : inner t = true := by simp [inner]; intro h2; simp [h2] at h
   simp [h, this]
 · have : inner t = false := by simp only [inner, h]; rfl
   rw [if_neg h]; simp [this]
theorem way_path' (key : Int) : ∀ (n : Nat) (t : Tr), t.weight ≤ n → Well t →
   (∀ pre x, pre ++ [x] <+: t.way key → (∀ y ∈ pre, y.hasAt key = false) → x.hasAt key = true → t.path key = (stepsOf key pre, true)) ∧
   ((∀ y ∈ t.way key, y.hasAt key = false) → t.path key = (stepsOf key (t.way key), false)) := by
 intro n
 induction n with
 | zero =>
   rintro ⟨k, cs⟩ hn hw
   simp only [weight] at hn
   have hk : k.length = 0 := by omega
   have hc : cs.length = 0 := by have := length_le_weights cs; omega
   rw [way_leaf hc]
   have hno : ∀ x : Tr, x = .mk k cs → x.hasAt key = false := by
     rintro x rfl
     simp [hasAt, ks, List.length_eq_zero_iff.1 hk]
   refine ⟨fun pre x hp _ hx => ?_, fun _ => ?_⟩
   · have hxm : x = .mk k cs := by have := hp.subset (by simp : x ∈ pre ++ [x]); simpa using this
     rw [hno x hxm] at hx; cases hx
   · rw [path_leaf (by simp [List.length_eq_zero_iff.1 hk]) hc]
     simp [stepsOf, inner, Tr.cs, List.length_eq_zero_iff.1 hc]
 | succ n ih =>
   rintro ⟨k, cs⟩ hn hw
   by_cases hc : cs.length = 0
   · rw [way_leaf hc]
     refine ⟨fun pre x hp _ hx => ?_, fun h => ?_⟩
     · have hlen := hp.length_le
       simp at hlen
       subst hlen
       have hxm : x = .mk k cs := by have := hp.subset (by simp : x ∈ [] ++ [x]); simpa using this
       subst hxm
       rw [path_found (by simpa [hasAt, ks] using hx)]; rfl
     · have hx := h (.mk k cs) (by simp)
       rw [path_leaf (by simpa [hasAt, ks] using hx) hc]
       simp [stepsOf, inner, Tr.cs, List.length_eq_zero_iff.1 hc]
   · have hcl := Well.inner hw hc
     have hp := place_le key k
     have hi : place key k < cs.length := by omega
     rw [way_inner hi]
     have hwt := weight_get_le cs _ hi
     simp only [weight] at hn
     obtain ⟨ih1, ih2⟩ := ih cs[place key k] (by omega) (Well.kid hw _ hi)
     have hin : inner (.mk k cs) = true := by simp [inner, Tr.cs]; intro h; simp [h] at hc
     refine ⟨fun pre x hp hpre hx => ?_, fun h => ?_⟩
     · cases pre with
       | nil =>
         have hxm : x = .mk k cs := by
           obtain ⟨r, hr⟩ := hp
           simp at hr
           exact hr.1
         subst hxm
         rw [path_found (by simpa [hasAt, ks] using hx)]; rfl
       | cons y pre =>
         obtain ⟨r, hr⟩ := hp
         simp only [List.cons_append, List.cons.injEq] at hr
         obtain ⟨rfl, hr⟩ := hr
         have h0 := hpre (.mk k cs) (by simp)
         have h1 := ih1 pre x ⟨r, hr⟩ (fun y hy => hpre y (by simp [hy])) hx
         rw [path_inner (by simpa [hasAt, ks] using h0) hi, h1]
         simp [stepsOf, hin, ks]
     · have h0 := h (.mk k cs) (by simp)
       have h1 := ih2 (fun y hy => h y (by simp [hy]))
       rw [path_inner (by simpa [hasAt, ks] using h0) hi, h1]
       simp [stepsOf, hin, ks]
theorem way_path (key : Int) (t : Tr) (hw : Well t) :
   (∀ pre x, pre ++ [x] <+: t.way key → (∀ y ∈ pre, y.hasAt key = false) → x.hasAt key = true → t.path key = (stepsOf key pre, true)) ∧
   ((∀ y ∈ t.way key, y.hasAt key = false) → t.path key = (stepsOf key (t.way key), false)) := way_path' key t.weight t (Nat.le_refl _) hw
theorem way_all' (c : Int) : ∀ (n : Nat) (t : Tr), t.weight ≤ n → Well t → (t.way c).length ≤ t.weight + 1 ∧ ∀ x ∈ t.way c, Well x ∧ x.weight ≤ t.weight := by
 intro n
 induction n with
 | zero =>
   rintro ⟨k, cs⟩ hn hw
   simp only [weight] at hn
   have hc : cs.length = 0 := by have := length_le_weights cs; omega
   rw [way_leaf hc]
   exact ⟨by simp, fun x hx => by simp at hx; subst hx; exact ⟨hw, Nat.le_refl _⟩⟩
 | succ n ih =>
   rintro ⟨k, cs⟩ hn hw
   by_cases hc : cs.length = 0
   · rw [way_leaf hc]
     exact ⟨by simp, fun x hx => by simp at hx; subst hx; exact ⟨hw, Nat.le_refl _⟩⟩
   · have hcl := Well.inner hw hc
     have hp := place_le c k
     have hi : place c k < cs.length := by omega
     rw [way_inner hi]
     have hwt := weight_get_le cs _ hi
     simp only [weight] at hn ⊢
     obtain ⟨ih1, ih2⟩ := ih cs[place c k] (by omega) (Well.kid hw _ hi)
     refine ⟨by simp; omega, fun x hx => ?_⟩
     rcases List.mem_cons.1 hx with rfl | hx
     · exact ⟨hw, by simp only [weight]; omega⟩
     · have := ih2 x hx; exact ⟨this.1, by omega⟩
theorem way_all (c : Int) (t : Tr) (hw : Well t) : (t.way c).length ≤ t.weight + 1 ∧ ∀ x ∈ t.way c, Well x ∧ x.weight ≤ t.weight := way_all' c t.weight t (Nat.le_refl _) hw
theorem stepsOf_len (c : Int) (l : List Tr) : (stepsOf c l).length ≤ l.length := by
 unfold stepsOf; rw [List.length_map]; exact List.length_filter_le _ _
end Tr
end Go.Proofs.Ytananonjomfpkaa
/- Finding: the nodes on the way to a number, as they lie in memory. -/
namespace Go.Proofs.Ytananonjomfpkaa
open Go.RowKit
inductive NodeAt (w : World) (lo hi : Nat) : Nat → Tr → Prop where
 | mk (ks : List Int) (cs : List Tr) (b : Nat) (kv : Value) (a : Option Addr) (cap : Nat) (ps : Nat → Nat)
     (hlo : lo ≤ b) (hhi : b < hi)
     (hbox : w.heap[b]? = some (.cells #[kv, .slice a cs.length cap] 99 (0, 0)))
     (hk : IntsR w lo hi kv ks) (hlen : cs.length ≤ cap) (hcap : cap ≤ maxLen) (hat : PtrsR w lo hi a cs.length ps)
     (hkids : ∀ i (h : i < cs.length), NodeAt w lo hi (ps i) cs[i]) : NodeAt w lo hi b (.mk ks cs)
theorem NodeAt.parts {w : World} {lo hi b : Nat} {ks : List Int} {cs : List Tr} (h : NodeAt w lo hi b (.mk ks cs)) :
   ∃ (kv : Value) (a : Option Addr) (cap : Nat) (ps : Nat → Nat), lo ≤ b ∧ b < hi ∧ w.heap[b]? = some (.cells #[kv, .slice a cs.length cap] 99 (0, 0)) ∧ IntsR w lo hi kv ks ∧ cs.length ≤ cap ∧ cap ≤ maxLen ∧ PtrsR w lo hi a cs.length ps ∧
     ∀ i (h : i < cs.length), NodeAt w lo hi (ps i) cs[i] := by
 cases h with
 | mk _ _ _ kv a cap ps hlo hhi hbox hk hlen hcap hat hkids => exact ⟨kv, a, cap, ps, hlo, hhi, hbox, hk, hlen, hcap, hat, hkids⟩
theorem NodeAt.same {w w' : World} {lo hi b : Nat} {t : Tr} (h : NodeAt w lo hi b t) (hb : ∀ k, lo ≤ k → k < hi → w'.heap[k]? = w.heap[k]?) : NodeAt w' lo hi b t := by
 induction h with
 | mk ks cs b kv a cap ps hlo hhi hbox hk hlen hcap hat hkids ih =>
   exact .mk ks cs b kv a cap ps hlo hhi ((hb b hlo hhi).trans hbox) (hk.same hb) hlen hcap (hat.same hb) ih
structure Stop (w : World) (lo hi b : Nat) (t : Tr) (kv : Value) (a : Option Addr) (cap : Nat) : Prop where
 node : NodeAt w lo hi b t
 box : w.heap[b]? = some (.cells #[kv, .slice a t.cs.length cap] 99 (0, 0))
 keys : IntsR w lo hi kv t.ks
 low : lo ≤ b
 high : b < hi
 fits : t.cs.length ≤ cap
 cap : cap ≤ maxLen
 well : Tr.Well t
 light : t.weight ≤ 1048576
inductive WayIn (w : World) (lo hi : Nat) (c : Int) : Nat → Tr → List (Nat × Tr) → Prop where
 | leaf (b : Nat) (t : Tr) (kv : Value) (a : Option Addr) (cap : Nat) (hs : Stop w lo hi b t kv a cap) (h0 : t.cs.length = 0) : WayIn w lo hi c b t [(b, t)]
 | inner (b : Nat) (t : Tr) (kv : Value) (qb qo cap p : Nat) (u : Tr) (xs : List (Nat × Tr)) (hs : Stop w lo hi b t kv (some ⟨qb, qo, none⟩) cap) (h0 : t.cs.length = t.ks.length + 1)
     (q1 : lo ≤ qb) (q2 : qb < hi) (hp : w.cell? ⟨qb, qo + place c t.ks, none⟩ = some (.pointer (some ⟨p, 0, none⟩))) (hr : WayIn w lo hi c p u xs) : WayIn w lo hi c b t ((b, t) :: xs)
theorem way_at {w : World} {lo hi b : Nat} {t : Tr} (c : Int) (h : NodeAt w lo hi b t) : Tr.Well t → t.weight ≤ 1048576 → ∃ xs, xs.map Prod.snd = t.way c ∧ WayIn w lo hi c b t xs := by
 induction h with
 | mk ks cs b kv a cap ps hlo hhi hbox hk hlen hcap hat hkids ih =>
   intro hw hwt
   have hst : Stop w lo hi b (.mk ks cs) kv a cap := ⟨.mk ks cs b kv a cap ps hlo hhi hbox hk hlen hcap hat hkids, hbox, hk, hlo, hhi, hlen, hcap, hw, hwt⟩
   by_cases hc : cs.length = 0
   · exact ⟨[(b, .mk ks cs)], by rw [Tr.way_leaf hc]; rfl, .leaf b _ kv a cap hst hc⟩
   · have hcl := Tr.Well.inner hw hc
     have hp := place_le c ks
     have hi' : place c ks < cs.length := by omega
     have hwk := Tr.weight_get_le cs _ hi'
     simp only [Tr.weight] at hwt
     obtain ⟨xs, h1, h2⟩ := ih _ hi' (Tr.Well.kid hw _ hi') (by omega)
     rcases hat with h | ⟨qb, qo, rfl, q1, q2, q3⟩
     · exact absurd h hc
     exact ⟨(b, .mk ks cs) :: xs, by rw [Tr.way_inner hi', List.map_cons, h1], .inner b _ kv qb qo cap _ _ xs hst hcl q1 q2 (q3 _ hi') h2⟩
theorem WayIn.stops {w : World} {lo hi b : Nat} {c : Int} {t : Tr} {xs : List (Nat × Tr)} (h : WayIn w lo hi c b t xs) : ∀ x ∈ xs, ∃ kv a cap, Stop w lo hi x.1 x.2 kv a cap := by
 induction h with
 | leaf b t kv a cap hs h0 => intro x hx; simp at hx; subst hx; exact ⟨_, _, _, hs⟩
 | inner b t kv qb qo cap p u xs hs h0 q1 q2 hp hr ih =>
   intro x hx
   rcases List.mem_cons.1 hx with rfl | hx
   · exact ⟨_, _, _, hs⟩
   · exact ih x hx
def wayEnc (c : Int) (x : Nat × Tr) : Array Value := #[.pointer (some ⟨x.1, 0, none⟩), .int .i64 (place c x.2.ks)]
end Go.Proofs.Ytananonjomfpkaa
/- Inserting a key, as plain data. -/
namespace Go.Proofs.Ytananonjomfpkaa
open Go.RowKit
def putAt {α : Type} (k : List α) (i : Nat) (x : α) : List α := k.take i ++ x :: k.drop i
namespace Tr
def leftOf : Tr → Tr | .mk k c => .mk (k.take (k.length / 2)) (c.take (k.length / 2 + 1))
def rightOf : Tr → Tr | .mk k c => .mk (k.drop (k.length / 2 + 1)) (c.drop (k.length / 2 + 1))
def midOf : Tr → Int | .mk k _ => k.getD (k.length / 2) 0
def splitKid (k : List Int) (c : List Tr) (i : Nat) (u : Tr) : Tr := .mk (putAt k i u.midOf) (c.take i ++ u.leftOf :: u.rightOf :: c.drop (i + 1))
def setKid (c : List Tr) (i : Nat) (u : Tr) : List Tr := c.take i ++ u :: c.drop (i + 1)
def growStep (wide : Int) (k : List Int) (c : List Tr) (i : Nat) (r : Tr × Nat) : Tr × Nat :=
 if wide < r.1.ks.length then (splitKid k c i r.1, r.2 + 1) else (.mk k (setKid c i r.1), r.2)
mutual
def grow (wide key : Int) : Tr → Tr × Nat
 | .mk k c => if c.length = 0 then (.mk (putAt k (place key k) key) [], 0) else growStep wide k c (place key k) ((grows wide key c).getD (place key k) (.mk [] [], 0))
def grows (wide key : Int) : List Tr → List (Tr × Nat)
 | [] => []
 | t :: r => grow wide key t :: grows wide key r
end
def insT (wide key : Int) (t : Tr) : Tr :=
 let u := (grow wide key t).1
 if wide < u.ks.length then .mk [u.midOf] [u.leftOf, u.rightOf] else u
def insN (wide key : Int) (t : Tr) : Nat :=
 let r := grow wide key t
 if wide < r.1.ks.length then r.2 + 1 else r.2
def insG (wide key : Int) (t : Tr) : Bool := decide (wide < ((grow wide key t).1.ks.length : Int))
theorem setKid_length {c : List Tr} {i : Nat} {u : Tr} (h : i < c.length) : (setKid c i u).length = c.length := by simp [setKid]; omega
mutual
theorem grow_count (wide key : Int) : ∀ t : Tr, (grow wide key t).2 ≤ t.weight
 | .mk k c => by
   rw [grow]
   split
   · simp
   · rename_i hc
     have h := grows_count wide key c (place key k) (by cases c <;> simp_all)
     unfold growStep
     simp only [weight]
     split <;> dsimp only <;> omega
theorem grows_count (wide key : Int) : ∀ (c : List Tr) (i : Nat), 0 < c.length → ((grows wide key c).getD i (.mk [] [], 0)).2 + 1 ≤ weights c
 | [], i, h => by simp at h
 | t :: r, i, _ => by
   have h1 := grow_count wide key t
   cases i with
   | zero => simp [grows, weights]; omega
   | succ i =>
     by_cases hr : 0 < r.length
     · have h2 := grows_count wide key r i hr
       simp only [grows, List.getD_cons_succ, weights]
       omega
     · have : r = [] := by cases r <;> simp_all
       subst this
       simp [grows, weights]
end
end Tr
end Go.Proofs.Ytananonjomfpkaa
/- Nodes of the program, each with the cells that are its own. -/
namespace Go.Proofs.Ytananonjomfpkaa
open Go.RowKit
abbrev Cells := Nat → Nat → Prop
def boxOf (b : Nat) : Cells := fun x _ => x = b
def Apart (F G : Cells) : Prop := ∀ x o, F x o → ¬ G x o
theorem Apart.symm {F G : Cells} (h : Apart F G) : Apart G F := fun x o h1 h2 => h x o h2 h1
theorem Apart.mono {F G F' G' : Cells} (h : Apart F G) (h1 : ∀ x o, F' x o → F x o) (h2 : ∀ x o, G' x o → G x o) : Apart F' G' := fun x o a b => h x o (h1 x o a) (h2 x o b)
structure KeptF (F : Cells) (w w' : World) : Prop where
 os : w'.os = w.os
 tape : w'.tape = w.tape
 output : w'.output = w.output
 size : w.heap.size ≤ w'.heap.size
 block : ∀ k, k < w.heap.size → (∀ o, ¬ F k o) → w'.heap[k]? = w.heap[k]?
 cell : ∀ b o, b < w.heap.size → ¬ F b o → w'.cell? ⟨b, o, none⟩ = w.cell? ⟨b, o, none⟩
 frozen : ∀ b o, b < w.heap.size → w'.frozen? ⟨b, o, none⟩ = w.frozen? ⟨b, o, none⟩
 there : ∀ b o, (w.cell? ⟨b, o, none⟩).isSome = true → (w'.cell? ⟨b, o, none⟩).isSome = true
theorem lt_of_there {w : World} {b o : Nat} (h : (w.cell? ⟨b, o, none⟩).isSome = true) : b < w.heap.size := by
 obtain ⟨u, hu⟩ := Option.isSome_iff_exists.1 h
 exact World.block_lt_of_cell? w _ hu
theorem KeptF.refl (F : Cells) (w : World) : KeptF F w w := ⟨rfl, rfl, rfl, Nat.le_refl _, fun _ _ _ => rfl, fun _ _ _ _ => rfl, fun _ _ _ => rfl, fun _ _ h => h⟩
theorem KeptF.mono {F G : Cells} {w w' : World} (h : KeptF F w w') (hs : ∀ x o, x < w.heap.size → F x o → G x o) : KeptF G w w' :=
 ⟨h.os, h.tape, h.output, h.size, fun k hk hn => h.block k hk (fun o hf => hn o (hs k o hk hf)), fun b o hb hn => h.cell b o hb (fun hf => hn (hs b o hb hf)), h.frozen, h.there⟩
theorem KeptF.trans {F : Cells} {a b c : World} (h : KeptF F a b) (k : KeptF (fun x o => F x o ∨ a.heap.size ≤ x) b c) : KeptF F a c :=
 ⟨k.os.trans h.os, k.tape.trans h.tape, k.output.trans h.output, Nat.le_trans h.size k.size,
   fun i h1 h2 => (k.block i (Nat.lt_of_lt_of_le h1 h.size) (fun o hh => hh.elim (h2 o) (fun h3 => by omega))).trans (h.block i h1 h2),
   fun x o h1 h2 => (k.cell x o (Nat.lt_of_lt_of_le h1 h.size) (fun hh => hh.elim h2 (fun h3 => by omega))).trans (h.cell x o h1 h2),
   fun x o h1 => (k.frozen x o (Nat.lt_of_lt_of_le h1 h.size)).trans (h.frozen x o h1), fun x o hh => k.there x o (h.there x o hh)⟩
theorem KeptF.of_below {F : Cells} {w w' : World} {B : Nat} (h : Below B w w') (hB : w.heap.size ≤ B) : KeptF F w w' :=
 ⟨h.os, h.tape, h.output, h.size, fun k hk _ => h.block k (by omega), fun b o hb _ => h.cell (p := ⟨b, o, none⟩) (by show b < B; omega), fun b o hb => h.frozen (p := ⟨b, o, none⟩) (by show b < B; omega),
   fun b o hh => by have := lt_of_there hh; rw [h.cell (p := ⟨b, o, none⟩) (by show b < B; omega)]; exact hh⟩
theorem KeptF.below {F : Cells} {w w' : World} {B : Nat} (h : KeptF F w w') (hB : B ≤ w.heap.size) (hF : ∀ x o, F x o → B ≤ x) : Below B w w' :=
 ⟨h.os, h.tape, h.output, h.size, fun k hk => h.block k (by omega) (fun o hf => by have := hF k o hf; omega)⟩
theorem KeptF.drew (F : Cells) (w : World) : KeptF F w w.drew := ⟨rfl, rfl, rfl, Nat.le_refl _, fun _ _ _ => rfl, fun _ _ _ _ => rfl, fun _ _ _ => rfl, fun _ _ h => h⟩
theorem KeptF.alloc (F : Cells) (w : World) (o : Obj) : KeptF F w (w.alloc o) := KeptF.of_below ((Below.refl w.heap.size w).alloc (Nat.le_refl _) o) (Nat.le_refl _)
theorem KeptF.setCell {F : Cells} (w : World) (b o : Nat) (v : Value) (h : F b o) : KeptF F w (w.setCell ⟨b, o, none⟩ v) := by
 refine ⟨rfl, rfl, rfl, by simp, fun k hk hn => set_other _ _ _ _ _ (fun e => hn o (e ▸ h)), fun x q hx hn => ?_, fun x q hx => by rw [World.frozen?_setCell], fun x q hh => ?_⟩
 · exact World.cell?_setCell_other _ _ _ _ (fun e => by simp at e; obtain ⟨rfl, rfl⟩ := e; exact hn h)
 · by_cases e : b = x ∧ o = q
   · obtain ⟨rfl, rfl⟩ := e
     obtain ⟨u, hu⟩ := Option.isSome_iff_exists.1 hh
     rw [World.cell?_setCell_same _ _ _ hu]; rfl
   · rw [World.cell?_setCell_other _ _ _ _ (fun e2 => e (by simpa using e2))]; exact hh
theorem KeptF.setCells {F : Cells} (b : Nat) : ∀ (vs : List Value) (o : Nat) (w : World), (∀ j, j < vs.length → F b (o + j)) → KeptF F w (w.setCells b o vs)
 | [], _, w, _ => KeptF.refl _ _
 | v :: r, o, w, h => by
   refine (KeptF.setCell w b o v (h 0 (by simp))).trans ((KeptF.setCells b r (o + 1) _ (fun j hj => ?_)).mono (fun x o _ hh => .inl hh))
   have := h (j + 1) (by simp; omega)
   rwa [show o + (j + 1) = o + 1 + j by omega] at this
def RowF (w : World) (F : Cells) (v : Value) (xs : List Value) : Prop :=
 (∀ x q, F x q → x < w.heap.size) ∧ ∃ (a : Option Addr) (cap : Nat), v = .slice a xs.length cap ∧ xs.length ≤ cap ∧ cap ≤ maxLen ∧ (a = none → cap = 0) ∧
   (cap = 0 ∨ ∃ b o, a = some ⟨b, o, none⟩ ∧ (∀ i, i < cap → F b (o + i) ∧ (w.cell? ⟨b, o + i, none⟩).isSome = true ∧ w.frozen? ⟨b, o + i, none⟩ = false) ∧
     ∀ i (h : i < xs.length), w.cell? ⟨b, o + i, none⟩ = some xs[i])
theorem RowF.keep {w w' : World} {F G : Cells} {v : Value} {xs : List Value} (h : RowF w F v xs) (hk : KeptF G w w') (ha : Apart F G) : RowF w' F v xs := by
 obtain ⟨hlt, a, cap, hv, h1, h2, h3, h4⟩ := h
 refine ⟨fun x q h => Nat.lt_of_lt_of_le (hlt x q h) hk.size, a, cap, hv, h1, h2, h3, ?_⟩
 rcases h4 with h4 | ⟨b, o, h5, h6, h7⟩
 · exact .inl h4
 · refine .inr ⟨b, o, h5, fun i hi => ?_, fun i hi => ?_⟩
   · obtain ⟨g1, g2, g3⟩ := h6 i hi
     exact ⟨g1, hk.there _ _ g2, (hk.frozen _ _ (lt_of_there g2)).trans g3⟩
   · obtain ⟨g1, g2, g3⟩ := h6 i (by omega)
     rw [hk.cell _ _ (lt_of_there g2) (ha _ _ g1)]
     exact h7 i hi
theorem RowF.shown {w : World} {F : Cells} {v : Value} {xs : List Value} (h : RowF w F v xs) : ∃ a c, v = .slice a xs.length c := by
 obtain ⟨_, a, cap, hv, _⟩ := h
 exact ⟨a, cap, hv⟩
theorem RowF.of_owns {w : World} {base : Nat} {e : TypeId} {v : Value} {n : Nat} {xs : List Value} (h : w.ownsRow base e 1 v n xs) : RowF w (fun x _ => v.ownBlock = some x) v xs := by
 have h0 := h
 refine ⟨fun x q hq => (h0.lt x hq).2, ?_⟩
 obtain ⟨h1, ⟨h2, h3⟩ | ⟨g, cap, cur, hv, hb, hg, hn, hm, hs, ht⟩⟩ := h
 · subst h3
   have : xs = [] := by cases xs with | nil => rfl | cons a r => simp at h1
   subst this
   exact ⟨none, 0, h2, by simp, by unfold maxLen; omega, fun _ => rfl, .inl rfl⟩
 · subst hv
   have hxn : xs.length = n := by simpa using h1
   refine ⟨_, cap, by rw [hxn], by omega, hm, by simp, .inr ⟨g, 0, rfl, fun i hi => ⟨rfl, ?_, ?_⟩, fun i hi => ?_⟩⟩
   · have : i < cur.size := by omega
     simp [World.cell?, hg, this]
   · simp [World.frozen?, hg]
   · rw [Nat.zero_add, World.ownsRow.cellAt h0 i (by omega)]
     simp [hi]
structure KidD where
 p : Nat
 F : Cells
 t : Tr
def KidD.ptr (x : KidD) : Value := .pointer (some ⟨x.p, 0, none⟩)
inductive Nd (w : World) : Cells → Nat → Tr → Prop where
 | mk (ks : List Int) (kids : List KidD) (F Fk Fc : Cells) (b : Nat) (kv cv : Value)
     (hbox : w.heap[b]? = some (.cells #[kv, cv] 99 (0, 0)))
     (hk : RowF w Fk kv (ks.map (Value.int .i64))) (hc : RowF w Fc cv (kids.map KidD.ptr))
     (hkids : ∀ x, x ∈ kids → Nd w x.F x.p x.t)
     (sb : ∀ o, F b o) (sk : ∀ x o, Fk x o → F x o) (sc : ∀ x o, Fc x o → F x o) (ss : ∀ y, y ∈ kids → ∀ x o, y.F x o → F x o)
     (ap : (boxOf b :: Fk :: Fc :: kids.map KidD.F).Pairwise Apart) (lt : ∀ x o, F x o → x < w.heap.size) : Nd w F b (.mk ks (kids.map KidD.t))
theorem Nd.keep {w w' : World} {F G : Cells} {b : Nat} {t : Tr} (h : Nd w F b t) (hk : KeptF G w w') (ha : Apart F G) : Nd w' F b t := by
 induction h with
 | mk ks kids F Fk Fc b kv cv hbox hkr hc hkids sb sk sc ss ap lt ih =>
   exact .mk ks kids F Fk Fc b kv cv ((hk.block b (Array.getElem?_eq_some_iff.1 hbox).1 (fun o => ha b o (sb o))).trans hbox)
     (hkr.keep hk (ha.mono sk (fun _ _ h => h))) (hc.keep hk (ha.mono sc (fun _ _ h => h))) (fun x hx => ih x hx (ha.mono (ss x hx) (fun _ _ h => h))) sb sk sc ss ap (fun x o h => Nat.lt_of_lt_of_le (lt x o h) hk.size)
theorem Nd.mono {w : World} {F G : Cells} {b : Nat} {t : Tr} (h : Nd w F b t) (hs : ∀ x o, F x o → G x o) (hl : ∀ x o, G x o → x < w.heap.size) : Nd w G b t := by
 cases h with
 | mk ks kids F Fk Fc b kv cv hbox hkr hc hkids sb sk sc ss ap lt =>
   exact .mk ks kids G Fk Fc b kv cv hbox hkr hc hkids (fun o => hs _ _ (sb o)) (fun x o h => hs _ _ (sk x o h)) (fun x o h => hs _ _ (sc x o h)) (fun y hy x o h => hs _ _ (ss y hy x o h)) ap hl
theorem Nd.parts {w : World} {F : Cells} {b : Nat} {ks : List Int} {cs : List Tr} (h : Nd w F b (.mk ks cs)) : ∃ (kids : List KidD) (Fk Fc : Cells) (kv cv : Value), cs = kids.map KidD.t ∧
   w.heap[b]? = some (.cells #[kv, cv] 99 (0, 0)) ∧ RowF w Fk kv (ks.map (Value.int .i64)) ∧ RowF w Fc cv (kids.map KidD.ptr) ∧ (∀ x, x ∈ kids → Nd w x.F x.p x.t) ∧
   (∀ o, F b o) ∧ (∀ x o, Fk x o → F x o) ∧ (∀ x o, Fc x o → F x o) ∧ (∀ y, y ∈ kids → ∀ x o, y.F x o → F x o) ∧ (boxOf b :: Fk :: Fc :: kids.map KidD.F).Pairwise Apart ∧ (∀ x o, F x o → x < w.heap.size) := by
 cases h with
 | mk _ kids _ Fk Fc _ kv cv hbox hkr hc hkids sb sk sc ss ap lt => exact ⟨kids, Fk, Fc, kv, cv, rfl, hbox, hkr, hc, hkids, sb, sk, sc, ss, ap, lt⟩
theorem Nd.nodeAt {w : World} {F : Cells} {b : Nat} {t : Tr} (h : Nd w F b t) : NodeAt w 0 w.heap.size b t := by
 induction h with
 | mk ks kids F Fk Fc b kv cv hbox hkr hc hkids sb sk sc ss ap lt ih =>
   obtain ⟨_, a, cap, rfl, h1, h2, h3, h4⟩ := hc
   obtain ⟨_, ka, kcap, rfl, k1, k2, k3, k4⟩ := hkr
   rw [List.length_map] at h1
   have e1 : (kids.map KidD.ptr).length = (kids.map KidD.t).length := by simp
   refine .mk ks (kids.map KidD.t) b _ a cap (fun i => (kids.map KidD.p).getD i 0) (Nat.zero_le _) (Array.getElem?_eq_some_iff.1 hbox).1 (by rw [← e1]; exact hbox) ⟨ka, kcap, by simp, by simpa using k1, k2, k3, ?_⟩ (by simpa using h1) h2 ?_ (fun i hi => ?_)
   · rcases k4 with k4 | ⟨kb, ko, rfl, g1, g2⟩
     · subst k4
       simp at k1
       exact .inl k1
     · by_cases hks : ks = []
       · exact .inl hks
       · have hpos : 0 < ks.length := by cases ks <;> simp_all
         refine .inr ⟨kb, ko, rfl, Nat.zero_le _, lt_of_there (o := ko + 0) (g1 0 (by simp at k1; omega)).2.1, fun i hi => ?_⟩
         rw [g2 i (by simpa using hi)]
         simp [hi]
   · rcases h4 with h4 | ⟨cb, co, rfl, g1, g2⟩
     · left; simp; have : kids.length = 0 := by omega
       exact List.length_eq_zero_iff.1 this
     · by_cases hks : kids = []
       · left; simp [hks]
       · have hpos : 0 < kids.length := by cases kids <;> simp_all
         refine .inr ⟨cb, co, rfl, Nat.zero_le _, lt_of_there (o := co + 0) (g1 0 (by omega)).2.1, fun i hi => ?_⟩
         rw [g2 i (by simpa using hi)]
         simp at hi
         simp [hi, KidD.ptr]
   · simp at hi
     have := ih kids[i] (List.getElem_mem hi)
     simpa [hi] using this
end Go.Proofs.Ytananonjomfpkaa
/- Trees of the model whose rows are their own, up to the capacity: what the model changes in place. -/
namespace Go.Proofs.Ytananonjomfpkaa
open Go.RowKit
def RowT (w : World) (F : Cells) (v : Value) (K : List (Value × Value)) : Prop :=
 (∀ x q, F x q → x < w.heap.size) ∧ ∃ (a : Option Addr) (cap : Nat), v = .slice a K.length cap ∧ K.length ≤ cap ∧ cap ≤ maxLen ∧ (a = none → cap = 0) ∧
   (cap = 0 ∨ ∃ b o, a = some ⟨b, o, none⟩ ∧ (∀ i, i < cap * 2 → F b (o + i) ∧ (w.cell? ⟨b, o + i, none⟩).isSome = true ∧ w.frozen? ⟨b, o + i, none⟩ = false) ∧
     ∀ i (h : i < K.length), w.cell? ⟨b, o + i * 2, none⟩ = some K[i].1 ∧ w.cell? ⟨b, o + i * 2 + 1, none⟩ = some K[i].2)
theorem RowT.keep {w w' : World} {F G : Cells} {v : Value} {K : List (Value × Value)} (h : RowT w F v K) (hk : KeptF G w w') (ha : Apart F G) : RowT w' F v K := by
 obtain ⟨hlt, a, cap, hv, h1, h2, h3, h4⟩ := h
 refine ⟨fun x q h => Nat.lt_of_lt_of_le (hlt x q h) hk.size, a, cap, hv, h1, h2, h3, ?_⟩
 rcases h4 with h4 | ⟨b, o, h5, h6, h7⟩
 · exact .inl h4
 · refine .inr ⟨b, o, h5, fun i hi => ?_, fun i hi => ?_⟩
   · obtain ⟨g1, g2, g3⟩ := h6 i hi
     exact ⟨g1, hk.there _ _ g2, (hk.frozen _ _ (lt_of_there g2)).trans g3⟩
   · obtain ⟨g1, g2, g3⟩ := h6 (i * 2) (by omega)
     obtain ⟨e1, e2, e3⟩ := h6 (i * 2 + 1) (by omega)
     have hb := h7 i hi
     rw [← Nat.add_assoc] at e1 e2
     rw [hk.cell _ _ (lt_of_there g2) (ha _ _ g1), hk.cell _ _ (lt_of_there e2) (ha _ _ e1)]
     exact hb
theorem RowT.shown {w : World} {F : Cells} {v : Value} {K : List (Value × Value)} (h : RowT w F v K) : ∃ a c, v = .slice a K.length c := by
 obtain ⟨_, a, cap, hv, _⟩ := h
 exact ⟨a, cap, hv⟩
theorem RowT.of_own {w : World} {lo : Nat} {v : Value} {K : List (Value × Value)} (h : TreesOwn w lo v K) : RowT w (fun x _ => ownB v x) v K := by
 have h0 := h
 refine ⟨fun x q hq => (World.ownsRow.lt h0 x hq).2, ?_⟩
 obtain ⟨h1, ⟨h2, h3⟩ | ⟨g, cap, cur, hv, hb, hg, hn, hm, hs, ht⟩⟩ := h
 · have : K = [] := by cases K with | nil => rfl | cons a r => simp at h3
   subst this
   exact ⟨none, 0, h2, by simp, by unfold maxLen; omega, fun _ => rfl, .inl rfl⟩
 · subst hv
   refine ⟨_, cap, rfl, by omega, hm, by simp, .inr ⟨g, 0, rfl, fun i hi => ⟨rfl, ?_, ?_⟩, fun i hi => ?_⟩⟩
   · have : i < cur.size := by omega
     simp [World.cell?, hg, this]
   · simp [World.frozen?, hg]
   · obtain ⟨e1, e2⟩ := flatT_get K i hi
     have a1 := World.ownsRow.cellAt h0 (i * 2) (by omega)
     have a2 := World.ownsRow.cellAt h0 (i * 2 + 1) (by omega)
     simp only [Nat.zero_add]
     exact ⟨a1.trans e1, a2.trans e2⟩
structure KidT where
 kv : Value
 cv : Value
 F : Cells
 t : Tr
def KidT.pair (x : KidT) : Value × Value := (x.kv, x.cv)
inductive Td (w : World) : Cells → Value → Value → Tr → Prop where
 | mk (ks : List Int) (kids : List KidT) (F Fk Fc : Cells) (kv cv : Value)
     (hk : RowF w Fk kv (ks.map (Value.int .i64))) (hc : RowT w Fc cv (kids.map KidT.pair))
     (hkids : ∀ x, x ∈ kids → Td w x.F x.kv x.cv x.t)
     (sk : ∀ x o, Fk x o → F x o) (sc : ∀ x o, Fc x o → F x o) (ss : ∀ y, y ∈ kids → ∀ x o, y.F x o → F x o)
     (ap : (Fk :: Fc :: kids.map KidT.F).Pairwise Apart) (lt : ∀ x o, F x o → x < w.heap.size) : Td w F kv cv (.mk ks (kids.map KidT.t))
theorem Td.keep {w w' : World} {F G : Cells} {kv cv : Value} {t : Tr} (h : Td w F kv cv t) (hk : KeptF G w w') (ha : Apart F G) : Td w' F kv cv t := by
 induction h with
 | mk ks kids F Fk Fc kv cv hkr hc hkids sk sc ss ap lt ih =>
   exact .mk ks kids F Fk Fc kv cv (hkr.keep hk (ha.mono sk (fun _ _ h => h))) (hc.keep hk (ha.mono sc (fun _ _ h => h)))
     (fun x hx => ih x hx (ha.mono (ss x hx) (fun _ _ h => h))) sk sc ss ap (fun x o h => Nat.lt_of_lt_of_le (lt x o h) hk.size)
theorem Td.parts {w : World} {F : Cells} {kv cv : Value} {ks : List Int} {cs : List Tr} (h : Td w F kv cv (.mk ks cs)) : ∃ (kids : List KidT) (Fk Fc : Cells), cs = kids.map KidT.t ∧
   RowF w Fk kv (ks.map (Value.int .i64)) ∧ RowT w Fc cv (kids.map KidT.pair) ∧ (∀ x, x ∈ kids → Td w x.F x.kv x.cv x.t) ∧
   (∀ x o, Fk x o → F x o) ∧ (∀ x o, Fc x o → F x o) ∧ (∀ y, y ∈ kids → ∀ x o, y.F x o → F x o) ∧ (Fk :: Fc :: kids.map KidT.F).Pairwise Apart ∧ (∀ x o, F x o → x < w.heap.size) := by
 cases h with
 | mk _ kids _ Fk Fc _ _ hkr hc hkids sk sc ss ap lt => exact ⟨kids, Fk, Fc, rfl, hkr, hc, hkids, sk, sc, ss, ap, lt⟩
theorem Td.of_o {w : World} {lo : Nat} {P : Blocks} {kv cv : Value} {t : Tr} (h : TreeO w lo P kv cv t) : Td w (fun x _ => P x) kv cv t := by
 induction h with
 | mk ks kids P kv cv hk hc hkids sk sc ss ap lt ih =>
   have e1 : (kids.map (fun x : KidO => (⟨x.kv, x.cv, fun q _ => x.P q, x.t⟩ : KidT))).map KidT.t = kids.map KidO.t := by simp [Function.comp_def]
   have e2 : (kids.map (fun x : KidO => (⟨x.kv, x.cv, fun q _ => x.P q, x.t⟩ : KidT))).map KidT.pair = kids.map KidO.pair := by simp [Function.comp_def, KidT.pair, KidO.pair]
   rw [← e1]
   refine .mk ks _ _ (fun x _ => ownB kv x) (fun x _ => ownB cv x) kv cv (RowF.of_owns hk) (by rw [e2]; exact RowT.of_own hc) (fun x hx => ?_) (fun x _ h => sk x h) (fun x _ h => sc x h) (fun y hy x o h => ?_) ?_ (fun x _ h => (lt x h).2)
   · obtain ⟨y, hy, rfl⟩ := List.mem_map.1 hx
     exact ih y hy
   · obtain ⟨z, hz, rfl⟩ := List.mem_map.1 hy
     exact ss z hz x h
   · have hm : ((fun x _ => ownB kv x) :: (fun x _ => ownB cv x) :: (kids.map (fun x : KidO => (⟨x.kv, x.cv, fun q _ => x.P q, x.t⟩ : KidT))).map KidT.F : List Cells) = (ownB kv :: ownB cv :: kids.map KidO.P).map (fun B => fun x _ => B x) := by simp [Function.comp_def]
     rw [hm, List.pairwise_map]
     exact ap.imp (fun h x o a b => h x a b)
end Go.Proofs.Ytananonjomfpkaa
