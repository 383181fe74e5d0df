/- The model's l4Delete at a node with kids, given what it does to the kid. -/
import Derived.Test.YtananonjomfpkaaQg28
import Derived.Test.YtananonjomfpkaaQgS8
namespace Go.Proofs.Ytananonjomfpkaa
open Go.RowKit
theorem Tr.repair_off (half : Int) (k : List Int) (c : List Tr) (i b j bo jo : Nat) :
   Tr.repair half k c i (bo + b) (jo + j) = ⟨(Tr.repair half k c i b j).t, bo + (Tr.repair half k c i b j).b, jo + (Tr.repair half k c i b j).j⟩ := by
 unfold Tr.repair
 split
 · rfl
 · split <;> simp [Nat.add_assoc]
theorem Node4.setKey {w : World} {F Fk Fc : Cells} {b o n cap : Nat} {cv : Value} {k : List Int} {kids : List KidT} (h : Node4 w F Fk Fc (.slice (some ⟨b, o, none⟩) n cap) cv k kids) (j : Nat) (hj : j < k.length) (u : Int) :
   Node4 (w.setCell ⟨b, o + j, none⟩ (.int .i64 u)) F Fk Fc (.slice (some ⟨b, o, none⟩) n cap) cv (k.set j u) kids ∧ KeptF Fk w (w.setCell ⟨b, o + j, none⟩ (.int .i64 u)) := by
 have hn : n = k.length := by
   obtain ⟨_, a, c, hv, _⟩ := h.hk
   simp only [Value.slice.injEq, List.length_map] at hv
   exact hv.2.1
 subst hn
 have hr := h.hk.n
 rw [List.length_map] at hr
 obtain ⟨h1, h2⟩ := hr.set j (by simpa using hj) (.int .i64 u)
 have ap := List.pairwise_cons.1 h.ap
 have hf : RowF (w.setCell ⟨b, o + j, none⟩ (.int .i64 u)) Fk (.slice (some ⟨b, o, none⟩) k.length cap) ((k.set j u).map (Value.int .i64)) := by rw [List.map_set]; exact h1.f
 exact ⟨⟨hf, h.hc.keep h2 (ap.1 Fc (by simp)).symm, fun z hz => (h.hkids z hz).keep h2 (ap.1 z.F (List.mem_cons_of_mem _ (List.mem_map_of_mem hz))).symm, h.sk, h.sc, h.ss, h.ap, fun q o e => Nat.lt_of_lt_of_le (h.lt q o e) h2.size⟩, h2⟩
theorem Node4.setKid {w w5 : World} {F Fk Fc F6 : Cells} {b o n cap : Nat} {kv kv6 cv6 : Value} {k : List Int} {kids : List KidT} {t6 : Tr} (h : Node4 w F Fk Fc kv (.slice (some ⟨b, o, none⟩) n cap) k kids) (i : Nat) (hi : i < kids.length)
   (hk : KeptF (kids[i]).F w w5) (ht : Td w5 F6 kv6 cv6 t6) (hF : ∀ q o, F6 q o → (kids[i]).F q o ∨ w.heap.size ≤ q) :
   Node4 ((w5.setCell ⟨b, o + i * 2, none⟩ kv6).setCell ⟨b, o + i * 2 + 1, none⟩ cv6) (fun q o => F q o ∨ F6 q o) Fk Fc kv (.slice (some ⟨b, o, none⟩) n cap) k (kids.set i ⟨kv6, cv6, F6, t6⟩) ∧
     KeptF Fc w5 ((w5.setCell ⟨b, o + i * 2, none⟩ kv6).setCell ⟨b, o + i * 2 + 1, none⟩ cv6) := by
 have mx : kids[i] ∈ kids := List.getElem_mem hi
 have ap := List.pairwise_cons.1 h.ap
 have ap2 := List.pairwise_cons.1 ap.2
 have memF : ∀ {z : KidT}, z ∈ kids → z.F ∈ kids.map KidT.F := fun hz => List.mem_map_of_mem hz
 have kx := ap.1 (kids[i]).F (List.mem_cons_of_mem _ (memF mx))
 have cx := ap2.1 (kids[i]).F (memF mx)
 have hc5 := h.hc.keep hk cx
 have hk5 := h.hk.keep hk kx
 have hn : n = kids.length := by
   obtain ⟨_, a, c, hv, _⟩ := h.hc
   simp only [Value.slice.injEq, List.length_map] at hv
   exact hv.2.1
 subst hn
 have hr := hc5.n
 rw [List.length_map] at hr
 obtain ⟨s1, s2⟩ := hr.set (i * 2) (by rw [flatT_length, List.length_map]; omega) kv6
 obtain ⟨s3, s4⟩ := s1.set (i * 2 + 1) (by rw [List.length_set, flatT_length, List.length_map]; omega) cv6
 rw [← Nat.add_assoc] at s3 s4
 rw [flatT_set _ i (by rw [List.length_map]; exact hi)] at s3
 have hK : KeptF Fc w5 ((w5.setCell ⟨b, o + i * 2, none⟩ kv6).setCell ⟨b, o + i * 2 + 1, none⟩ cv6) := s2.trans (s4.mono (fun _ _ _ e => .inl e))
 obtain ⟨W, hW⟩ : ∃ W, W = (w5.setCell ⟨b, o + i * 2, none⟩ kv6).setCell ⟨b, o + i * 2 + 1, none⟩ cv6 := ⟨_, rfl⟩
 rw [← hW] at s3 hK ⊢
 have hlt5 : ∀ q o, F q o → q < w5.heap.size := fun q o e => Nat.lt_of_lt_of_le (h.lt q o e) hk.size
 have cross : ∀ (G : Cells), (∀ q o, G q o → F q o) → Apart G (kids[i]).F → Apart G F6 := fun G hG ha q o a e => by
   rcases hF q o e with e | e
   · exact ha q o a e
   · have := h.lt q o (hG q o a); omega
 have F6c := cross Fc h.sc cx
 have F6k := cross Fk h.sk kx
 have hset : ∀ z, z ∈ kids.set i ⟨kv6, cv6, F6, t6⟩ → z = ⟨kv6, cv6, F6, t6⟩ ∨ ∃ j, ∃ hj : j < kids.length, j ≠ i ∧ z = kids[j] := fun z hz => by
   obtain ⟨j, hj, rfl⟩ := List.getElem_of_mem hz
   rw [List.getElem_set]
   split
   · exact .inl rfl
   · rename_i hne
     exact .inr ⟨j, by simpa using hj, fun e => hne e.symm, rfl⟩
 have apk : ∀ j (hj : j < kids.length), j ≠ i → Apart (kids[j]).F (kids[i]).F := fun j hj hne => by
   have hp := List.pairwise_iff_getElem.1 ap2.2
   rcases Nat.lt_or_gt_of_ne hne with hlt | hgt
   · have := hp j i (by rw [List.length_map]; exact hj) (by rw [List.length_map]; exact hi) hlt
     rwa [List.getElem_map, List.getElem_map] at this
   · have := hp i j (by rw [List.length_map]; exact hi) (by rw [List.length_map]; exact hj) hgt
     rw [List.getElem_map, List.getElem_map] at this
     exact this.symm
 have hp : (kids.set i ⟨kv6, cv6, F6, t6⟩).map KidT.pair = (kids.map KidT.pair).set i (kv6, cv6) := by rw [List.map_set]; rfl
 refine ⟨⟨hk5.keep hK (ap.1 Fc (by simp)), ?_, fun z hz => ?_, fun q o e => .inl (h.sk q o e), fun q o e => .inl (h.sc q o e), fun z hz q o e => ?_, ?_, fun q o e => ?_⟩, hK⟩
 · rw [hp]
   have e : (((kids.map KidT.pair).set i (kv6, cv6))).length = kids.length := by simp
   have s3' : RowN W Fc 2 (.slice (some ⟨b, o, none⟩) kids.length cap) kids.length (flatT ((kids.map KidT.pair).set i (kv6, cv6))) := s3
   exact s3'.t
 · rcases hset z hz with rfl | ⟨j, hj, hne, rfl⟩
   · exact ht.keep hK F6c.symm
   · exact ((h.hkids _ (List.getElem_mem hj)).keep hk (apk j hj hne)).keep hK (ap2.1 _ (memF (List.getElem_mem hj))).symm
 · rcases hset z hz with rfl | ⟨j, hj, hne, rfl⟩
   · exact .inr e
   · exact .inl (h.ss _ (List.getElem_mem hj) q o e)
 · refine List.pairwise_cons.2 ⟨fun G hG => ?_, List.pairwise_cons.2 ⟨fun G hG => ?_, ?_⟩⟩
   · rcases List.mem_cons.1 hG with rfl | hG
     · exact ap.1 G (by simp)
     · obtain ⟨z, hz, rfl⟩ := List.mem_map.1 hG
       rcases hset z hz with rfl | ⟨j, hj, hne, rfl⟩
       · exact F6k
       · exact ap.1 _ (List.mem_cons_of_mem _ (memF (List.getElem_mem hj)))
   · obtain ⟨z, hz, rfl⟩ := List.mem_map.1 hG
     rcases hset z hz with rfl | ⟨j, hj, hne, rfl⟩
     · exact F6c
     · exact ap2.1 _ (memF (List.getElem_mem hj))
   · rw [List.pairwise_iff_getElem]
     intro a d ha hd had
     rw [List.length_map, List.length_set] at ha hd
     rw [List.getElem_map, List.getElem_map, List.getElem_set, List.getElem_set]
     by_cases ea : i = a
     · subst ea
       rw [if_pos rfl, if_neg (by omega)]
       exact (cross (kids[d]).F (h.ss _ (List.getElem_mem hd)) (apk d hd (by omega))).symm
     · rw [if_neg ea]
       by_cases ed : i = d
       · subst ed
         rw [if_pos rfl]
         exact cross (kids[a]).F (h.ss _ (List.getElem_mem ha)) (apk a ha (by omega))
       · rw [if_neg ed]
         have hp := List.pairwise_iff_getElem.1 ap2.2
         have := hp a d (by rw [List.length_map]; exact ha) (by rw [List.length_map]; exact hd) had
         rwa [List.getElem_map, List.getElem_map] at this
 · rcases e with e | e
   · exact Nat.lt_of_lt_of_le (hlt5 q o e) hK.size
   · exact Nat.lt_of_lt_of_le (ht.lt q o e) hK.size
structure Boxed (w6 W : World) (p q : Nat) (kv cv : Value) (b j : Int) (sh : Bool) : Prop where
 bp : W.heap[p]? = some (.cells #[kv, cv] 26 (0, 0))
 bq : W.heap[q]? = some (.cells #[.int .i64 b, .int .i64 j, .bool sh] 52 (0, 0))
 kept : KeptF (fun x _ => x = p ∨ x = q) w6 W
section
variable {w6 : World} {kv cv : Value} {b j : Int} {sh : Bool}
theorem KeptF.set' {F : Cells} {w W : World} (h : KeptF F w W) (a o : Nat) (v : Value) (hF : F a o) : KeptF F w (W.setCell ⟨a, o, none⟩ v) := h.trans ((KeptF.setCell _ _ _ _ hF).mono (fun _ _ _ e => .inl e))
theorem boxed1 : Boxed w6 ((w6.alloc (.cells #[kv, cv] 26)).alloc (.cells #[.int .i64 b, .int .i64 j, .bool sh] 52)) w6.heap.size (w6.heap.size + 1) kv cv b j sh :=
 ⟨(old_blk _ _ _ (by simp)).trans (new_blk _ _), by rw [show w6.heap.size + 1 = (w6.alloc (.cells #[kv, cv] 26)).heap.size by simp]; exact new_blk _ _, (KeptF.alloc _ _ _).alloc' _⟩
theorem boxed2 : Boxed w6 ((w6.alloc (.cells #[.int .i64 b, .int .i64 j, .bool sh] 52)).alloc (.cells #[kv, cv] 26)) (w6.heap.size + 1) w6.heap.size kv cv b j sh :=
 ⟨by rw [show w6.heap.size + 1 = (w6.alloc (.cells #[.int .i64 b, .int .i64 j, .bool sh] 52)).heap.size by simp]; exact new_blk _ _, (old_blk _ _ _ (by simp)).trans (new_blk _ _), (KeptF.alloc _ _ _).alloc' _⟩
theorem boxed3 {p : Nat} {o0 o1 : Value} (h : w6.heap[p]? = some (.cells #[o0, o1] 26 (0, 0))) : Boxed w6 (((w6.setCell ⟨p, 0, none⟩ kv).setCell ⟨p, 1, none⟩ cv).alloc (.cells #[.int .i64 b, .int .i64 j, .bool sh] 52)) p w6.heap.size kv cv b j sh := by
 have hp := (Array.getElem?_eq_some_iff.1 h).1
 refine ⟨(old_blk _ _ _ (by simpa using hp)).trans (two_blk h kv cv), ?_, ((((KeptF.refl _ _).set' _ _ _ (.inl rfl)).set' _ _ _ (.inl rfl)).alloc' _)⟩
 have := new_blk ((w6.setCell ⟨p, 0, none⟩ kv).setCell ⟨p, 1, none⟩ cv) (.cells #[.int .i64 b, .int .i64 j, .bool sh] 52)
 rwa [World.size_setCell, World.size_setCell] at this
theorem boxed5 {q : Nat} {o0 o1 o2 : Value} (h : w6.heap[q]? = some (.cells #[o0, o1, o2] 52 (0, 0))) : Boxed w6 ((((w6.setCell ⟨q, 0, none⟩ (.int .i64 b)).setCell ⟨q, 1, none⟩ (.int .i64 j)).setCell ⟨q, 2, none⟩ (.bool sh)).alloc (.cells #[kv, cv] 26)) w6.heap.size q kv cv b j sh := by
 have hp := (Array.getElem?_eq_some_iff.1 h).1
 refine ⟨?_, (old_blk _ _ _ (by simpa using hp)).trans (three_blk h _ _ _), (((((KeptF.refl _ _).set' _ _ _ (.inr rfl)).set' _ _ _ (.inr rfl)).set' _ _ _ (.inr rfl)).alloc' _)⟩
 have := new_blk (((w6.setCell ⟨q, 0, none⟩ (.int .i64 b)).setCell ⟨q, 1, none⟩ (.int .i64 j)).setCell ⟨q, 2, none⟩ (.bool sh)) (.cells #[kv, cv] 26)
 rwa [World.size_setCell, World.size_setCell, World.size_setCell] at this
theorem boxed4 {p q : Nat} (hpq : p ≠ q) {o0 o1 p0 p1 p2 : Value} (h : w6.heap[p]? = some (.cells #[o0, o1] 26 (0, 0))) (h2 : w6.heap[q]? = some (.cells #[p0, p1, p2] 52 (0, 0))) :
   Boxed w6 (((((w6.setCell ⟨p, 0, none⟩ kv).setCell ⟨p, 1, none⟩ cv).setCell ⟨q, 0, none⟩ (.int .i64 b)).setCell ⟨q, 1, none⟩ (.int .i64 j)).setCell ⟨q, 2, none⟩ (.bool sh)) p q kv cv b j sh := by
 have a1 := two_blk h kv cv
 have a2 : ((w6.setCell ⟨p, 0, none⟩ kv).setCell ⟨p, 1, none⟩ cv).heap[q]? = some (.cells #[p0, p1, p2] 52 (0, 0)) := by rw [set_other _ _ _ _ _ (fun e => hpq e.symm), set_other _ _ _ _ _ (fun e => hpq e.symm)]; exact h2
 refine ⟨by rw [set_other _ _ _ _ _ hpq, set_other _ _ _ _ _ hpq, set_other _ _ _ _ _ hpq]; exact a1, three_blk a2 _ _ _, ?_⟩
 exact (((((KeptF.refl _ _).set' _ _ _ (.inl rfl)).set' _ _ _ (.inl rfl)).set' _ _ _ (.inr rfl)).set' _ _ _ (.inr rfl)).set' _ _ _ (.inr rfl)
end
def After (w5 wx : World) (G : Cells) (D : Tr.Del) (sh : Bool) (p q : Nat) : Prop :=
 ∃ (e1 : Option Addr) (e2 e3 : Nat) (e4 : Option Addr) (e5 e6 : Nat) (F6 : Cells), wx.heap[p]? = some (.cells #[.slice e1 e2 e3, .slice e4 e5 e6] 26 (0, 0)) ∧ wx.heap[q]? = some (.cells #[.int .i64 (D.b : Int), .int .i64 (D.j : Int), .bool sh] 52 (0, 0)) ∧
   Td wx F6 (.slice e1 e2 e3) (.slice e4 e5 e6) D.t ∧ (∀ a o, F6 a o → G a o ∨ w5.heap.size ≤ a) ∧ KeptF G w5 wx ∧ w5.heap.size ≤ p ∧ w5.heap.size ≤ q ∧ (∀ o, ¬ F6 p o) ∧ (∀ o, ¬ F6 q o)
theorem after6 {w5 Wc w6 W : World} {G F6 : Cells} {D : Tr.Del} {sh : Bool} {p q : Nat} {e1 : Option Addr} {e2 e3 : Nat} {e4 : Option Addr} {e5 e6 : Nat} (hB : Boxed w6 W p q (.slice e1 e2 e3) (.slice e4 e5 e6) (D.b : Int) (D.j : Int) sh) (ht : Td w6 F6 (.slice e1 e2 e3) (.slice e4 e5 e6) D.t)
   (hF : ∀ a o, F6 a o → G a o ∨ Wc.heap.size ≤ a) (hk : KeptF G w5 w6) (hG : ∀ a o, G a o → a < w5.heap.size) (hWc : w5.heap.size ≤ Wc.heap.size) (hp5 : w5.heap.size ≤ p) (hq5 : w5.heap.size ≤ q) (hp : p < Wc.heap.size ∨ w6.heap.size ≤ p) (hq : q < Wc.heap.size ∨ w6.heap.size ≤ q) :
   After w5 W G D sh p q := by
 have hout : ∀ r, w5.heap.size ≤ r → (r < Wc.heap.size ∨ w6.heap.size ≤ r) → ∀ o, ¬ F6 r o := fun r h5 hr o e => by
   have hl := ht.lt r o e
   rcases hF r o e with h | h
   · have := hG r o h; omega
   · omega
 refine ⟨e1, e2, e3, e4, e5, e6, F6, hB.bp, hB.bq, ht.keep hB.kept (fun a o h e => ?_), fun a o h => (hF a o h).imp id (fun h => by omega), hk.trans (hB.kept.mono (fun a o hl e => ?_)), hp5, hq5, hout p hp5 hp, hout q hq5 hq⟩
 · rcases e with e | e
   · exact hout p hp5 hp o (e ▸ h)
   · exact hout q hq5 hq o (e ▸ h)
 · right; rcases e with e | e <;> omega
def DoneS (w5 W : World) (G : Cells) (D : Tr.Del) (sh : Bool) (e : Ending) (w' : World) : Prop :=
 ∃ (kv cv : Value) (F' : Cells), e = .returned (.tuple #[.agg #[kv, cv], .agg #[.int .i64 (D.b : Int), .int .i64 (D.j : Int), .bool sh]]) ∧ Td w' F' kv cv D.t ∧ (∀ q o, F' q o → G q o ∨ W.heap.size ≤ q) ∧ KeptF G w5 w' ∧ KeptF G W w'
section
variable {w5 Wc w6 : World} {G F6 : Cells} {D : Tr.Del} {sh : Bool} {e1 : Option Addr} {e2 e3 : Nat} {e4 : Option Addr} {e5 e6 : Nat}
theorem after_1 (ht : Td w6 F6 (.slice e1 e2 e3) (.slice e4 e5 e6) D.t) (hF : ∀ a o, F6 a o → G a o ∨ Wc.heap.size ≤ a) (hk : KeptF G w5 w6) (hG : ∀ a o, G a o → a < w5.heap.size) (hz : Wc.heap.size = w5.heap.size + 0) :
   After w5 ((w6.alloc (.cells #[.slice e1 e2 e3, .slice e4 e5 e6] 26)).alloc (.cells #[.int .i64 (D.b : Int), .int .i64 (D.j : Int), .bool sh] 52)) G D sh w6.heap.size (w6.heap.size + 1) := by
 have h1 := hk.size
 exact after6 (Wc := Wc) boxed1 ht hF hk hG (by omega) h1 (by omega) (.inr (Nat.le_refl _)) (.inr (by omega))
theorem after_2 (ht : Td w6 F6 (.slice e1 e2 e3) (.slice e4 e5 e6) D.t) (hF : ∀ a o, F6 a o → G a o ∨ Wc.heap.size ≤ a) (hk : KeptF G w5 w6) (hG : ∀ a o, G a o → a < w5.heap.size) (hz : Wc.heap.size = w5.heap.size + 0) :
   After w5 ((w6.alloc (.cells #[.int .i64 (D.b : Int), .int .i64 (D.j : Int), .bool sh] 52)).alloc (.cells #[.slice e1 e2 e3, .slice e4 e5 e6] 26)) G D sh (w6.heap.size + 1) w6.heap.size := by
 have h1 := hk.size
 exact after6 (Wc := Wc) boxed2 ht hF hk hG (by omega) (by omega) h1 (.inr (by omega)) (.inr (Nat.le_refl _))
theorem after_3 {o0 o1 : Value} (t6 : w6.heap[w5.heap.size]? = some (.cells #[o0, o1] 26 (0, 0))) (ht : Td w6 F6 (.slice e1 e2 e3) (.slice e4 e5 e6) D.t) (hF : ∀ a o, F6 a o → G a o ∨ Wc.heap.size ≤ a) (hk : KeptF G w5 w6) (hG : ∀ a o, G a o → a < w5.heap.size) (hz : Wc.heap.size = w5.heap.size + 1) :
   After w5 (((w6.setCell ⟨w5.heap.size, 0, none⟩ (.slice e1 e2 e3)).setCell ⟨w5.heap.size, 1, none⟩ (.slice e4 e5 e6)).alloc (.cells #[.int .i64 (D.b : Int), .int .i64 (D.j : Int), .bool sh] 52)) G D sh w5.heap.size w6.heap.size := by
 have h1 := hk.size
 exact after6 (Wc := Wc) (boxed3 t6) ht hF hk hG (by omega) (Nat.le_refl _) h1 (.inl (by omega)) (.inr (Nat.le_refl _))
theorem after_5 {o0 o1 o2 : Value} (t6 : w6.heap[w5.heap.size]? = some (.cells #[o0, o1, o2] 52 (0, 0))) (ht : Td w6 F6 (.slice e1 e2 e3) (.slice e4 e5 e6) D.t) (hF : ∀ a o, F6 a o → G a o ∨ Wc.heap.size ≤ a) (hk : KeptF G w5 w6) (hG : ∀ a o, G a o → a < w5.heap.size) (hz : Wc.heap.size = w5.heap.size + 1) :
   After w5 ((((w6.setCell ⟨w5.heap.size, 0, none⟩ (.int .i64 (D.b : Int))).setCell ⟨w5.heap.size, 1, none⟩ (.int .i64 (D.j : Int))).setCell ⟨w5.heap.size, 2, none⟩ (.bool sh)).alloc (.cells #[.slice e1 e2 e3, .slice e4 e5 e6] 26)) G D sh w6.heap.size w5.heap.size := by
 have h1 := hk.size
 exact after6 (Wc := Wc) (boxed5 t6) ht hF hk hG (by omega) h1 (Nat.le_refl _) (.inr (Nat.le_refl _)) (.inl (by omega))
theorem after_4 {o0 o1 p0 p1 p2 : Value} (t6 : w6.heap[w5.heap.size]? = some (.cells #[o0, o1] 26 (0, 0))) (u6 : w6.heap[w5.heap.size + 1]? = some (.cells #[p0, p1, p2] 52 (0, 0))) (ht : Td w6 F6 (.slice e1 e2 e3) (.slice e4 e5 e6) D.t) (hF : ∀ a o, F6 a o → G a o ∨ Wc.heap.size ≤ a) (hk : KeptF G w5 w6) (hG : ∀ a o, G a o → a < w5.heap.size) (hz : Wc.heap.size = w5.heap.size + 2) :
   After w5 (((((w6.setCell ⟨w5.heap.size, 0, none⟩ (.slice e1 e2 e3)).setCell ⟨w5.heap.size, 1, none⟩ (.slice e4 e5 e6)).setCell ⟨w5.heap.size + 1, 0, none⟩ (.int .i64 (D.b : Int))).setCell ⟨w5.heap.size + 1, 1, none⟩ (.int .i64 (D.j : Int))).setCell ⟨w5.heap.size + 1, 2, none⟩ (.bool sh)) G D sh w5.heap.size (w5.heap.size + 1) := by
 have h1 := hk.size
 exact after6 (Wc := Wc) (boxed4 (by omega) t6 u6) ht hF hk hG (by omega) (Nat.le_refl _) (by omega) (.inl (by omega)) (.inl (by omega))
theorem after_6 {o0 o1 p0 p1 p2 : Value} (u6 : w6.heap[w5.heap.size + 1]? = some (.cells #[o0, o1] 26 (0, 0))) (t6 : w6.heap[w5.heap.size]? = some (.cells #[p0, p1, p2] 52 (0, 0))) (ht : Td w6 F6 (.slice e1 e2 e3) (.slice e4 e5 e6) D.t) (hF : ∀ a o, F6 a o → G a o ∨ Wc.heap.size ≤ a) (hk : KeptF G w5 w6) (hG : ∀ a o, G a o → a < w5.heap.size) (hz : Wc.heap.size = w5.heap.size + 2) :
   After w5 (((((w6.setCell ⟨w5.heap.size + 1, 0, none⟩ (.slice e1 e2 e3)).setCell ⟨w5.heap.size + 1, 1, none⟩ (.slice e4 e5 e6)).setCell ⟨w5.heap.size, 0, none⟩ (.int .i64 (D.b : Int))).setCell ⟨w5.heap.size, 1, none⟩ (.int .i64 (D.j : Int))).setCell ⟨w5.heap.size, 2, none⟩ (.bool sh)) G D sh (w5.heap.size + 1) w5.heap.size := by
 have h1 := hk.size
 exact after6 (Wc := Wc) (boxed4 (by omega) u6 t6) ht hF hk hG (by omega) (by omega) (Nat.le_refl _) (.inl (by omega)) (.inl (by omega))
end
set_option maxRecDepth 100000 in
set_option maxHeartbeats 8000000 in
theorem l4DelInner_c (wide : Int) (hwide : 2 ≤ wide ∧ wide ≤ 6) (N : Nat) (key : Int) (k : List Int) (c : List Tr) (hN : (Tr.mk k c).weight ≤ 90000) (hlack : Tr.Lacks key (.mk k c)) (h0 : c.length ≠ 0)
   (IH : ∀ (key' : Int) (u : Tr), Tr.Lacks key' u → u.weight < (Tr.mk k c).weight → ∀ (w : World) (F : Cells) (kv cv : Value) (bo jo : Nat) (sh : Bool), Td w F kv cv u → bo + N ≤ 800000000 → jo + N ≤ 800000000 →
     Calls Try.prog 99 #[.agg #[kv, cv], .int .i64 wide, .int .i64 key', .agg #[.int .i64 (bo : Int), .int .i64 (jo : Int), .bool sh]] w (Restored w F ⟨(Tr.del (wide / 2) N key' u).t, bo + (Tr.del (wide / 2) N key' u).b, jo + (Tr.del (wide / 2) N key' u).j⟩ sh))
   (w : World) (F : Cells) (kv cv : Value) (bo jo : Nat) (sh : Bool) (ht : Td w F kv cv (.mk k c)) (hbo : bo + (N + 1) ≤ 800000000) (hjo : jo + (N + 1) ≤ 800000000) :
   Calls Try.prog 99 #[.agg #[kv, cv], .int .i64 wide, .int .i64 key, .agg #[.int .i64 (bo : Int), .int .i64 (jo : Int), .bool sh]] w
     (Restored w F ⟨(Tr.del (wide / 2) (N + 1) key (.mk k c)).t, bo + (Tr.del (wide / 2) (N + 1) key (.mk k c)).b, jo + (Tr.del (wide / 2) (N + 1) key (.mk k c)).j⟩ sh) := by
 obtain ⟨kids, Fk, Fc, rfl, hkr, hcr, hkids, sk, sc, ss, ap, hlt⟩ := ht.parts
 have hnode : Node4 w F Fk Fc kv cv k kids := ⟨hkr, hcr, hkids, sk, sc, ss, ap, hlt⟩
 clear hkr hcr hkids sk sc ss ap hlt ht
 obtain ⟨hkc1, hk1, hik, hlx⟩ := hlack.kid h0
 obtain ⟨i, hi⟩ : ∃ i, i = place key k := ⟨_, rfl⟩
 rw [← hi] at hik hlx
 rw [List.length_map] at hkc1 hik h0
 have hle := place_le key k
 rw [← hi] at hle
 obtain ⟨x, hx⟩ : ∃ x, x = kids[i] := ⟨_, rfl⟩
 have mx : x ∈ kids := by rw [hx]; exact List.getElem_mem _
 have hkx : Tr.kidAt (kids.map KidT.t) i = x.t := by rw [Tr.kidAt_get (by rw [List.length_map]; exact hik), List.getElem_map, hx]
 rw [hkx] at hlx
 obtain ⟨g, hg⟩ : ∃ g, g = x.t.greatest := ⟨_, rfl⟩
 obtain ⟨ca, ccap, hcv⟩ : ∃ ca ccap, cv = .slice ca kids.length ccap := by
   obtain ⟨_, a, c, hv, _⟩ := hnode.hc
   rw [List.length_map] at hv
   exact ⟨a, c, hv⟩
 obtain ⟨cb, co, rfl⟩ : ∃ cb co, ca = some ⟨cb, co, none⟩ := by
   obtain ⟨_, a, c, hv, h1, _, _, h4⟩ := hnode.hc
   rw [hcv, List.length_map] at hv
   rw [List.length_map] at h1
   simp only [Value.slice.injEq, true_and] at hv
   rcases h4 with h4 | ⟨b, o, h5, _⟩
   · omega
   · exact ⟨b, o, hv.1.trans h5⟩
 obtain ⟨kb, ko, kcap, hkv, k1, k2⟩ := hnode.hk.n.addr (by simp; omega)
 simp only [List.length_map] at hkv k1
 subst hcv hkv
 obtain ⟨n, hnl⟩ : ∃ n, n = kids.length := ⟨_, rfl⟩
 rw [← hnl] at hkc1 hik hnode ⊢
 obtain ⟨a1, n1, c1, a2, n2, c2, hxk, hxc⟩ := (hnode.hkids x mx).slices
 have hxw : x.t.weight < (Tr.mk k (kids.map KidT.t)).weight := by
   have h1 := Tr.weight_get_le (kids.map KidT.t) i (by rw [List.length_map]; omega)
   rw [List.getElem_map, ← hx] at h1
   simp only [Tr.weight]; omega
 have hkn : k.length + kids.length ≤ 90000 := by
   have h1 := Tr.length_le_weights (kids.map KidT.t)
   rw [List.length_map] at h1
   simp only [Tr.weight] at hN
   omega
 have hrowc : ∀ W, KeptF (fun _ _ => False) w W → W.cell? ⟨cb, co + i * 2, none⟩ = some (.slice a1 n1 c1) ∧ W.cell? ⟨cb, co + i * 2 + 1, none⟩ = some (.slice a2 n2 c2) := fun W hW => by
   obtain ⟨_, a, cap', hv, e1, e2, e3, e4⟩ := (hnode.keep hW).hc
   simp only [Value.slice.injEq] at hv
   rcases e4 with e4 | ⟨b', o', h5, h6, h7⟩
   · rw [List.length_map] at e1; omega
   · rw [← hv.1] at h5
     injection h5 with h5
     simp only [Addr.mk.injEq, and_true] at h5
     obtain ⟨rfl, rfl⟩ := h5
     have hc := h7 i (by rw [List.length_map, ← hnl]; exact hik)
     rw [List.getElem_map, ← hx] at hc
     rw [← hxk, ← hxc]
     exact hc
 obtain ⟨W1, hW1⟩ : ∃ W1, W1 = (((w.alloc (.cells #[.slice (some ⟨kb, ko, none⟩) k.length kcap, .slice (some ⟨cb, co, none⟩) n ccap] 26)).alloc (.cells #[.int .i64 (bo : Int), .int .i64 (jo : Int), .bool sh] 52)).alloc (.cells #[.slice none 0 0, .slice none 0 0] 26)).alloc (.cells #[.int .i64 0, .int .i64 0, .bool false] 52) := ⟨_, rfl⟩
 have hf1 := Four.made w (.slice (some ⟨kb, ko, none⟩) k.length kcap) (.slice (some ⟨cb, co, none⟩) n ccap) (bo : Int) (jo : Int) sh
 have hb1 : Below w.heap.size w W1 := by
   rw [hW1]
   exact ((((Below.refl _ _).alloc (Nat.le_refl _) _).alloc (by simp) _).alloc (by simp <;> omega) _).alloc (by simp <;> omega) _
 rw [← hW1] at hf1
 have hs1 : W1.heap.size = w.heap.size + 4 := by rw [hW1]; simp
 have hpl := l2Place_c W1 w.heap.size ((rowF_in hnode.hk).later hb1 (Nat.le_refl _)) key
 rw [← hi] at hpl
 obtain ⟨x1, x2, x3, x4⟩ := box2 hf1.node
 obtain ⟨OWN, hOWN⟩ : ∃ OWN, OWN = decide (Tr.ownKey key k) := ⟨_, rfl⟩
 have HPL := Lib.hid hpl
 have HW1 := Lib.hid hW1
 have HN := Lib.hid hnode
 have H1 := Lib.hid (And.intro hf1 (And.intro hb1 hs1))
 have HI := Lib.hid (And.intro hi (And.intro hx (And.intro hnl (And.intro hxk (And.intro hxc (And.intro hkx (And.intro hg hOWN)))))))
 have HX := Lib.hid (And.intro mx (And.intro hlx (And.intro hxw (And.intro hkc1 hlack))))
 have HRC := Lib.hid hrowc
 have HIH := Lib.hid IH
 have HKN := Lib.hid hkn
 have HNN := Lib.hid hN
 clear hpl hW1 hnode hf1 hb1 hi hx hnl hxk hxc hkx hg hOWN mx hlx hxw hrowc IH hkn hN hlack
 have hk9 : k.length ≤ 90000 := by have := HKN.out; omega
 have hn9 : n ≤ 90001 := by have := HX.out.2.2.2.1; omega
 clear hkc1
 unfold maxLen at k2
 go_enter Try.func99, Try.ntmps99
 go_upto_region 1 with (fail)
 rw [← HW1.out]
 go_wp2_with fail
 refine HPL.out.mono ?_
 rintro e w2 ⟨rfl, hb2⟩
 have hs2 := hb2.size
 have hf2 := H1.out.1.keep (KeptF.of_below (F := fun _ _ => False) hb2 (Nat.le_refl _)) (fun q o e => e.elim)
 have hk2 : KeptF (fun _ _ => False) w w2 := KeptF.of_below (H1.out.2.1.trans (hb2.mono (by omega))) (Nat.le_refl _)
 have hn2 := HN.out.keep hk2
 clear x1 x2 x3 x4
 obtain ⟨x1, x2, x3, x4⟩ := box2 hf2.node
 have hsz2 : w.heap.size + 4 ≤ w2.heap.size := by omega
 have hcell : i < k.length → w2.cell? ⟨kb, ko + i, none⟩ = some (.int .i64 (k.getD i 0)) := fun h => by
   have ci := (RowF.cells_of hn2.hk (by omega)).2.2.2.2 i (by simpa using h)
   rw [ci, List.getElem_map]; simp [h]
 have H2 := Lib.hid (And.intro hf2 (And.intro hk2 hn2))
 have HCELL := Lib.hid hcell
 have hi0 : (0 : Int) ≤ (i : Int) := by omega
 clear hf2 hk2 hn2 hb2 hs1 hs2 hcell
 go_upto_region 2 with (fail)
 go_cut [11] from 14 (fun s11 wx => s11 = .bool OWN ∧ wx = w2)
 case first =>
   by_cases hik2 : i < k.length
   · have ci := HCELL.out hik2
     have hii : (i : Int) < (k.length : Int) := by omega
     obtain ⟨ki, hki⟩ : ∃ ki, ki = k.getD i 0 := ⟨_, rfl⟩
     rw [← hki] at ci
     have HKI := Lib.hid hki
     clear hki
     by_cases he : ki = key
     · have HE := Lib.hid he
       go_wp2_with fail
       go_meet
       refine ⟨?_, rfl⟩
       have : OWN = true := by rw [HI.out.2.2.2.2.2.2.2]; exact decide_eq_true ⟨by rw [← HI.out.1]; exact hik2, by rw [← HI.out.1, ← HKI.out]; exact HE.out⟩
       rw [this]
     · have HE := Lib.hid he
       go_wp2_with fail
       go_meet
       refine ⟨?_, rfl⟩
       have : OWN = false := by rw [HI.out.2.2.2.2.2.2.2]; exact decide_eq_false (fun h => HE.out (by rw [HKI.out, HI.out.1]; exact h.2))
       rw [this]
       try exact congrArg Value.bool (beq_eq_false_iff_ne.2 HE.out)
   · have hii : ¬ (i : Int) < (k.length : Int) := by omega
     go_wp2_with fail
     go_meet
     refine ⟨?_, rfl⟩
     have : OWN = false := by rw [HI.out.2.2.2.2.2.2.2]; exact decide_eq_false (fun h => hik2 (by rw [HI.out.1]; exact h.1))
     rw [this]
 case rest =>
 obtain ⟨rfl, rfl⟩ := hcut
 rename World => w2
 have hn0 : ¬ ((n : Int) == 0) = true := by have : 0 < n := by omega
                                            simp; omega
 have hn0' : ((n : Int) == 0) = false := by simpa using hn0
 clear hn0
 go_upto_if 43 with (fail)
 go_cut [2] from 14 (fun s2 wx => s2 = .int .i64 (if OWN then g else key) ∧ Node4 wx F Fk Fc (.slice (some ⟨kb, ko, none⟩) k.length kcap) (.slice (some ⟨cb, co, none⟩) n ccap) (if OWN then k.set i g else k) kids ∧
     Four wx w.heap.size (.slice (some ⟨kb, ko, none⟩) k.length kcap) (.slice (some ⟨cb, co, none⟩) n ccap) (bo : Int) (jo : Int) sh ∧ KeptF Fk w wx ∧ w.heap.size + 4 ≤ wx.heap.size ∧
     wx.cell? ⟨cb, co + i * 2, none⟩ = some (.slice a1 n1 c1) ∧ wx.cell? ⟨cb, co + i * 2 + 1, none⟩ = some (.slice a2 n2 c2))
 case first =>
   cases OWN with
   | false =>
     go_wp2_with fail
     go_meet
     exact ⟨rfl, H2.out.2.2, H2.out.1, H2.out.2.1.mono (fun _ _ _ e => e.elim), hsz2, (HRC.out w2 H2.out.2.1).1, (HRC.out w2 H2.out.2.1).2⟩
   | true =>
     have hown : Tr.ownKey key k := of_decide_eq_true HI.out.2.2.2.2.2.2.2.symm
     have hik2 : i < k.length := by rw [HI.out.1]; exact hown.1
     have hii : (i : Int) < (k.length : Int) := by omega
     have hin : (i : Int) < (n : Int) := by omega
     obtain ⟨r1, r2⟩ := HRC.out w2 H2.out.2.1
     have htx := (H2.out.2.2.hkids x HX.out.1).tree
     rw [HI.out.2.2.2.1, HI.out.2.2.2.2.1] at htx
     have hgr := specGreatest_c htx HX.out.2.1.2.1 (by have := HX.out.2.2.1; have := HNN.out; omega) w2 (Below.refl _ _) (Nat.le_refl _)
     rw [← HI.out.2.2.2.2.2.2.1] at hgr
     have HGR := Lib.hid hgr
     clear htx hgr hown
     go_wp2_with fail
     refine HGR.out.mono ?_
     rintro e w3 ⟨rfl, hb3⟩
     have hk3 := KeptF.of_below (F := fun _ _ => False) hb3 (Nat.le_refl _)
     have hf3 := H2.out.1.keep hk3 (fun q o e => e.elim)
     have hn3 := H2.out.2.2.keep hk3
     have hkw3 : KeptF (fun _ _ => False) w w3 := H2.out.2.1.trans (hk3.mono (fun _ _ _ e => e.elim))
     have hs3 := hk3.size
     clear x1 x2 x3 x4 r1 r2
     obtain ⟨x1, x2, x3, x4⟩ := box2 hf3.node
     obtain ⟨-, hfr, hcl⟩ : True ∧ w3.frozen? ⟨kb, ko + i, none⟩ = false ∧ (w3.cell? ⟨kb, ko + i, none⟩).isSome = true := by
       have := (RowF.cells_of hn3.hk (by omega)).2.2.2.1 i (by omega)
       exact ⟨trivial, this.2.2, this.2.1⟩
     obtain ⟨u3, hu3⟩ := Option.isSome_iff_exists.1 hcl
     clear hcl
     have H3 := Lib.hid (And.intro hf3 (And.intro hn3 (And.intro hkw3 hs3)))
     clear hk3 hf3 hn3 hkw3 hs3 hb3
     go_wp2_with fail
     go_meet
     obtain ⟨hf3, hn3, hkw3, hs3⟩ := H3.out
     obtain ⟨m1, m2⟩ := hn3.setKey i hik2 g
     have hG : ∀ q o, Fk q o → q < w.heap.size := fun q o e => HN.out.lt q o (HN.out.sk q o e)
     have hkx : KeptF Fk w (w3.setCell ⟨kb, ko + i, none⟩ (.int .i64 g)) := (hkw3.mono (fun _ _ _ e => e.elim)).trans (m2.mono (fun _ _ _ e => .inl e))
     have hcc := HRC.out w3 hkw3
     have ap := List.pairwise_cons.1 HN.out.ap
     have hne : ∀ o', ¬ (⟨cb, o', none⟩ : Addr) = ⟨kb, ko + i, none⟩ → (w3.setCell ⟨kb, ko + i, none⟩ (.int .i64 g)).cell? ⟨cb, o', none⟩ = w3.cell? ⟨cb, o', none⟩ := fun o' h => World.cell?_setCell_other _ _ _ _ (fun e => h e.symm)
     have hrow : ∀ j, j < 2 → (w3.setCell ⟨kb, ko + i, none⟩ (.int .i64 g)).cell? ⟨cb, co + (i * 2 + j), none⟩ = w3.cell? ⟨cb, co + (i * 2 + j), none⟩ := fun j hj => by
       refine hne _ (fun e => ?_)
       simp only [Addr.mk.injEq, and_true] at e
       obtain ⟨e1, e2⟩ := e
       have c1 := (RowF.cells_of hn3.hk (by omega)).2.2.2.1 i (by omega)
       have hcr := hn3.hc.n
       rw [List.length_map, ← HI.out.2.2.1] at hcr
       have hcp : 0 < ccap := by
         obtain ⟨_, _, a, c, hv, h1, _⟩ := hcr
         simp only [Value.slice.injEq, true_and] at hv
         omega
       have h4 := hcr.cells_of hcp
       have c2 := (h4.2.2.1 (i * 2 + j) (by have := h4.1; omega)).1
       rw [e1, e2] at c2
       exact ap.1 Fc (by simp) _ _ c1.1 c2
     refine ⟨rfl, m1, hf3.keep m2 (fun q o e => .inl (hG q o e)), hkx, Nat.le_trans hsz2 (Nat.le_trans hs3 m2.size), ?_, ?_⟩
     · have := hrow 0 (by omega)
       rw [Nat.add_zero] at this
       rw [this]; exact hcc.1
     · have := hrow 1 (by omega)
       rw [← Nat.add_assoc] at this
       rw [this]; exact hcc.2
 case rest =>
 obtain ⟨rfl, hn5, hf5, hk5, hs5, r1, r2⟩ := hcut
 rename World => w5
 obtain ⟨key2, hkey2⟩ : ∃ key2, key2 = if OWN then g else key := ⟨_, rfl⟩
 obtain ⟨k2', hk2'⟩ : ∃ k2', k2' = if OWN then k.set i g else k := ⟨_, rfl⟩
 rw [← hk2'] at hn5
 rw [← hkey2]
 have hlx2 : Tr.Lacks key2 x.t := by
   have h := HX.out.2.1
   have e : (if Tr.ownKey key k then x.t.greatest else key) = key2 := by
     rw [hkey2, HI.out.2.2.2.2.2.2.2, HI.out.2.2.2.2.2.2.1]
     by_cases ho : Tr.ownKey key k <;> simp [ho]
   rw [← e]; exact h
 obtain ⟨D, hD⟩ : ∃ D, D = Tr.del (wide / 2) N key2 x.t := ⟨_, rfl⟩
 obtain ⟨DB, hDB⟩ : ∃ DB, DB = bo + D.b := ⟨_, rfl⟩
 obtain ⟨DJ, hDJ⟩ : ∃ DJ, DJ = jo + D.j := ⟨_, rfl⟩
 have hcall : ∀ W, KeptF (fun _ _ => False) w5 W → Calls Try.prog 99 #[.agg #[.slice a1 n1 c1, .slice a2 n2 c2], .int .i64 wide, .int .i64 key2, .agg #[.int .i64 (bo : Int), .int .i64 (jo : Int), .bool sh]] W (DoneS w5 W x.F ⟨D.t, DB, DJ⟩ sh) := fun W hW => by
   have ht := ((hn5.hkids x HX.out.1).keep hW (fun _ _ _ e => e))
   rw [HI.out.2.2.2.1, HI.out.2.2.2.2.1] at ht
   have h := HIH.out key2 x.t hlx2 HX.out.2.2.1 W x.F _ _ bo jo sh ht (by omega) (by omega)
   rw [← hD, ← hDB, ← hDJ] at h
   refine h.mono ?_
   rintro e w' ⟨kv, cv, F', h1, h2, h3, h4⟩
   exact ⟨kv, cv, F', h1, h2, h3, (hW.mono (fun _ _ _ e => e.elim)).trans (h4.mono (fun _ _ _ e => .inl e)), h4⟩
 have HCALL := Lib.hid hcall
 have H5 := Lib.hid (And.intro hn5 (And.intro hf5 (And.intro hk5 (And.intro hkey2 (And.intro hk2' (And.intro hlx2 (And.intro hD (And.intro hDB hDJ))))))))
 obtain ⟨x1, x2, x3, x4⟩ := box2 hf5.node
 obtain ⟨y1, y2, y3, y4, y5, y6⟩ := box3 hf5.rep
 have hin : (i : Int) < (n : Int) := by omega
 have hcc : ∀ W, KeptF x.F w5 W → W.cell? ⟨cb, co + i * 2, none⟩ = some (.slice a1 n1 c1) ∧ W.cell? ⟨cb, co + i * 2 + 1, none⟩ = some (.slice a2 n2 c2) := fun W hW => by
   have ap := List.pairwise_cons.1 hn5.ap
   have cx := (List.pairwise_cons.1 ap.2).1 x.F (List.mem_map_of_mem HX.out.1)
   have hcr := hn5.hc.n
   rw [List.length_map, ← HI.out.2.2.1] at hcr
   have hcp : 0 < ccap := by
     obtain ⟨_, _, a, c, hv, h1, _⟩ := hcr
     simp only [Value.slice.injEq, true_and] at hv
     omega
   have h4 := hcr.cells_of hcp
   have q0 := (h4.2.2.1 (i * 2) (by have := h4.1; omega))
   have q1 := (h4.2.2.1 (i * 2 + 1) (by have := h4.1; omega))
   rw [← Nat.add_assoc] at q1
   exact ⟨(hW.cell _ _ (lt_of_there q0.2.1) (cx _ _ q0.1)).trans r1, (hW.cell _ _ (lt_of_there q1.2.1) (cx _ _ q1.1)).trans r2⟩
 have HCC := Lib.hid hcc
 have hxl : ∀ q o, x.F q o → q < w5.heap.size := fun q o e => by have := HN.out.lt q o (HN.out.ss x HX.out.1 q o e); omega
 have HXL := Lib.hid hxl
 have hcbl : cb < w5.heap.size := World.block_lt_of_cell? w5 _ r1
 have d1 : ¬ w5.heap.size = w.heap.size := by omega
 have d2 : ¬ w5.heap.size = w.heap.size + 1 := by omega
 have d3 : ¬ w5.heap.size = cb := by omega
 have d4 : ¬ w5.heap.size + 1 = w.heap.size := by omega
 have d5 : ¬ w5.heap.size + 1 = w.heap.size + 1 := by omega
 have d6 : ¬ w5.heap.size + 1 = cb := by omega
 clear hxl
 clear hcc
 clear hcall hn5 hf5 hk5 hkey2 hk2' hlx2 hD hDB hDJ H2 HRC HCELL
 go_upto_region 9 with (fail)
 go_cut [12, 13] from 14 (fun s12 s13 wx => ∃ p q, s12 = .pointer (some ⟨p, 0, none⟩) ∧ s13 = .pointer (some ⟨q, 0, none⟩) ∧ After w5 wx x.F ⟨D.t, DB, DJ⟩ sh p q)
 case first =>
   go_region_held3 (fun u => u.cell? ⟨w.heap.size, 1, none⟩ = some (.slice (some ⟨cb, co, none⟩) n ccap) ∧ u.cell? ⟨cb, co + i * 2, none⟩ = some (.slice a1 n1 c1) ∧ u.cell? ⟨cb, co + i * 2 + 1, none⟩ = some (.slice a2 n2 c2) ∧
       u.cell? ⟨w.heap.size + 1, 0, none⟩ = some (.int .i64 (bo : Int)) ∧ u.cell? ⟨w.heap.size + 1, 1, none⟩ = some (.int .i64 (jo : Int)) ∧ u.cell? ⟨w.heap.size + 1, 2, none⟩ = some (.bool sh))
     (first | (with_reducible exact ⟨x2, r1, r2, y1, y2, y3⟩) | (with_reducible exact ⟨s1, s2, s3, s4, s5, s6⟩) | go_keep)
     (first
       | (go_at_call 99; (with_reducible show Calls _ _ _ (w5.drew) _); refine (HCALL.out _ (KeptF.drew _ w5)).mono ?_; rintro e w6 ⟨kv6, cv6, F6, rfl, ht6, hF6, hk6, hW6⟩; obtain ⟨e1, e2, e3, e4, e5, e6, rfl, rfl⟩ := ht6.slices; have hf6 := H5.out.2.1.keep hk6 (fun q o e => .inl (HN.out.lt q o (HN.out.ss x HX.out.1 q o e))); obtain ⟨-, s1, -⟩ := box2 hf6.node; obtain ⟨s4, s5, s6, -⟩ := box3 hf6.rep; obtain ⟨s2, s3⟩ := HCC.out w6 hk6; have H6 := Lib.hid (And.intro ht6 (And.intro hF6 (And.intro hk6 (And.intro hW6 hf6)))); clear ht6 hF6 hk6 hW6 hf6)
       | (go_at_call 99; (with_reducible show Calls _ _ _ ((w5.alloc (.cells #[.slice none 0 0, .slice none 0 0] 26)).drew) _); refine (HCALL.out _ ((KeptF.alloc _ w5 _).drew')).mono ?_; rintro e w6 ⟨kv6, cv6, F6, rfl, ht6, hF6, hk6, hW6⟩; obtain ⟨e1, e2, e3, e4, e5, e6, rfl, rfl⟩ := ht6.slices; have hf6 := H5.out.2.1.keep hk6 (fun q o e => .inl (HN.out.lt q o (HN.out.ss x HX.out.1 q o e))); obtain ⟨-, s1, -⟩ := box2 hf6.node; obtain ⟨s4, s5, s6, -⟩ := box3 hf6.rep; obtain ⟨s2, s3⟩ := HCC.out w6 hk6; have t6 := hW6.block' (show ((w5.alloc (.cells #[.slice none 0 0, .slice none 0 0] 26)).drew).heap[w5.heap.size]? = _ from new_blk _ _) (fun o e => by have := HXL.out _ o e; omega); obtain ⟨m1, m2, m3, m4⟩ := box2 t6; obtain ⟨a21, a22, a23, a24⟩ := box2 ((old_blk w6 (.cells #[.int .i64 0, .int .i64 0, .bool false] 52) _ (Array.getElem?_eq_some_iff.1 t6).1).trans t6); have d7 : ¬ w5.heap.size = w6.heap.size := (by have := (Array.getElem?_eq_some_iff.1 t6).1; omega); have d8 : ¬ w6.heap.size = w5.heap.size := (by omega); have d9 : w5.heap.size < w6.heap.size := (Array.getElem?_eq_some_iff.1 t6).1; have H6 := Lib.hid (And.intro ht6 (And.intro hF6 (And.intro hk6 (And.intro hW6 hf6)))); clear ht6 hF6 hk6 hW6 hf6)
       | (go_at_call 99; (with_reducible show Calls _ _ _ ((w5.alloc (.cells #[.int .i64 0, .int .i64 0, .bool false] 52)).drew) _); refine (HCALL.out _ ((KeptF.alloc _ w5 _).drew')).mono ?_; rintro e w6 ⟨kv6, cv6, F6, rfl, ht6, hF6, hk6, hW6⟩; obtain ⟨e1, e2, e3, e4, e5, e6, rfl, rfl⟩ := ht6.slices; have hf6 := H5.out.2.1.keep hk6 (fun q o e => .inl (HN.out.lt q o (HN.out.ss x HX.out.1 q o e))); obtain ⟨-, s1, -⟩ := box2 hf6.node; obtain ⟨s4, s5, s6, -⟩ := box3 hf6.rep; obtain ⟨s2, s3⟩ := HCC.out w6 hk6; have t6 := hW6.block' (show ((w5.alloc (.cells #[.int .i64 0, .int .i64 0, .bool false] 52)).drew).heap[w5.heap.size]? = _ from new_blk _ _) (fun o e => by have := HXL.out _ o e; omega); obtain ⟨m1, m2, m3, m4, m5, m6⟩ := box3 t6; obtain ⟨a21, a22, a23, a24, a25, a26⟩ := box3 ((old_blk w6 (.cells #[.slice e1 e2 e3, .slice e4 e5 e6] 26) _ (Array.getElem?_eq_some_iff.1 t6).1).trans t6); obtain ⟨b21, b22, b23, b24, b25, b26⟩ := box3 ((old_blk w6 (.cells #[.slice none 0 0, .slice none 0 0] 26) _ (Array.getElem?_eq_some_iff.1 t6).1).trans t6); have d7 : ¬ w5.heap.size = w6.heap.size := (by have := (Array.getElem?_eq_some_iff.1 t6).1; omega); have d8 : ¬ w6.heap.size = w5.heap.size := (by omega); have d9 : w5.heap.size < w6.heap.size := (Array.getElem?_eq_some_iff.1 t6).1; have H6 := Lib.hid (And.intro ht6 (And.intro hF6 (And.intro hk6 (And.intro hW6 hf6)))); clear ht6 hF6 hk6 hW6 hf6)
       | (go_at_call 99; (with_reducible show Calls _ _ _ (((w5.alloc (.cells #[.slice none 0 0, .slice none 0 0] 26)).alloc (.cells #[.int .i64 0, .int .i64 0, .bool false] 52)).drew) _); refine (HCALL.out _ (((KeptF.alloc _ w5 _).alloc' _).drew')).mono ?_; rintro e w6 ⟨kv6, cv6, F6, rfl, ht6, hF6, hk6, hW6⟩; obtain ⟨e1, e2, e3, e4, e5, e6, rfl, rfl⟩ := ht6.slices; have hf6 := H5.out.2.1.keep hk6 (fun q o e => .inl (HN.out.lt q o (HN.out.ss x HX.out.1 q o e))); obtain ⟨-, s1, -⟩ := box2 hf6.node; obtain ⟨s4, s5, s6, -⟩ := box3 hf6.rep; obtain ⟨s2, s3⟩ := HCC.out w6 hk6; have t6 := hW6.block' (show (((w5.alloc (.cells #[.slice none 0 0, .slice none 0 0] 26)).alloc (.cells #[.int .i64 0, .int .i64 0, .bool false] 52)).drew).heap[w5.heap.size]? = _ from (old_blk _ _ _ (by simp)).trans (new_blk _ _)) (fun o e => by have := HXL.out _ o e; omega); obtain ⟨m1, m2, m3, m4⟩ := box2 t6; have u6 := hW6.block' (show (((w5.alloc (.cells #[.slice none 0 0, .slice none 0 0] 26)).alloc (.cells #[.int .i64 0, .int .i64 0, .bool false] 52)).drew).heap[w5.heap.size + 1]? = _ from (by rw [show w5.heap.size + 1 = (w5.alloc (.cells #[.slice none 0 0, .slice none 0 0] 26)).heap.size by simp]; exact new_blk _ _)) (fun o e => by have := HXL.out _ o e; omega); obtain ⟨n1, n2, n3, n4, n5, n6⟩ := box3 u6; have H6 := Lib.hid (And.intro ht6 (And.intro hF6 (And.intro hk6 (And.intro hW6 hf6)))); clear ht6 hF6 hk6 hW6 hf6)
       | (go_at_call 99; (with_reducible show Calls _ _ _ (((w5.alloc (.cells #[.int .i64 0, .int .i64 0, .bool false] 52)).alloc (.cells #[.slice none 0 0, .slice none 0 0] 26)).drew) _); refine (HCALL.out _ (((KeptF.alloc _ w5 _).alloc' _).drew')).mono ?_; rintro e w6 ⟨kv6, cv6, F6, rfl, ht6, hF6, hk6, hW6⟩; obtain ⟨e1, e2, e3, e4, e5, e6, rfl, rfl⟩ := ht6.slices; have hf6 := H5.out.2.1.keep hk6 (fun q o e => .inl (HN.out.lt q o (HN.out.ss x HX.out.1 q o e))); obtain ⟨-, s1, -⟩ := box2 hf6.node; obtain ⟨s4, s5, s6, -⟩ := box3 hf6.rep; obtain ⟨s2, s3⟩ := HCC.out w6 hk6; have t6 := hW6.block' (show (((w5.alloc (.cells #[.int .i64 0, .int .i64 0, .bool false] 52)).alloc (.cells #[.slice none 0 0, .slice none 0 0] 26)).drew).heap[w5.heap.size]? = _ from (old_blk _ _ _ (by simp)).trans (new_blk _ _)) (fun o e => by have := HXL.out _ o e; omega); obtain ⟨m1, m2, m3, m4, m5, m6⟩ := box3 t6; have u6 := hW6.block' (show (((w5.alloc (.cells #[.int .i64 0, .int .i64 0, .bool false] 52)).alloc (.cells #[.slice none 0 0, .slice none 0 0] 26)).drew).heap[w5.heap.size + 1]? = _ from (by rw [show w5.heap.size + 1 = (w5.alloc (.cells #[.int .i64 0, .int .i64 0, .bool false] 52)).heap.size by simp]; exact new_blk _ _)) (fun o e => by have := HXL.out _ o e; omega); obtain ⟨n1, n2, n3, n4⟩ := box2 u6; have H6 := Lib.hid (And.intro ht6 (And.intro hF6 (And.intro hk6 (And.intro hW6 hf6)))); clear ht6 hF6 hk6 hW6 hf6)
       | fail)
   all_goals (
     go_wp2_with fail
     go_meet
     refine ⟨_, _, rfl, rfl, ?_⟩
     first
       | (with_reducible refine after_1 (D := ⟨D.t, DB, DJ⟩) H6.out.1 H6.out.2.1 H6.out.2.2.1 HXL.out ?_)
       | (with_reducible refine after_2 (D := ⟨D.t, DB, DJ⟩) H6.out.1 H6.out.2.1 H6.out.2.2.1 HXL.out ?_)
       | (with_reducible refine after_3 (D := ⟨D.t, DB, DJ⟩) t6 H6.out.1 H6.out.2.1 H6.out.2.2.1 HXL.out ?_)
       | (with_reducible refine after_5 (D := ⟨D.t, DB, DJ⟩) t6 H6.out.1 H6.out.2.1 H6.out.2.2.1 HXL.out ?_)
       | (with_reducible refine after_4 (D := ⟨D.t, DB, DJ⟩) t6 u6 H6.out.1 H6.out.2.1 H6.out.2.2.1 HXL.out ?_)
       | (with_reducible refine after_6 (D := ⟨D.t, DB, DJ⟩) u6 t6 H6.out.1 H6.out.2.1 H6.out.2.2.1 HXL.out ?_)
       | fail
     simp)
 case rest =>
 obtain ⟨p, q, rfl, rfl, hafter⟩ := hcut
 rename World => w8
 obtain ⟨e1, e2, e3, e4, e5, e6, F6, bp, bq, ht6, hF6, hk6, hp5, hq5, hnp, hnq⟩ := hafter
 dsimp only at bq ht6
 have hf8 := H5.out.2.1.keep hk6 (fun q o e => .inl (HN.out.lt q o (HN.out.ss x HX.out.1 q o e)))
 have hz8 := hk6.size
 have hxi : x = kids[i]'(by rw [← HI.out.2.2.1]; exact hik) := HI.out.2.1
 obtain ⟨W9, hW9⟩ : ∃ W9, W9 = (w8.setCell ⟨cb, co + i * 2, none⟩ (.slice e1 e2 e3)).setCell ⟨cb, co + i * 2 + 1, none⟩ (.slice e4 e5 e6) := ⟨_, rfl⟩
 have hset := Node4.setKid (w5 := w8) (F6 := F6) (kv6 := .slice e1 e2 e3) (cv6 := .slice e4 e5 e6) (t6 := D.t) H5.out.1 i (by rw [← HI.out.2.2.1]; exact hik) (by rw [← hxi]; exact hk6) ht6 (by rw [← hxi]; exact hF6)
 rw [← hW9] at hset
 obtain ⟨hn9', hk9'⟩ := hset
 obtain ⟨hc8, hc8', hfz8, hfz8'⟩ : w8.cell? ⟨cb, co + i * 2, none⟩ = some (.slice a1 n1 c1) ∧ w8.cell? ⟨cb, co + i * 2 + 1, none⟩ = some (.slice a2 n2 c2) ∧ w8.frozen? ⟨cb, co + i * 2, none⟩ = false ∧ w8.frozen? ⟨cb, co + i * 2 + 1, none⟩ = false := by
   have hcr := H5.out.1.hc.n
   rw [List.length_map, ← HI.out.2.2.1] at hcr
   have hcp : 0 < ccap := by
     obtain ⟨_, _, a, c, hv, h1, _⟩ := hcr
     simp only [Value.slice.injEq, true_and] at hv
     omega
   have h4 := hcr.cells_of hcp
   have q0 := (h4.2.2.1 (i * 2) (by have := h4.1; omega))
   have q1 := (h4.2.2.1 (i * 2 + 1) (by have := h4.1; omega))
   rw [← Nat.add_assoc] at q1
   obtain ⟨m1, m2⟩ := HCC.out w8 hk6
   exact ⟨m1, m2, (hk6.frozen _ _ (lt_of_there q0.2.1)).trans q0.2.2, (hk6.frozen _ _ (lt_of_there q1.2.1)).trans q1.2.2⟩
 have hFcl : ∀ q o, Fc q o → q < w.heap.size := fun q o e => HN.out.lt q o (HN.out.sc q o e)
 have hf9 := hf8.keep hk9' (fun q o e => .inl (hFcl q o e))
 have bp9 := hk9'.block' bp (fun o e => by have := hFcl _ o e; omega)
 have bq9 := hk9'.block' bq (fun o e => by have := hFcl _ o e; omega)
 have hlen9 : (kids.set i ⟨.slice e1 e2 e3, .slice e4 e5 e6, F6, D.t⟩).length = n := by rw [List.length_set]; exact HI.out.2.2.1.symm
 have hk2l : k2'.length = k.length := by
   rw [H5.out.2.2.2.2.1]; split <;> simp
 have hless : Tr.Less D.t x.t.ks x.t.cs := by
   rw [H5.out.2.2.2.2.2.2.1]
   have hl := H5.out.2.2.2.2.2.1
   generalize x.t = u at hl
   obtain ⟨a, d⟩ := u
   cases N with
   | zero => exact ⟨hl.1.fits.2.1, Nat.le_refl _, Nat.le_refl _⟩
   | succ N => exact Tr.del_less N _ _ _ hl
 have hszk : ∀ z, z ∈ kids → z.t.ks.length ≤ 100000 ∧ z.t.cs.length ≤ 100000 ∧ Tr.Shaped z.t := fun z hz => by
   obtain ⟨j, hj, rfl⟩ := List.getElem_of_mem hz
   have h1 := Tr.weight_get_le (kids.map KidT.t) j (by rw [List.length_map]; exact hj)
   have h2 := Tr.Well.kid HX.out.2.2.2.2.1 j (by rw [List.length_map]; exact hj)
   rw [List.getElem_map] at h1 h2
   have hNN := HNN.out
   generalize (kids[j]).t = u at h1 h2 ⊢
   have h3 := h2.fits
   obtain ⟨a, d⟩ := u
   have h4 := Tr.length_le_weights d
   simp only [Tr.weight] at h1 hNN
   exact ⟨by show a.length ≤ _; omega, by show d.length ≤ _; omega, h3.2.1⟩
 have hsz9 : ∀ z, z ∈ kids.set i ⟨.slice e1 e2 e3, .slice e4 e5 e6, F6, D.t⟩ → z.t.ks.length ≤ 100000 ∧ z.t.cs.length ≤ 100000 ∧ Tr.Shaped z.t := fun z hz => by
   rcases List.mem_or_eq_of_mem_set hz with hz | rfl
   · exact hszk z hz
   · have h1 := hszk x HX.out.1
     exact ⟨Nat.le_trans hless.2.1 h1.1, Nat.le_trans hless.2.2 h1.2.1, hless.1⟩
 have hcount := Tr.del_count (half := wide / 2) N key2 x.t
 rw [← H5.out.2.2.2.2.2.2.1] at hcount
 have hDBe := H5.out.2.2.2.2.2.2.2.1
 have hDJe := H5.out.2.2.2.2.2.2.2.2
 have hrep := l4Repair_c wide hwide W9 _ Fk Fc _ _ k2' _ hn9' i (by rw [hlen9]; exact hik) (by rw [hlen9, hk2l]; exact HX.out.2.2.2.1) (by omega) (by rw [hlen9]; omega) hsz9 DB DJ (by omega) (by omega) sh
 obtain ⟨E, hE⟩ : ∃ E, E = Tr.repair (wide / 2) k2' ((kids.set i ⟨.slice e1 e2 e3, .slice e4 e5 e6, F6, D.t⟩).map KidT.t) i DB DJ := ⟨_, rfl⟩
 rw [← hE] at hrep
 have hres : (⟨(Tr.del (wide / 2) (N + 1) key (Tr.mk k (kids.map KidT.t))).t, bo + (Tr.del (wide / 2) (N + 1) key (Tr.mk k (kids.map KidT.t))).b, jo + (Tr.del (wide / 2) (N + 1) key (Tr.mk k (kids.map KidT.t))).j⟩ : Tr.Del) = E := by
   have hc0 : (kids.map KidT.t).length ≠ 0 := by rw [List.length_map]; exact h0
   have hkx := HI.out.2.2.2.2.2.1
   have hi := HI.out.1
   have hmap : (kids.set i ⟨.slice e1 e2 e3, .slice e4 e5 e6, F6, D.t⟩).map KidT.t = Tr.setKid (kids.map KidT.t) i D.t := by
     rw [List.map_set]
     unfold Tr.setKid
     exact List.set_eq_take_append_cons_drop.trans (by rw [if_pos (by rw [List.length_map, ← HI.out.2.2.1]; exact hik)])
   rw [hE, hmap, hDBe, hDJe, Tr.repair_off]
   have hkey2 := H5.out.2.2.2.1
   have hk2e := H5.out.2.2.2.2.1
   have hDe := H5.out.2.2.2.2.2.2.1
   by_cases ho : Tr.ownKey key k
   · have hO : OWN = true := by rw [HI.out.2.2.2.2.2.2.2]; exact decide_eq_true ho
     rw [hO, if_pos rfl] at hkey2 hk2e
     rw [Tr.del_hit hc0 ho, ← hi, hkx, ← HI.out.2.2.2.2.2.2.1, ← hkey2, ← hDe, hkey2, ← hk2e]
   · have hO : OWN = false := by rw [HI.out.2.2.2.2.2.2.2]; exact decide_eq_false ho
     rw [hO, if_neg (by simp)] at hkey2 hk2e
     rw [Tr.del_miss hc0 ho, ← hi, hkx, ← hkey2, ← hDe, ← hk2e]
 have HRES := Lib.hid hres
 have HREP := Lib.hid hrep
 have H9 := Lib.hid (And.intro hf9 (And.intro hk9' (And.intro hk6 (And.intro hF6 (And.intro hn9' hz8)))))
 have HW9 := Lib.hid hW9
 obtain ⟨x1, x2, x3, x4⟩ := box2 hf8.node
 obtain ⟨p1, p2, p3, p4⟩ := box2 bp
 clear hn9' hk9' hlen9 hk2l hless hszk hsz9 hcount hDBe hDJe hrep hE hres hW9 hxi hF6 hk6 ht6 hnp hnq hFcl hf8 hz8
 go_upto_region 10 with (fail)
 go_cut [] from 14 (fun wx => wx = W9)
 case first =>
   go_wp2_with fail
   go_meet
   exact HW9.out.symm
 case rest =>
 subst hcut
 clear x1 x2 x3 x4 p1 p2 p3 p4 hc8 hc8' hfz8 hfz8' bp bq
 obtain ⟨x1, x2, x3, x4⟩ := box2 H9.out.1.node
 obtain ⟨y1, y2, y3, y4, y5, y6⟩ := box3 bq9
 clear bp9 bq9 hf9
 go_upto_region 11 with (fail)
 go_wp2_with fail
 refine HREP.out.mono ?_
 rintro e w10 ⟨kv10, cv10, F10, rfl, ht10, hF10, hk10⟩
 obtain ⟨g1, g2, g3, g4, g5, g6, rfl, rfl⟩ := ht10.slices
 have hltF : ∀ q o, (F q o ∨ F6 q o) → q < w.heap.size ∨ w.heap.size + 4 ≤ q := fun q o e => by
   rcases e with e | e
   · exact .inl (HN.out.lt q o e)
   · rcases H9.out.2.2.2.1 q o e with e | e
     · exact .inl (HN.out.lt q o (HN.out.ss x HX.out.1 q o e))
     · right; omega
 have hf10 := H9.out.1.keep hk10 hltF
 have H10 := Lib.hid (And.intro ht10 (And.intro hF10 (And.intro hk10 hf10)))
 clear x1 x2 x3 x4 y1 y2 y3 y4 y5 y6 ht10 hF10 hk10 hltF
 obtain ⟨x1, x2, x3, x4⟩ := box2 hf10.out
 obtain ⟨y1, y2, y3, y4, y5, y6⟩ := box3 hf10.outr
 clear hf10
 go_wp2_with fail
 clear x1 x2 x3 x4 y1 y2 y3 y4 y5 y6
 generalize hW : World.setCell _ _ _ = W8
 have he : Ends w10 W8 w.heap.size (.slice g1 g2 g3) (.slice g4 g5 g6) (E.b : Int) (E.j : Int) sh := by
   rw [← hW]
   exact ends_a H10.out.2.2.2.out H10.out.2.2.2.outr _ _ _ _ _
 obtain ⟨q1, q2, q3, q4, q5, hk⟩ := he
 have HK := Lib.hid hk
 clear hk hW
 refine bodyPost_ret (v := .tuple #[.agg #[.slice g1 g2 g3, .slice g4 g5 g6], .agg #[.int .i64 (E.b : Int), .int .i64 (E.j : Int), .bool sh]]) (by simp [results, Try.results99, go_sem, q1, q2, q3, q4, q5]) rfl ?_
 rw [HRES.out]
 obtain ⟨ht10, hF10, hk10, hf10⟩ := H10.out
 obtain ⟨hf9, hk9, hk6, hF6, hn9, hz8⟩ := H9.out
 have hz9 := hk9.size
 have hz10 := hk10.size
 have hFlt := HN.out.lt
 have hF6w : ∀ q o, F6 q o → F q o ∨ w.heap.size ≤ q := fun q o e => by
   rcases hF6 q o e with e | e
   · exact .inl (HN.out.ss x HX.out.1 q o e)
   · right; omega
 refine ⟨_, _, F10, rfl, ht10.keep HK.out (fun q o a e => ?_), fun q o a => ?_, ?_⟩
 · rcases hF10 q o a with (h | h) | h
   · have := hFlt q o h; omega
   · rcases hF6 q o h with h | h
     · have := hFlt q o (HN.out.ss x HX.out.1 q o h); omega
     · omega
   · omega
 · rcases hF10 q o a with (h | h) | h
   · exact .inl h
   · exact hF6w q o h
   · right; omega
 · have a1 := H5.out.2.2.1.mono (G := F) (fun q o _ e => HN.out.sk q o e)
   have a2 := a1.trans (hk6.mono (fun q o _ e => .inl (HN.out.ss x HX.out.1 q o e)))
   have a3 := a2.trans (hk9.mono (fun q o _ e => .inl (HN.out.sc q o e)))
   have a4 := a3.trans (hk10.mono (fun q o _ e => e.elim .inl (hF6w q o)))
   exact a4.trans (HK.out.mono (fun q o _ e => .inr (by omega)))
end Go.Proofs.Ytananonjomfpkaa
