/- The model's l1Build: a node above others, up to the loop over the kids. -/
import Derived.Test.YticfkfjijnfcbaaDoorProg
import Derived.Test.YticfkfjijnfcbaaDoorSh0
import Derived.Test.YticfkfjijnfcbaaDoorSh9
import Derived.Test.YticfkfjijnfcbaaDoorSh18
import Derived.Test.YticfkfjijnfcbaaDoorSh19
import Derived.Test.YticfkfjijnfcbaaDoorSh20
import Derived.Test.YticfkfjijnfcbaaDoorSown
import Derived.Deep.RegionLaw
import Derived.Deep.AppendLies
import Derived.Deep.DeepCutAuto
namespace Go.Proofs.YticfkfjijnfcbaaDoor
open Go.RowKit

theorem leastN_pos (wide d : Nat) (hw : 2 ≤ wide) (hd : 1 ≤ d) : 1 ≤ leastN wide d := by
  cases d with
  | zero => omega
  | succ d => simp only [leastN]; have : 1 ≤ wide / 2 := by omega
              omega
theorem int_eq {a b : Int} (h : a = b) : Value.int .i64 a = .int .i64 b := by rw [h]
theorem only_undrew {C r : Nat} {w w' : World} (h : Only C r w.drew w') : Only C r w w' := ⟨h.os, h.tape, h.output, h.size, h.block⟩
theorem rd_drew {w : World} {B r p : Nat} {bs : List Nat} (h : Rd w B r bs p) : Rd w.drew B r bs p := h

theorem heap_lt' {w : World} {b : Nat} {c : Array Value} {t : TypeId} {f : Nat × Nat} (h : w.heap[b]? = some (.cells c t f)) : b < w.heap.size := (Array.getElem?_eq_some_iff.1 h).1
theorem cell_of_blk' {w w' : World} {b : Nat} (h : w'.heap[b]? = w.heap[b]?) (o : Nat) : w'.cell? ⟨b, o, none⟩ = w.cell? ⟨b, o, none⟩ := World.cell?_of_block (w := w) (a := ⟨b, o, none⟩) h
theorem rd_later' {w w' : World} {B r p : Nat} {bs : List Nat} (h : Rd w B r bs p) (hb : Below w.heap.size w w') : Rd w' B r bs p := by
  have hr : r < w.heap.size := by obtain ⟨a, cap, h1, _⟩ := h; exact (Array.getElem?_eq_some_iff.1 h1).1
  exact h.later hb hr

/-- What the operations of the statement that makes a kid leave. -/
def J25 (bx r S0 z d E : Nat) (wide : Nat) (D : Int) (cvv : Value) (ka : Option Addr) (N cp : Nat) (j : Nat) (v : Value) (W : World) : Prop :=
  match j with
  | 0 => v = .pointer (some ⟨bx, 1, none⟩)
  | 1 => v = cvv
  | 2 => v = .pointer (some ⟨r, 0, none⟩)
  | 3 => v = .slice ka N cp
  | 4 => v = .int .i64 (z : Int)
  | 5 => v = .slice ka z cp
  | 6 => v = .int .i64 (wide : Int)
  | 7 => v = .int .i64 D
  | 8 => v = .int .i64 (d : Int)
  | 9 => ∃ b1 b2 b3 b4 b5 b6 t, v = .agg #[.slice b1 b2 b3, .slice b4 b5 b6] ∧ TreeQ W (fun k => S0 ≤ k ∧ k < W.heap.size) (.slice b1 b2 b3) (.slice b4 b5 b6) t ∧ t.weight ≤ z + E
  | 10 => ∃ g b1 b2 b3 b4 b5 b6 t, v = .slice (some ⟨g, 0, none⟩) 1 1 ∧ W.heap[g]? = some (.cells #[.slice b1 b2 b3, .slice b4 b5 b6] 33 (0, 0)) ∧ S0 ≤ g ∧ TreeQ W (fun k => S0 ≤ k ∧ k < W.heap.size) (.slice b1 b2 b3) (.slice b4 b5 b6) t ∧ t.weight ≤ z + E
  | _ => True
theorem J25_mono {bx r S0 z d E wide : Nat} {D : Int} {cvv : Value} {ka : Option Addr} {N cp : Nat} (hr : r < S0) (j : Nat) (v : Value) (W W' : World) (h : J25 bx r S0 z d E wide D cvv ka N cp j v W) (hb : Only W.heap.size r W W') : J25 bx r S0 z d E wide D cvv ka N cp j v W' := by
  have hsz := hb.size
  unfold J25 at h ⊢
  split at h
  all_goals first
    | exact h
    | (obtain ⟨b1, b2, b3, b4, b5, b6, t, h1, h2, h3⟩ := h; exact ⟨b1, b2, b3, b4, b5, b6, t, h1, h2.same (fun k hk => hb.block k hk.2 (by omega)) (fun k hk => ⟨hk.1, by omega⟩), h3⟩)
    | (obtain ⟨g, b1, b2, b3, b4, b5, b6, t, h1, h2, h3, h4, h5⟩ := h; exact ⟨g, b1, b2, b3, b4, b5, b6, t, h1, (hb.block _ (Array.getElem?_eq_some_iff.1 h2).1 (by omega)).trans h2, h3, h4.same (fun k hk => hb.block k hk.2 (by omega)) (fun k hk => ⟨hk.1, by omega⟩), h5⟩)
    | trivial

/-- What the operations of the statement that puts a key behind a kid leave. -/
def J29 (bx S0 : Nat) (x : Int) (kv : Value) (vb vo N cp : Nat) (j : Nat) (v : Value) (W : World) : Prop :=
  match j with
  | 0 => v = .pointer (some ⟨bx, 0, none⟩)
  | 1 => v = kv
  | 2 => v = .slice (some ⟨vb, vo, none⟩) N cp
  | 3 => v = .pointer (some ⟨vb, vo, none⟩)
  | 4 => v = .int .i64 x
  | 5 => ∃ g, v = .slice (some ⟨g, 0, none⟩) 1 1 ∧ W.heap[g]? = some (.cells #[.int .i64 x] 3 (0, 0)) ∧ S0 ≤ g
  | _ => True
theorem J29_mono {bx S0 : Nat} {x : Int} {kv : Value} {vb vo N cp : Nat} (j : Nat) (v : Value) (W W' : World) (h : J29 bx S0 x kv vb vo N cp j v W) (hb : Below W.heap.size W W') : J29 bx S0 x kv vb vo N cp j v W' := by
  unfold J29 at h ⊢
  split at h
  all_goals first
    | exact h
    | (obtain ⟨g, h1, h2, h3⟩ := h; exact ⟨g, h1, (hb.block _ (Array.getElem?_eq_some_iff.1 h2).1).trans h2, h3⟩)
    | trivial

set_option maxHeartbeats 4000000 in
set_option maxRecDepth 100000 in
theorem build_step (B r : Nat) (bs : List Nat) (wide d : Nat) (hw1 : 2 ≤ wide) (hw2 : wide ≤ 6) (hd1 : 1 ≤ d) (hd2 : d ≤ 5) (D : Int) (hD : D = d + 1)
    (ih : ∀ (w : World) (p : Nat) (v : Value) (ks : List Int), Rd w B r bs p → p + 8 ^ d ≤ 900000000 → IntsP w (fun k => k ≠ r ∧ k < w.heap.size) v ks → ks.length ≤ 100 →
      Calls Tryd.prog 138 #[.pointer (some ⟨r, 0, none⟩), v, .int .i64 wide, .int .i64 d, .bool false] w (Built w B r bs p ks.length d))
    (w : World) (p : Nat) (v : Value) (ks : List Int) (root : Bool) (h : Rd w B r bs p) (hp : p + 8 ^ (d + 1) ≤ 900000000) (hk : IntsP w (fun k => k ≠ r ∧ k < w.heap.size) v ks) (hl : ks.length ≤ 100) :
    Calls Tryd.prog 138 #[.pointer (some ⟨r, 0, none⟩), v, .int .i64 wide, .int .i64 D, .bool root] w (Built w B r bs p ks.length (d + 1)) := by
  obtain ⟨va, vc, rfl⟩ : ∃ a c, v = .slice a ks.length c := by obtain ⟨a, c, rfl, _⟩ := hk; exact ⟨_, _, rfl⟩
  obtain ⟨i0, hi0, hz0, hz1, hz2⟩ := info_parts Tryd.infoTree
  obtain ⟨i1, hi1, hy0, hy1, hy2⟩ := info_parts Tryd.appInfo
  have hE8 : 8 ≤ 8 ^ d := by have := Nat.pow_le_pow_right (show 0 < 8 by omega) hd1; omega
  have hEs : 8 ^ (d + 1) = 8 * 8 ^ d := by rw [Nat.pow_succ]; omega
  have hL1 := leastN_pos wide d hw1 hd1
  have hm := mostN_bound wide d hw2 (by omega)
  have h7 : 7 ^ d ≤ 7 ^ 5 := Nat.pow_le_pow_right (by omega) (by omega)
  have hM : mostN wide d ≤ 16806 := by omega
  have hL : leastN wide d ≤ mostN wide d := leastN_le_mostN wide d
  obtain ⟨W1, hW1⟩ : ∃ W1, W1 = w.alloc (.cells #[.slice none 0 0, .slice none 0 0] 33) := ⟨_, rfl⟩
  have hs1 : W1.heap.size = w.heap.size + 1 := by rw [hW1]; simp
  have hb1 : Below w.heap.size w W1 := by rw [hW1]; exact (Below.refl _ _).alloc (Nat.le_refl _) _
  have kb1 : W1.heap[w.heap.size]? = some (.cells #[.slice none 0 0, .slice none 0 0] 33 (0, 0)) := by rw [hW1, new_blk]
  have hD1 : (D == 1) = false := beq_eq_false_iff_ne.2 (by omega)
  have hDs : D - 1 = (d : Int) := by omega
  have hDb : D ≤ 6 := by omega
  have hDa : 2 ≤ D := by omega
  have HC1 := Lib.hid (l1Least_c wide hw2 d W1 (by omega))
  have HC2 := Lib.hid (l1Most_c wide hw2 d W1 (by omega))
  have hrl := h.lt
  have HR := Lib.hid h
  have H1 := Lib.hid (And.intro hb1 kb1)
  have HW1 := Lib.hid hW1
  have HKS := Lib.hid hk
  have HIH := Lib.hid ih
  clear h hk hb1 kb1 hW1 hD hm h7 ih
  rw [hEs] at hp
  have HEs := Lib.hid hEs
  clear hEs
  generalize leastN wide d = L at HC1 hL hL1
  generalize mostN wide d = M at HC2 hL hM
  go_enter Tryd.func138, Tryd.ntmps138
  go_wp2_with fail
  rw [← HW1.out]
  refine HC1.out.mono ?_
  rintro e w1 ⟨rfl, rfl⟩
  go_wp2_with fail
  refine HC2.out.mono ?_
  rintro e w1 ⟨rfl, rfl⟩
  go_upto_if 38 with (fail)
  go_cut [14] (fun s14 wx => ∃ low : Nat, s14 = .int .i64 low ∧ low ≤ wide ∧ 1 ≤ low ∧ wx = W1)
  case first =>
    cases root
    · go_wp2_with fail
      go_meet
      exact ⟨wide / 2, by simp [Int.natCast_ediv], by omega, by omega, rfl⟩
    · go_wp2_with fail
      go_meet
      exact ⟨1, rfl, by omega, by omega, rfl⟩
  case rest =>
    obtain ⟨low, rfl, hlow, hlow1, rfl⟩ := hcut
    go_wp2_with fail
    obtain ⟨W2, hW2⟩ : ∃ W2, W2 = wc.alloc (.cells #[] 3) := ⟨_, rfl⟩
    rw [← hW2]
    have hs2 : W2.heap.size = w.heap.size + 2 := by rw [hW2]; simp; omega
    have hb2 : Below (w.heap.size + 1) wc W2 := by rw [hW2]; exact (Below.refl _ _).alloc (by omega) _
    have h00 : IntsOwn W2 (w.heap.size + 1) (.slice (some ⟨w.heap.size + 1, 0, none⟩) 0 0) [] := by
      rw [hW2, ← hs1]; exact World.ownsRow_made wc #[] 0 (Nat.le_refl _) (by unfold maxLen; omega) rfl
    have H2 := Lib.hid (And.intro hb2 h00)
    clear hW2 hb2 h00
    go_loopw [15, 16] (fun s15 s16 wr => ∃ (cs : List Int) (j : Nat), s16 = .int .i64 j ∧ IntsOwn wr (w.heap.size + 1) s15 cs ∧ 1 ≤ j ∧ j ≤ wide + 1 ∧ cs.length ≤ j ∧ Hid (∀ x ∈ cs, ∃ k : Nat, x = (k : Int) ∧ 1 ≤ k ∧ k ≤ wide ∧ k + (k + 1) * L ≤ ks.length ∧ ks.length ≤ k + (k + 1) * M) ∧ Below (w.heap.size + 1) wc wr) (fun _ s16 _ => 8 - (intOf s16).toNat)
    case atStart => exact ⟨[], low, rfl, H2.out.2, hlow1, by omega, by simp, Lib.hid (fun x hx => by cases hx), H2.out.1⟩
    case round =>
      obtain ⟨cs, j, rfl, hown, hj1, hj2, hcl, HC, hbel⟩ := hrel
      obtain ⟨a15, c15, rfl⟩ := hown.shown
      have hszr := hbel.size
      by_cases hjw : j ≤ wide
      · have e0 : (0 : Int) ≤ ((j : Int) + 1) * (L : Int) := Int.mul_nonneg (by omega) (by omega)
        have e1 : ((j : Int) + 1) * (L : Int) ≤ 8 * 16806 := Int.mul_le_mul (by omega) (by omega) (by omega) (by omega)
        have e2 : (0 : Int) ≤ ((j : Int) + 1) * (M : Int) := Int.mul_nonneg (by omega) (by omega)
        have e3 : ((j : Int) + 1) * (M : Int) ≤ 8 * 16806 := Int.mul_le_mul (by omega) (by omega) (by omega) (by omega)
        have hjw' : (j : Int) ≤ (wide : Int) := by omega
        have HB := Lib.hid hbel
        have HO := Lib.hid hown
        clear hbel hown
        by_cases hg1 : (j : Int) + ((j : Int) + 1) * (L : Int) ≤ (ks.length : Int)
        · by_cases hg2 : (ks.length : Int) ≤ (j : Int) + ((j : Int) + 1) * (M : Int)
          · have HG := Lib.hid (And.intro hg1 hg2)
            have HOXX := Lib.hid (IntsOwn.alloc' HO.out (.cells #[.int .i64 (j : Int)] 3))
            have HSX := Lib.hid (IntsAt.one wr (j : Int))
            have hlo9 : w.heap.size + 1 ≤ (wr.alloc (.cells #[.int .i64 (j : Int)] 3)).heap.size := by rw [World.size_alloc]; omega
            have HLEN9 : Hid (cs.length + [(j : Int)].length ≤ 17592186044416) := Lib.hid (by simp; omega)
            have HBA : Hid (Below (w.heap.size + 1) wr (wr.alloc (.cells #[.int .i64 (j : Int)] 3))) := Lib.hid ((Below.refl _ _).alloc (by omega) _)
            go_wp2_with (at_builtin; refine wpList_append_ints rfl _ _ rfl (w.heap.size + 1) _ _ _ [(j : Int)] rfl HOXX.out rfl HSX.out HLEN9.out hlo9 ?_; intro v9 w9 hown9 hbel9 _ hsh9; obtain ⟨a9, c9, rfl⟩ := hsh9; generalize hL9 : cs ++ [(j : Int)] = L9 at hown9 ⊢; have H9 := Lib.hid (And.intro hown9 (And.intro (HBA.out.trans hbel9) hL9)); clear hown9 hbel9 hL9)
            go_roundw
            case rel =>
              refine ⟨L9, j + 1, by go_num, H9.out.1, by omega, by omega, ?_, Lib.hid ?_, HB.out.trans H9.out.2.1⟩
              · rw [← H9.out.2.2]; simp; omega
              · intro x hx
                rw [← H9.out.2.2] at hx
                rcases List.mem_append.1 hx with hx | hx
                · exact HC.out x hx
                · obtain rfl := List.mem_singleton.1 hx
                  have g := HG.out
                  refine ⟨j, rfl, hj1, hjw, ?_, ?_⟩
                  · have : ((j + (j + 1) * L : Nat) : Int) ≤ (ks.length : Int) := by push_cast; exact g.1
                    omega
                  · have : (ks.length : Int) ≤ ((j + (j + 1) * M : Nat) : Int) := by push_cast; exact g.2
                    omega
            case measure => simp [intOf]; omega
          · go_wp2_with fail
            go_roundw
            case rel => exact ⟨cs, j + 1, by go_num, HO.out, by omega, by omega, by omega, HC, HB.out⟩
            case measure => simp [intOf]; omega
        · go_wp2_with fail
          go_roundw
          case rel => exact ⟨cs, j + 1, by go_num, HO.out, by omega, by omega, by omega, HC, HB.out⟩
          case measure => simp [intOf]; omega
      · have hjw' : ¬ (j : Int) ≤ (wide : Int) := by omega
        have hown0 := hown
        have hbW : Below w.heap.size w wr := H1.out.1.trans (hbel.mono (by omega))
        have kbr := (hbel.block w.heap.size (by omega)).trans H1.out.2
        obtain ⟨W5, hW5⟩ : ∃ W5, W5 = wr.alloc (.cells #[] 3) := ⟨_, rfl⟩
        have hs5 : W5.heap.size = wr.heap.size + 1 := by rw [hW5]; simp
        have hb5 : Below wr.heap.size wr W5 := by rw [hW5]; exact (Below.refl _ _).alloc (Nat.le_refl _) _
        have HB5 := Lib.hid (And.intro hb5 (And.intro hbW kbr))
        have HW5 := Lib.hid hW5
        have HO := Lib.hid hown0
        clear hb5 hbW kbr hW5 hown0 hown hbel
        by_cases hce : cs = []
        · subst hce
          have hlf := leaf_c W5 (.slice (some ⟨wr.heap.size, 0, none⟩) 0 0) [] (fun w' _ => ⟨_, _, rfl, (fun h => by cases h), .inl rfl⟩) (by simp)
          have HL := Lib.hid hlf
          clear hlf
          go_wp2_with fail
          rw [← HW5.out]
          refine HL.out.mono ?_
          rintro e w6 ⟨kv, g, rfl, hown, _, hg, hkg, hb6⟩
          obtain ⟨a2, c2, rfl⟩ := hown.shown
          have hs6 := hb6.size
          have kb6 := (hb6.block w.heap.size (by omega)).trans ((HB5.out.1.block w.heap.size (by omega)).trans HB5.out.2.2)
          have hbW6 : Below w.heap.size w w6 := HB5.out.2.1.trans ((HB5.out.1.mono (by omega)).trans (hb6.mono (by omega)))
          obtain ⟨c1, c2', c3, c4⟩ := box2 kb6
          have HX := Lib.hid (And.intro hown (And.intro hkg (And.intro kb6 hbW6)))
          clear hown hkg kb6 hbW6 hb6
          go_wp2_with fail
          obtain ⟨F, hF⟩ : ∃ F, F = (w6.setCell ⟨w.heap.size, 0, none⟩ (.slice a2 ([] : List Int).length c2)).setCell ⟨w.heap.size, 1, none⟩ (.slice (some ⟨g, 0, none⟩) 0 0) := ⟨_, rfl⟩
          obtain ⟨kF, kE, hsF, hbF⟩ := box_out HX.out.2.2.1 hF
          simp only [List.length_nil] at hF kF
          rw [← hF]
          clear hF c1 c2' c3 c4
          obtain ⟨d1, d2, d3, d4⟩ := box2 kF
          have htree := leaf_tree (w := W5) HX.out.1 hg HX.out.2.1
          have hbFw : Below w.heap.size w F := HX.out.2.2.2.trans (hbF _ (Nat.le_refl _))
          refine bodyPost_ret (v := .agg #[.slice a2 0 c2, .slice (some ⟨g, 0, none⟩) 0 0]) (by simp [results, Tryd.results138, go_sem, d1, d2]) rfl ⟨_, _, .mk [] [], p, rfl, ?_, by simp [Tr.weight, Tr.weights], HR.out.later hbFw hrl, Nat.le_add_right _ _, below_only hbFw, fun n c h => by cases h⟩
          exact htree.same (fun k hk => kE k (by omega)) (fun k hk => by omega)
        · have hlen0 : 0 < cs.length := List.length_pos_iff.2 hce
          have hne0 : ((cs.length : Int) == 0) = false := beq_eq_false_iff_ne.2 (by omega)
          have HP := Lib.hid (pick_c wr B r bs p cs.length (HR.out.later HB5.out.2.1 hrl) (by omega) (by omega) (by omega))
          clear hce
          go_wp2_with fail
          refine HP.out.mono ?_
          rintro e w3 ⟨x, m, rfl, hx0, hx1, _, hw3⟩
          obtain ⟨ix, rfl⟩ := Int.eq_ofNat_of_zero_le hx0
          have hix : ix < cs.length := by have := hx1 (by omega); omega
          have hR3 : Rd w3 B r bs (p + 1) := by rw [hw3]; exact (HR.out.later HB5.out.2.1 hrl).picked m
          have hO3 : Only wr.heap.size r wr w3 := by rw [hw3]; exact Only.picked _ _ _ _ _
          have hown3 := HO.out.only hO3 (Nat.le_refl _) (by omega)
          obtain ⟨pa, pc, hpe, _, hpat⟩ := IntsIn.at (IntsOwn.in hown3)
          obtain ⟨rfl, rfl⟩ : a15 = pa ∧ c15 = pc := by simpa using hpe
          rcases hpat with h | ⟨b, o, rfl, hpat⟩
          · rw [h] at hlen0; simp at hlen0
          have hcell := hpat ix hix
          obtain ⟨K, hK, hK1, hK2, hK3, hK4⟩ := HC.out (cs.getD ix 0) (by rw [List.getD_eq_getElem?_getD, List.getElem?_eq_getElem hix]; exact List.getElem_mem hix)
          rw [hK] at hcell
          have hsz3 := hO3.size
          have HY := Lib.hid (And.intro hR3 (And.intro hO3 (And.intro hK3 hK4)))
          obtain ⟨W8, hW8⟩ : ∃ W8, W8 = w3.alloc (.cells #[] 3) := ⟨_, rfl⟩
          have hs8 : W8.heap.size = w3.heap.size + 1 := by rw [hW8]; simp
          have hb8 : Below w3.heap.size w3 W8 := by rw [hW8]; exact (Below.refl _ _).alloc (Nat.le_refl _) _
          have hlf := leaf_c W8 (.slice (some ⟨w3.heap.size, 0, none⟩) 0 0) [] (fun w' _ => ⟨_, _, rfl, (fun h => by cases h), .inl rfl⟩) (by simp)
          have HL := Lib.hid hlf
          have HW8 := Lib.hid hW8
          have HB8 := Lib.hid hb8
          clear hlf hW8 hb8 hR3 hO3 hown3 hpat hpe hw3 hx1 hx0 hK hK3 hK4
          go_wp2_with fail
          rw [← HW8.out]
          refine HL.out.mono ?_
          rintro e w9 ⟨kv9, g9, rfl, hown9, hne9, hg9, hkg9, hb9⟩
          obtain ⟨a9, c9, rfl⟩ := hown9.shown
          have hs9 := hb9.size
          have HX := Lib.hid (And.intro hown9 (And.intro hne9 (And.intro hkg9 hb9)))
          clear hown9 hne9 hkg9 hb9
          go_wp2_with fail
          obtain ⟨W10, hW10⟩ : ∃ W10, W10 = w9.alloc (.cells #[.slice a9 ([] : List Int).length c9, .slice (some ⟨g9, 0, none⟩) 0 0] 33) := ⟨_, rfl⟩
          have hs10 : W10.heap.size = w9.heap.size + 1 := by rw [hW10]; simp
          have hb10 : Below w9.heap.size w9 W10 := by rw [hW10]; exact (Below.refl _ _).alloc (Nat.le_refl _) _
          have kx10 : W10.heap[w9.heap.size]? = some (.cells #[.slice a9 ([] : List Int).length c9, .slice (some ⟨g9, 0, none⟩) 0 0] 33 (0, 0)) := by rw [hW10, new_blk]
          have hgl : g9 < w9.heap.size := (Array.getElem?_eq_some_iff.1 HX.out.2.2.1).1
          have hkb10 : W10.heap[g9]? = some (.cells #[] 33 (0, 0)) := (hb10.block g9 hgl).trans HX.out.2.2.1
          have hO10 : Only w.heap.size r w W10 := by
            have h1 : Only w.heap.size r wr w3 := HY.out.2.1.mono (by omega)
            have h2 : Below w.heap.size w3 W10 := (HB8.out.mono (by omega)).trans ((HX.out.2.2.2.mono (by omega)).trans (hb10.mono (by omega)))
            exact ((below_only HB5.out.2.1).trans h1).trans (below_only h2)
          have hR10 : Rd W10 B r bs (p + 1) := HY.out.1.later ((HB8.out.mono (by omega)).trans ((HX.out.2.2.2.mono (by omega)).trans (hb10.mono (show w3.heap.size ≤ _ by omega)))) (by omega)
          have hown10 : IntsOwn W10 (w.heap.size + 1) (.slice a9 ([] : List Int).length c9) [] := (HX.out.1.later hb10 (Nat.le_refl _)).lower (by omega)
          have hS10 : Sown W10 (w.heap.size + 1) w9.heap.size (.slice a9 ([] : List Int).length c9) (.slice (some ⟨g9, 0, none⟩) 0 0) [] [] := by
            refine ⟨kx10, by omega, hown10, ⟨rfl, .inr ⟨g9, 0, #[], rfl, by omega, hkb10, Nat.le_refl _, by unfold maxLen; omega, rfl, rfl⟩⟩, ?_, ?_, ?_, fun x hx => by cases hx⟩
            · intro e; have := HX.out.2.1 _ e; omega
            · intro e; have : g9 = w9.heap.size := by simpa [Value.ownBlock] using e
              omega
            · intro k hk e
              have : g9 = k := by simpa [Value.ownBlock] using e
              have := HX.out.2.1 _ hk; omega
          have hN0 : ks ≠ [] := by
            intro e
            have h1 := HY.out.2.2.1
            have : ks.length = 0 := by rw [e]; rfl
            omega
          obtain ⟨va', vc', hve, hvl, hvm, _, hvat⟩ := HKS.out
          obtain ⟨rfl, rfl⟩ : va = va' ∧ vc = vc' := by simpa using hve
          rcases hvat with h | ⟨vb, vo, rfl, hvP, hvat⟩
          · exact absurd h hN0
          unfold maxLen at hvm
          have HV := Lib.hid (And.intro hvP hvat)
          have HZ := Lib.hid (And.intro hO10 (And.intro hR10 hS10))
          have HKR : Hid (W10.heap[w.heap.size]? = some (.cells #[.slice none 0 0, .slice none 0 0] 33 (0, 0))) := Lib.hid (by
            have h2 : Below (w.heap.size + 1) w3 W10 := (HB8.out.mono (by omega)).trans ((HX.out.2.2.2.mono (by omega)).trans (hb10.mono (by omega)))
            exact (h2.block _ (by omega)).trans ((HY.out.2.1.block _ (by omega) (by omega)).trans HB5.out.2.2))
          have HW10 := Lib.hid hW10
          clear hvP hvat hO10 hR10 hS10 hown10 hkb10 kx10 hb10 hve hW10
          obtain ⟨E, hE⟩ : ∃ E, E = 8 ^ d := ⟨_, rfl⟩
          rw [← hE] at hE8 hp
          have HE := Lib.hid hE
          clear hE
          simp only [List.length_nil] at HW10
          rw [← HW10.out]
          go_loopw [1, 13, 84] (fun s1 s13 s84 wi => ∃ (i c N cp q : Nat) (A : Option Addr) (kv cvv : Value) (kk : List Int) (Kl : List (Value × Value × Tr)), s84 = .int .i64 i ∧ s1 = .slice A N cp ∧ s13 = .int .i64 N ∧ i ≤ K + 1 ∧ N + c = ks.length ∧ cp + c = vc ∧
            (i ≤ K → (K - i) + ((K - i) * L + L) ≤ N ∧ N ≤ (K - i) + ((K - i) * M + M)) ∧ (i ≤ K → A = some ⟨vb, vo + c, none⟩) ∧ Hid (Sown wi (w.heap.size + 1) w9.heap.size kv cvv kk Kl) ∧ Hid (Rd wi B r bs q) ∧ q ≤ p + 1 + i * (1 + E) ∧ Hid (Only w.heap.size r w wi) ∧ Kl.length = i ∧ kk.length ≤ i ∧
            kk.length + Tr.weights (Kl.map (fun x => x.2.2)) + N ≤ ks.length + i * (1 + E) ∧ Hid (wi.heap[w.heap.size]? = some (.cells #[.slice none 0 0, .slice none 0 0] 33 (0, 0)))) (fun _ _ s84 _ => 8 - (intOf s84).toNat)
          case atStart =>
            refine ⟨0, 0, ks.length, vc, p + 1, _, _, _, [], [], rfl, rfl, rfl, by omega, rfl, rfl, fun _ => ?_, fun _ => rfl, Lib.hid HZ.out.2.2, Lib.hid HZ.out.2.1, by omega, Lib.hid HZ.out.1, rfl, Nat.le_refl _, by simp [Tr.weights], HKR⟩
            have h1 := HY.out.2.2
            rw [Nat.succ_mul, Nat.succ_mul] at h1
            exact h1
          case round =>
            obtain ⟨i, c, N, cp, q, A, kv, cvv, kk, Kl, rfl, rfl, rfl, hi, hNc, hcp, hbnd, hA, HS, HRi, hq, HO, hKl, hkk, hwt, HKRi⟩ := hrel
            by_cases hlt : i < K + 1
            · obtain rfl := hA (by omega)
              clear hA
              obtain ⟨u, hu⟩ : ∃ u, u + i = K := ⟨K - i, by omega⟩
              have hb := hbnd (by omega)
              rw [show K - i = u by omega] at hb
              have hLb : u * L ≤ 6 * 16806 := Nat.mul_le_mul (by omega) (by omega)
              have hMb : u * M ≤ 6 * 16806 := Nat.mul_le_mul (by omega) (by omega)
              have hLM : u * L ≤ u * M := Nat.mul_le_mul_left _ hL
              have hiE : i * (1 + E) ≤ 6 * (1 + E) := Nat.mul_le_mul_right _ (by omega)
              obtain ⟨LL, hLL⟩ : ∃ LL, LL = u * L := ⟨_, rfl⟩
              obtain ⟨MM, hMM⟩ : ∃ MM, MM = u * M := ⟨_, rfl⟩
              rw [← hLL] at hb hLb hLM
              rw [← hMM] at hb hMb hLM
              have hLi : (u : Int) * (L : Int) = (LL : Int) := by rw [hLL]; push_cast; rfl
              have hMi : (u : Int) * (M : Int) = (MM : Int) := by rw [hMM]; push_cast; rfl
              have hui : (K : Int) - (i : Int) = (u : Int) := by omega
              have hlt' : (i : Int) < (K : Int) + 1 := by omega
              obtain ⟨hb1, hb2⟩ := hb
              have HPK := Lib.hid (pick_c wr B r bs q ((M : Int) - L + 1) HRi.out (by have := HE.out; omega) (by omega) (by omega))
              have HU := Lib.hid (And.intro hLL (And.intro hMM (And.intro hu hiE)))
              clear hbnd hLL hMM hiE
              go_wp2_with fail
              refine HPK.out.mono ?_
              rintro e w13 ⟨x, m, rfl, hx0, hx1, _, hw13⟩
              have hx2 : x ≤ (M : Int) - L := by have := hx1 (by omega); omega
              obtain ⟨x, rfl⟩ := Int.eq_ofNat_of_zero_le hx0
              have hR13 : Rd w13 B r bs (q + 1) := by rw [hw13]; exact HRi.out.picked m
              have hO13 : Only wr.heap.size r wr w13 := by rw [hw13]; exact Only.picked _ _ _ _ _
              have hz13 : wr.heap.size = w13.heap.size := by rw [hw13]; simp [World.drewN, World.setCell]
              have hszO := HO.out.size
              have hbxl : w9.heap.size < wr.heap.size := (Array.getElem?_eq_some_iff.1 HS.out.box).1
              have hS13 := HS.out.same (W' := w13) (fun k h1 h2 => hO13.block k h2 (by omega)) (by omega)
              have H13 := Lib.hid (And.intro hR13 (And.intro hO13 hS13))
              clear hR13 hO13 hS13 hw13 hx0 hx1
              go_upto_region 23 with (fail)
              go_cut [21] (fun s21 wx => ∃ s : Nat, s21 = .int .i64 s ∧ L ≤ s ∧ s ≤ M ∧ N ≤ s + u + MM ∧ wx = w13)
              case first =>
                go_wp2_with fail
                all_goals (
                  go_meet
                  first
                    | exact ⟨L + x, int_eq (by omega), by omega, by omega, by omega, rfl⟩
                    | exact ⟨N - u - MM, int_eq (by omega), by omega, by omega, by omega, rfl⟩)
              case rest =>
                obtain ⟨s, rfl, hs1', hs2', hs3', rfl⟩ := hcut
                go_upto_region 24 with (fail)
                go_cut [21] (fun s21 wx => ∃ z : Nat, s21 = .int .i64 z ∧ L ≤ z ∧ z + u + LL ≤ N ∧ N ≤ z + u + MM ∧ wx = wc)
                case first =>
                  go_wp2_with fail
                  all_goals (
                    go_meet
                    first
                      | exact ⟨s, int_eq (by omega), by omega, by omega, by omega, rfl⟩
                      | exact ⟨N - u - LL, int_eq (by omega), by omega, by omega, by omega, rfl⟩)
                case rest =>
                  obtain ⟨z, rfl, hz1', hz2', hz3', rfl⟩ := hcut
                  have hrS : r < wc.heap.size := by have := HR.out.lt; omega
                  have hS := H13.out.2.2
                  obtain ⟨ca1, cn1, ca2, cn2, rfl, rfl⟩ := hS.shown
                  obtain ⟨x1, x2, x3, x4⟩ := box2 hS.box
                  go_upto_region 25 with (fail)
                  refine wp_region_one (n := 11) (by kernel_rfl) (by kernel_rfl) (by kernel_rfl) ?hn (by kernel_rfl) (fun i => 116 + i) (fun i j _ _ h => by omega)
                    (fun a b => Only a.heap.size r a b) (fun a => Only.refl _ _ _) (fun a b c h1 h2 => h1.trans (h2.mono h1.size)) 9 (by omega)
                    (fun b W => (b = false → Rd W B r bs (q + 1)) ∧ (b = true → ∃ q', Rd W B r bs q' ∧ q' ≤ q + 1 + E)) ⟨fun _ => rd_drew H13.out.1, fun h => by cases h⟩
                    (J25 w9.heap.size r wc.heap.size z d E wide D (.slice ca2 Kl.length cn2) (some ⟨vb, vo + c, none⟩) N cp) (fun j v W W' h hb => J25_mono hrS j v W W' h hb) ?hg ?hstep ?hcall ?htail
                  case hn => decide
                  case hg =>
                    intro i oi hi ho
                    have hc : i = 0 ∨ i = 1 ∨ i = 2 ∨ i = 3 ∨ i = 4 ∨ i = 5 ∨ i = 6 ∨ i = 7 ∨ i = 8 ∨ i = 9 ∨ i = 10 := by omega
                    rcases hc with rfl | rfl | rfl | rfl | rfl | rfl | rfl | rfl | rfl | rfl | rfl
                    all_goals (
                      have ho' := Option.some.inj ho
                      subst ho'
                      exact ⟨rfl, rfl⟩)
                  case hstep =>
                    intro i oi hi hic ho a W b hag hR hGb hpre
                    have hc : i = 0 ∨ i = 1 ∨ i = 2 ∨ i = 3 ∨ i = 4 ∨ i = 5 ∨ i = 6 ∨ i = 7 ∨ i = 8 ∨ i = 10 := by omega
                    have HSZ := Lib.hid (show a.tmps.size = 152 from hag.size.trans rfl)
                    have hbx := (hR.block w9.heap.size (by show w9.heap.size < wc.heap.size; have := heap_lt' hS.box; omega) (by omega)).trans hS.box
                    have hRsz : wc.heap.size ≤ W.heap.size := hR.size
                    have t0 : a.tmps[0]? = some (.pointer (some ⟨r, 0, none⟩)) := hag.other 0 (fun i hi => by show 116 + i ≠ 0; omega)
                    have t1 : a.tmps[1]? = some (.slice (some ⟨vb, vo + c, none⟩) N cp) := hag.other 1 (fun i hi => by show 116 + i ≠ 1; omega)
                    have t2 : a.tmps[2]? = some (.int .i64 (wide : Int)) := hag.other 2 (fun i hi => by show 116 + i ≠ 2; omega)
                    have t3 : a.tmps[3]? = some (.int .i64 D) := hag.other 3 (fun i hi => by show 116 + i ≠ 3; omega)
                    have t18 : a.tmps[18]? = some (.pointer (some ⟨w9.heap.size, 0, none⟩)) := hag.other 18 (fun i hi => by show 116 + i ≠ 18; omega)
                    have t21 : a.tmps[21]? = some (.int .i64 (z : Int)) := hag.other 21 (fun i hi => by show 116 + i ≠ 21; omega)
                    clear x1 x2 x3 x4
                    obtain ⟨x1, x2, x3, x4⟩ := box2 hbx
                    have HGB := Lib.hid hGb
                    clear hGb hag hR hbx
                    rcases hc with rfl | rfl | rfl | rfl | rfl | rfl | rfl | rfl | rfl | rfl
                    · have ho' := Option.some.inj ho
                      subst ho'
                      go_simp
                      exact ⟨_, rfl, by rw [HSZ.out]; decide, rfl, Only.refl _ _ _, HGB.out⟩
                    · have ho' := Option.some.inj ho
                      subst ho'
                      have p0 : a.tmps[116]?.getD undef = .pointer (some ⟨w9.heap.size, 1, none⟩) := hpre { on := 0, ground := Ground.data } (by simp) rfl
                      go_simp
                      exact ⟨_, rfl, by rw [HSZ.out]; decide, rfl, Only.refl _ _ _, HGB.out⟩
                    · have ho' := Option.some.inj ho
                      subst ho'
                      go_simp
                      exact ⟨_, rfl, by rw [HSZ.out]; decide, rfl, Only.refl _ _ _, HGB.out⟩
                    · have ho' := Option.some.inj ho
                      subst ho'
                      go_simp
                      exact ⟨_, rfl, by rw [HSZ.out]; decide, rfl, Only.refl _ _ _, HGB.out⟩
                    · have ho' := Option.some.inj ho
                      subst ho'
                      go_simp
                      exact ⟨_, rfl, by rw [HSZ.out]; decide, rfl, Only.refl _ _ _, HGB.out⟩
                    · have ho' := Option.some.inj ho
                      subst ho'
                      have p3 : a.tmps[119]?.getD undef = .slice (some ⟨vb, vo + c, none⟩) N cp := hpre { on := 3, ground := Ground.data } (by simp) rfl
                      have p4 : a.tmps[120]?.getD undef = .int .i64 (z : Int) := hpre { on := 4, ground := Ground.data } (by simp) rfl
                      have hzc : (z : Int) ≤ (cp : Int) := by omega
                      go_simp
                      exact ⟨_, rfl, by rw [HSZ.out]; decide, by simp [J25], Only.refl _ _ _, HGB.out⟩
                    · have ho' := Option.some.inj ho
                      subst ho'
                      go_simp
                      exact ⟨_, rfl, by rw [HSZ.out]; decide, rfl, Only.refl _ _ _, HGB.out⟩
                    · have ho' := Option.some.inj ho
                      subst ho'
                      go_simp
                      exact ⟨_, rfl, by rw [HSZ.out]; decide, rfl, Only.refl _ _ _, HGB.out⟩
                    · have ho' := Option.some.inj ho
                      subst ho'
                      have p7 : a.tmps[123]?.getD undef = .int .i64 D := hpre { on := 7, ground := Ground.data } (by simp) rfl
                      have hwr : IntKind.i64.wrap (D - 1) = (d : Int) := by rw [hDs]; exact IntWalk.i64_in _ (by omega)
                      have hwr2 : IntKind.i64.wrap (d : Int) = (d : Int) := IntWalk.i64_in _ (by omega)
                      go_simp
                      exact ⟨_, rfl, by rw [HSZ.out]; decide, by simp [J25], Only.refl _ _ _, HGB.out⟩
                    · have ho' := Option.some.inj ho
                      subst ho'
                      obtain ⟨b1, b2, b3, b4, b5, b6, t, p9, h2, h3⟩ : J25 w9.heap.size r wc.heap.size z d E wide D (.slice ca2 Kl.length cn2) (some ⟨vb, vo + c, none⟩) N cp 9 (a.tmps[125]?.getD undef) W := hpre { on := 9, ground := Ground.data } (by simp) rfl
                      go_simp
                      have hba : Below W.heap.size W (W.alloc (.cells #[.slice b1 b2 b3, .slice b4 b5 b6] 33)) := (Below.refl _ _).alloc (Nat.le_refl _) _
                      exact ⟨_, rfl, by rw [HSZ.out]; decide, ⟨W.heap.size, b1, b2, b3, b4, b5, b6, t, rfl, new_blk _ _, hRsz, h2.same (fun k hk => hba.block k hk.2) (fun k hk => ⟨hk.1, by have := hba.size; omega⟩), h3⟩, below_only hba, fun h => rd_later' (HGB.out.1 h) hba, fun h => by
                        obtain ⟨q', g1, g2⟩ := HGB.out.2 h
                        exact ⟨q', rd_later' g1 hba, g2⟩⟩
                  case hcall =>
                    intro oi ho a W hag hR hGf hpre
                    have HSZ := Lib.hid (show a.tmps.size = 152 from hag.size.trans rfl)
                    have hRsz : wc.heap.size ≤ W.heap.size := hR.size
                    have hq8 : q + 1 + 8 ^ d ≤ 900000000 := by have h1 := HE.out; have h2 := HU.out.2.2.2; omega
                    have hl' : ((ks.drop c).take z).length = z := by rw [List.length_take, List.length_drop]; omega
                    have hkp : IntsP W (fun k => k ≠ r ∧ k < W.heap.size) (.slice (some ⟨vb, vo + c, none⟩) z cp) ((ks.drop c).take z) := by
                      refine ⟨some ⟨vb, vo + c, none⟩, cp, by rw [hl'], by rw [hl']; omega, by unfold maxLen; omega, (fun h => by cases h), .inr ⟨vb, vo + c, rfl, ⟨HV.out.1.1, by have := HV.out.1.2; omega⟩, fun j hj => ?_⟩⟩
                      rw [hl'] at hj
                      have h1 := HV.out.2 (c + j) (by omega)
                      have e1 : W.heap[vb]? = w.heap[vb]? := (hR.block vb (by show vb < wc.heap.size; have := HV.out.1.2; omega) HV.out.1.1).trans ((H13.out.2.1.block vb (by have := HV.out.1.2; omega) HV.out.1.1).trans (HO.out.block vb HV.out.1.2 HV.out.1.1))
                      rw [cellP e1, Nat.add_assoc, h1]
                      simp [List.getD_eq_getElem?_getD, hj, List.getElem?_drop]
                    have hc0 := HIH.out W (q + 1) _ _ (hGf.1 rfl) hq8 hkp (by rw [hl']; omega)
                    rw [hl'] at hc0
                    have HCC := Lib.hid hc0
                    clear hc0 hkp hGf hR hl' hq8
                    have ho' := Option.some.inj ho
                    subst ho'
                    have p2 : a.tmps[118]?.getD undef = .pointer (some ⟨r, 0, none⟩) := hpre { on := 2, ground := Ground.data } (by simp) rfl
                    have p5 : a.tmps[121]?.getD undef = .slice (some ⟨vb, vo + c, none⟩) z cp := hpre { on := 5, ground := Ground.data } (by simp) rfl
                    have p6 : a.tmps[122]?.getD undef = .int .i64 (wide : Int) := hpre { on := 6, ground := Ground.data } (by simp) rfl
                    have p8 : a.tmps[124]?.getD undef = .int .i64 (d : Int) := hpre { on := 8, ground := Ground.data } (by simp) rfl
                    clear hag
                    go_simp
                    refine HCC.out.mono ?_
                    rintro e w6 ⟨kc, cc, tt, q6, rfl, ht6, hw6, hr6, hq6, ho6, _⟩
                    obtain ⟨b1, b2, b3, b4, b5, b6, rfl, rfl⟩ := ht6.slices
                    have hE1 := HE.out
                    exact ⟨_, rfl, by rw [HSZ.out]; decide, ⟨b1, b2, b3, b4, b5, b6, tt, rfl, ht6.same (fun _ _ => rfl) (fun k hk => ⟨by omega, hk.2⟩), by omega⟩, ho6, q6, hr6, by omega⟩
                  case htail =>
                    intro a W hag hR hG hj
                    have j0 : a.tmps[116]?.getD undef = .pointer (some ⟨w9.heap.size, 1, none⟩) := hj 0 (by omega)
                    have j1 : a.tmps[117]?.getD undef = .slice ca2 Kl.length cn2 := hj 1 (by omega)
                    have j2 : a.tmps[118]?.getD undef = .pointer (some ⟨r, 0, none⟩) := hj 2 (by omega)
                    have j3 : a.tmps[119]?.getD undef = .slice (some ⟨vb, vo + c, none⟩) N cp := hj 3 (by omega)
                    have j4 : a.tmps[120]?.getD undef = .int .i64 (z : Int) := hj 4 (by omega)
                    have j5 : a.tmps[121]?.getD undef = .slice (some ⟨vb, vo + c, none⟩) z cp := hj 5 (by omega)
                    have j6 : a.tmps[122]?.getD undef = .int .i64 (wide : Int) := hj 6 (by omega)
                    have j7 : a.tmps[123]?.getD undef = .int .i64 D := hj 7 (by omega)
                    have j8 : a.tmps[124]?.getD undef = .int .i64 (d : Int) := hj 8 (by omega)
                    obtain ⟨e1, e2, e3, e4, e5, e6, et, j9, _, _⟩ : J25 w9.heap.size r wc.heap.size z d E wide D (.slice ca2 Kl.length cn2) (some ⟨vb, vo + c, none⟩) N cp 9 (a.tmps[125]?.getD undef) W := hj 9 (by omega)
                    obtain ⟨g, b1, b2, b3, b4, b5, b6, t, j10, hg1, hg2, hg3, hg4⟩ : J25 w9.heap.size r wc.heap.size z d E wide D (.slice ca2 Kl.length cn2) (some ⟨vb, vo + c, none⟩) N cp 10 (a.tmps[126]?.getD undef) W := hj 10 (by omega)
                    have ha := hag.eq
                    rw [show List.range 11 = [0, 1, 2, 3, 4, 5, 6, 7, 8, 9, 10] from rfl] at ha
                    simp only [List.foldl_cons, List.foldl_nil, Nat.reduceAdd, j0, j1, j2, j3, j4, j5, j6, j7, j8, j9, j10] at ha
                    clear hj hag j0 j1 j2 j3 j4 j5 j6 j7 j8 j9 j10
                    subst ha
                    change wpAny _ _ _ _ 3 _ _ _
                    simp only [List.setIfInBounds_toArray, List.set_cons_succ, List.set_cons_zero]
                    have hRr : ∀ k, k < wc.heap.size → k ≠ r → W.heap[k]? = wc.heap[k]? := fun k h1 h2 => hR.block k h1 h2
                    have hRsz : wc.heap.size ≤ W.heap.size := hR.size
                    have hrl2 := HR.out.lt
                    have hrowW : W.ownsRow (w.heap.size + 1) 33 2 (.slice ca2 Kl.length cn2) Kl.length (kcells Kl) := ownsRow_keep hS.row (fun k hk => hRr k (hS.row.lt k hk).2 (by have := (hS.row.lt k hk).1; omega))
                    have hbxW := (hRr w9.heap.size (heap_lt' hS.box) (by omega)).trans hS.box
                    have hcne := hS.cne
                    have hKll : Kl.length ≤ 6 := by omega
                    obtain ⟨y1, y2, y3, y4⟩ := box2 hbxW
                    have HT25 := Lib.hid (And.intro hR (And.intro hG (And.intro hg1 (And.intro hg2 (And.intro hg3 (And.intro hg4 hbxW))))))
                    have HROW := Lib.hid hrowW
                    have HSX := Lib.hid hS
                    have HGB := Lib.hid hg1
                    clear hR hG hg1 hg2 hg3 hg4 hbxW hrowW hS hRr x1 x2 x3 x4
                    refine wpAny_ready (rs := [11]) (by kernel_rfl) (by simp) (AllReady.cons rfl (fun K25 hK25 => ?_) AllReady.nil)
                    refine step_append_lies _ (by rfl) (.tmp 117) (.tmp 126) 31 (by rfl) (w.heap.size + 1) 33 i0 _ 2 48 Tryd.underlying31 hi0 hz0 hz1 hz2 rfl (by omega) _ Kl.length _ (by rfl) HROW.out ⟨g, 0, none⟩ 1 1 [.slice b1 b2 b3, .slice b4 b5 b6] (by rfl) (by rfl) (World.news_of_block HGB.out) (by simp [Value.oneCell']) (by omega) (by unfold maxLen; omega) (by omega) (by omega) W.heap.size rfl ?_
                    intro gg cap7 w7 hown7 hgrow7 hat7 hlt7
                    have v7c := (hgrow7.cell_far ⟨w9.heap.size, 1, none⟩ (by show w9.heap.size < W.heap.size; omega) (fun e => hcne e.symm)).trans y2
                    have v7f := (hgrow7.frozen_far ⟨w9.heap.size, 1, none⟩ (by show w9.heap.size < W.heap.size; omega) (fun e => hcne e.symm)).trans y4
                    have H7 := Lib.hid (And.intro hown7 (And.intro hgrow7 hat7))
                    clear hown7 hgrow7 hat7 y1 y2 y3 y4
                    refine hK25 _ _ ?_
                    clear hK25 K25
                    refine wpAny_ready (rs := [12]) (by kernel_rfl) (by simp) (AllReady.cons rfl (fun K25 hK25 => ?_) AllReady.nil)
                    go_simp
                    refine hK25 _ _ ?_
                    clear hK25 K25
                    refine wpAny_ready (rs := [13]) (by kernel_rfl) (by simp) (AllReady.cons rfl (fun K25 hK25 => ?_) AllReady.nil)
                    go_simp
                    refine hK25 _ _ ?_
                    clear hK25 K25
                    refine wpAny_done (by kernel_rfl) ?_ _
                    have hkid := HSX.out.kid2 (r := r) (by omega) (only_undrew HT25.out.1) (HT25.out.2.2.2.2.1.same (fun _ _ => rfl) (fun k hk => hk)) H7.out.1 H7.out.2.1 H7.out.2.2
                    rw [hKl] at hkid
                    obtain ⟨W14, hW14⟩ : ∃ W14, W14 = w7.setCell ⟨w9.heap.size, 1, none⟩ (.slice (some ⟨gg, 0, none⟩) (i + 1) cap7) := ⟨_, rfl⟩
                    rw [← hW14] at hkid ⊢
                    have hb14 : Below (w.heap.size + 1) W W14 := by
                      rw [hW14]
                      refine Below.setCell ⟨H7.out.2.1.os, H7.out.2.1.tape, H7.out.2.1.output, H7.out.2.1.size, fun k hk => H7.out.2.1.block k (by omega) (fun e => ?_)⟩ (by show w.heap.size + 1 ≤ w9.heap.size; omega) _
                      have := (HSX.out.row.lt k e.symm).1
                      omega
                    obtain ⟨q', hr14, hq14⟩ := HT25.out.2.1.2 rfl
                    have hR14 : Rd W14 B r bs q' := hr14.later (hb14.mono (show w.heap.size ≤ w.heap.size + 1 by omega)) hrl2
                    have hO14 : Only w.heap.size r w W14 := (HO.out.trans (H13.out.2.1.mono (by omega))).trans ((only_undrew HT25.out.1).mono (show w.heap.size ≤ wc.heap.size by omega)) |>.trans (below_only (hb14.mono (by omega)))
                    have hK14 := (hb14.block w.heap.size (by omega)).trans ((HT25.out.1.block w.heap.size (by show w.heap.size < wc.heap.size; omega) (by omega)).trans ((H13.out.2.1.block w.heap.size (by omega) (by omega)).trans HKRi.out))
                    have hv14 : ∀ j, j < ks.length → W14.cell? ⟨vb, vo + j, none⟩ = some (.int .i64 (ks.getD j 0)) := fun j hj => by
                      rw [cellP (hO14.block vb HV.out.1.2 HV.out.1.1)]
                      exact HV.out.2 j hj
                    have H14 := Lib.hid (And.intro hkid.1 (And.intro hR14 (And.intro hO14 (And.intro hK14 hv14))))
                    have HWT := Lib.hid HT25.out.2.2.2.2.2.1
                    have HQ14 := Lib.hid hq14
                    clear hkid hb14 hr14 hR14 hO14 hK14 hv14 hW14 hq14 v7c v7f
                    have hzc2 : (z : Int) ≤ (N : Int) := by omega
                    have hzN : (N : Int) - (z : Int) = ((N - z : Nat) : Int) := by omega
                    have hE3 := HE.out
                    have hsucc : (i + 1) * (1 + E) = i * (1 + E) + (1 + E) := Nat.succ_mul _ _
                    have HSUC := Lib.hid hsucc
                    clear hsucc hE3
                    by_cases hu0 : u = 0
                    · have hlt25 : ¬ ((i : Int) < (K : Int)) := by omega
                      go_wp2_with fail
                      refine ⟨⟨i + 1, c + z, N - z, cp - z, q', _, _, _, kk, Kl ++ [(.slice b1 b2 b3, .slice b4 b5 b6, t)], by go_num, rfl, rfl, by omega, by omega, by omega, fun h => absurd h (by omega), fun h => absurd h (by omega), Lib.hid H14.out.1, Lib.hid H14.out.2.1, ?_, Lib.hid H14.out.2.2.1, by simp [hKl], by omega, ?_, Lib.hid H14.out.2.2.2.1⟩, ?_⟩
                      · have := HSUC.out; have := HQ14.out; omega
                      · have h1 := HSUC.out; have h2 := HWT.out
                        rw [List.map_append, Tr.weights_append]
                        simp only [List.map_cons, List.map_nil, Tr.weights]
                        omega
                      · simp [intOf]; omega
                    · have hlt25 : (i : Int) < (K : Int) := by omega
                      have hcz : ¬ cp = z := by
                        have : 1 ≤ LL := by have := HU.out.1; rw [this]; exact Nat.mul_pos (by omega) (by omega)
                        omega
                      have hNz : 1 ≤ N - z := by omega
                      obtain ⟨key, hkey⟩ : ∃ key, key = ks.getD (c + z) 0 := ⟨_, rfl⟩
                      have hckey := H14.out.2.2.2.2 (c + z) (by omega)
                      rw [← hkey, ← Nat.add_assoc] at hckey
                      have HCK := Lib.hid hckey
                      obtain ⟨ca3, cn3, ca4, cn4, e3, e4⟩ := H14.out.1.shown
                      have HE3 := Lib.hid e3
                      obtain ⟨rfl, rfl⟩ : ca1 = ca3 ∧ cn1 = cn3 := by simpa using e3
                      clear hkey hckey e3 e4
                      go_upto_region 29 with (fail)
                      refine wp_region_head (n := 6) (by kernel_rfl) (by kernel_rfl) (by kernel_rfl) ?hn (by kernel_rfl) (fun i => 138 + i) (fun i j _ _ h => by omega)
                        (fun w w' => Below w.heap.size w w') (fun w => Below.refl _ _) (fun a b c h1 h2 => h1.trans (h2.mono h1.size)) (fun a b h => h.size) (fun _ => false) (fun j _ h => by cases h)
                        (J29 w9.heap.size W14.heap.size key (.slice ca1 kk.length cn1) vb (vo + c + z) (N - z) (cp - z)) J29_mono ?hg ?hstep ?htail
                      case hn => decide
                      case hg =>
                        intro i oi hi ho
                        have hc : i = 0 ∨ i = 1 ∨ i = 2 ∨ i = 3 ∨ i = 4 ∨ i = 5 := by omega
                        rcases hc with rfl | rfl | rfl | rfl | rfl | rfl
                        all_goals (
                          have ho' := Option.some.inj ho
                          subst ho'
                          exact ⟨rfl, rfl⟩)
                      case hstep =>
                        intro i oi hi ho a W hag hR hpre
                        have hc : i = 0 ∨ i = 1 ∨ i = 2 ∨ i = 3 ∨ i = 4 ∨ i = 5 := by omega
                        have HSZ := Lib.hid (show a.tmps.size = 152 from hag.size.trans rfl)
                        have hbx := (hR.block w9.heap.size (heap_lt' H14.out.1.box)).trans H14.out.1.box
                        have hck := (cell_of_blk' (hR.block vb (by show vb < W14.heap.size; have := HV.out.1.2; have := H14.out.2.2.1.size; omega)) (vo + c + z)).trans HCK.out
                        have hRsz : W14.heap.size ≤ W.heap.size := hR.size
                        have t1 : a.tmps[1]? = some (.slice (some ⟨vb, vo + c + z, none⟩) (N - z) (cp - z)) := hag.other 1 (fun i hi => by show 138 + i ≠ 1; omega)
                        have t18 : a.tmps[18]? = some (.pointer (some ⟨w9.heap.size, 0, none⟩)) := hag.other 18 (fun i hi => by show 138 + i ≠ 18; omega)
                        obtain ⟨x1, x2, x3, x4⟩ := box2 hbx
                        clear hag hR hbx
                        rcases hc with rfl | rfl | rfl | rfl | rfl | rfl
                        · have ho' := Option.some.inj ho
                          subst ho'
                          go_simp
                          exact ⟨_, rfl, by rw [HSZ.out]; decide, rfl, Below.refl _ _⟩
                        · have ho' := Option.some.inj ho
                          subst ho'
                          have p0 : a.tmps[138]?.getD undef = .pointer (some ⟨w9.heap.size, 0, none⟩) := hpre { on := 0, ground := Ground.data } (by simp) rfl
                          go_simp
                          exact ⟨_, rfl, by rw [HSZ.out]; decide, rfl, Below.refl _ _⟩
                        · have ho' := Option.some.inj ho
                          subst ho'
                          go_simp
                          exact ⟨_, rfl, by rw [HSZ.out]; decide, rfl, Below.refl _ _⟩
                        · have ho' := Option.some.inj ho
                          subst ho'
                          have p2 : a.tmps[140]?.getD undef = .slice (some ⟨vb, vo + c + z, none⟩) (N - z) (cp - z) := hpre { on := 2, ground := Ground.data } (by simp) rfl
                          have hpos : 0 < N - z := by omega
                          go_simp
                          exact ⟨_, rfl, by rw [HSZ.out]; decide, by simp [J29], Below.refl _ _⟩
                        · have ho' := Option.some.inj ho
                          subst ho'
                          have p3 : a.tmps[141]?.getD undef = .pointer (some ⟨vb, vo + c + z, none⟩) := hpre { on := 3, ground := Ground.data } (by simp) rfl
                          go_simp
                          exact ⟨_, rfl, by rw [HSZ.out]; decide, rfl, Below.refl _ _⟩
                        · have ho' := Option.some.inj ho
                          subst ho'
                          have p4 : a.tmps[142]?.getD undef = .int .i64 key := hpre { on := 4, ground := Ground.data } (by simp) rfl
                          go_simp
                          have hba : Below W.heap.size W (W.alloc (.cells #[.int .i64 key] 3)) := (Below.refl _ _).alloc (Nat.le_refl _) _
                          exact ⟨_, rfl, by rw [HSZ.out]; decide, ⟨W.heap.size, rfl, new_blk _ _, hRsz⟩, hba⟩
                      case htail =>
                        intro a W hag hR hnews hj
                        have j0 : a.tmps[138]?.getD undef = .pointer (some ⟨w9.heap.size, 0, none⟩) := hj 0 (by omega)
                        have j1 : a.tmps[139]?.getD undef = .slice ca1 kk.length cn1 := hj 1 (by omega)
                        have j2 : a.tmps[140]?.getD undef = .slice (some ⟨vb, vo + c + z, none⟩) (N - z) (cp - z) := hj 2 (by omega)
                        have j3 : a.tmps[141]?.getD undef = .pointer (some ⟨vb, vo + c + z, none⟩) := hj 3 (by omega)
                        have j4 : a.tmps[142]?.getD undef = .int .i64 key := hj 4 (by omega)
                        obtain ⟨g5, j5, hg5, hg6⟩ : J29 w9.heap.size W14.heap.size key (.slice ca1 kk.length cn1) vb (vo + c + z) (N - z) (cp - z) 5 (a.tmps[143]?.getD undef) W := hj 5 (by omega)
                        have ha := hag.eq
                        rw [show List.range 6 = [0, 1, 2, 3, 4, 5] from rfl] at ha
                        simp only [List.foldl_cons, List.foldl_nil, Nat.reduceAdd, j0, j1, j2, j3, j4, j5] at ha
                        clear hj hag hnews j0 j1 j2 j3 j4 j5
                        subst ha
                        change wpAny _ _ _ _ 3 _ _ _
                        simp only [List.setIfInBounds_toArray, List.set_cons_succ, List.set_cons_zero]
                        have hbw : Below W14.heap.size W14 W := ⟨hR.os, hR.tape, hR.output, hR.size, hR.block⟩
                        have hSW := H14.out.1.same (W' := W) (fun k _ h2 => hbw.block k h2) hbw.size
                        have hWsz : W14.heap.size ≤ W.heap.size := hbw.size
                        have hloW : w.heap.size + 1 ≤ W.heap.size := by have := heap_lt' hSW.box; have := hSW.hlo; omega
                        have hkne := hSW.kne
                        have hbxl := heap_lt' hSW.box
                        obtain ⟨y1, y2, y3, y4⟩ := box2 hSW.box
                        have HSW := Lib.hid (And.intro hSW hbw)
                        have HROW2 : Hid (W.ownsRow (w.heap.size + 1) 3 1 (.slice ca1 kk.length cn1) kk.length (kk.map (Value.int .i64))) := Lib.hid hSW.keys
                        have HG5 := Lib.hid hg5
                        clear hR hSW hbw hg5 hg6
                        refine wpAny_ready (rs := [6]) (by kernel_rfl) (by simp) (AllReady.cons rfl (fun K25 hK25 => ?_) AllReady.nil)
                        refine step_append_lies _ (by rfl) (.tmp 139) (.tmp 143) 22 (by rfl) (w.heap.size + 1) 3 i1 _ 1 8 Tryd.underlying22 hi1 hy0 hy1 hy2 rfl (by omega) _ kk.length _ (by rfl) HROW2.out ⟨g5, 0, none⟩ 1 1 [.int .i64 key] (by rfl) (by rfl) (World.news_of_block HG5.out) (by simp [Value.oneCell']) (by omega) (by unfold maxLen; omega) (by omega) hloW W.heap.size rfl ?_
                        intro gg2 cap8 w8 hown8 hgrow8 hat8 hlt8
                        have v8c := (hgrow8.cell_far ⟨w9.heap.size, 0, none⟩ (by show w9.heap.size < W.heap.size; omega) (fun e => hkne e.symm)).trans y1
                        have v8f := (hgrow8.frozen_far ⟨w9.heap.size, 0, none⟩ (by show w9.heap.size < W.heap.size; omega) (fun e => hkne e.symm)).trans y3
                        have H8 := Lib.hid (And.intro hown8 (And.intro hgrow8 hat8))
                        clear hown8 hgrow8 hat8 y1 y2 y3 y4
                        refine hK25 _ _ ?_
                        clear hK25 K25
                        refine wpAny_ready (rs := [7]) (by kernel_rfl) (by simp) (AllReady.cons rfl (fun K25 hK25 => ?_) AllReady.nil)
                        go_simp
                        refine hK25 _ _ ?_
                        clear hK25 K25
                        refine wpAny_ready (rs := [8]) (by kernel_rfl) (by simp) (AllReady.cons rfl (fun K25 hK25 => ?_) AllReady.nil)
                        go_simp
                        refine hK25 _ _ ?_
                        clear hK25 K25
                        refine wpAny_done (by kernel_rfl) ?_ _
                        obtain ⟨hS15, hb15⟩ := HSW.out.1.key2 H8.out.1 H8.out.2.1 H8.out.2.2
                        obtain ⟨W15, hW15⟩ : ∃ W15, W15 = w8.setCell ⟨w9.heap.size, 0, none⟩ (.slice (some ⟨gg2, 0, none⟩) (kk.length + 1) cap8) := ⟨_, rfl⟩
                        rw [← hW15] at hS15 hb15 ⊢
                        have hbT : Below (w.heap.size + 1) W14 W15 := (HSW.out.2.mono (by have := heap_lt' H14.out.1.box; have := H14.out.1.hlo; omega)).trans hb15
                        have hR15 : Rd W15 B r bs q' := H14.out.2.1.later (hbT.mono (show w.heap.size ≤ w.heap.size + 1 by omega)) hrl2
                        have hO15 : Only w.heap.size r w W15 := H14.out.2.2.1.trans (below_only (hbT.mono (by omega)))
                        have hK15 := (hbT.block w.heap.size (by omega)).trans H14.out.2.2.2.1
                        have H15 := Lib.hid (And.intro hS15 (And.intro hR15 (And.intro hO15 hK15)))
                        clear hS15 hb15 hbT hR15 hO15 hK15 hW15 v8c v8f
                        have hn1 : ((N - z : Nat) : Int) - 1 = ((N - z - 1 : Nat) : Int) := by omega
                        have hcz1 : ¬ cp - z = 1 := by
                          have : 1 ≤ LL := by have := HU.out.1; rw [this]; exact Nat.mul_pos (by omega) (by omega)
                          omega
                        have h1n : (1 : Int) ≤ ((N - z : Nat) : Int) := by omega
                        go_wp2_with fail
                        refine ⟨⟨i + 1, c + z + 1, N - z - 1, cp - z - 1, q', _, _, _, kk ++ [key], Kl ++ [(.slice b1 b2 b3, .slice b4 b5 b6, t)], by go_num, rfl, rfl, by omega, by omega, by omega, fun h => ?_, fun _ => by simp only [Nat.add_assoc], Lib.hid H15.out.1, Lib.hid H15.out.2.1, ?_, Lib.hid H15.out.2.2.1, by simp [hKl], by simp; omega, ?_, Lib.hid H15.out.2.2.2⟩, ?_⟩
                        · obtain ⟨hU1, hU2, hU3, _⟩ := HU.out
                          obtain ⟨u', rfl⟩ : ∃ u', u = u' + 1 := ⟨u - 1, by omega⟩
                          rw [Nat.succ_mul] at hU1 hU2
                          rw [show K - (i + 1) = u' by omega]
                          omega
                        · have := HSUC.out; have := HQ14.out; omega
                        · have h1 := HSUC.out; have h2 := HWT.out
                          rw [List.map_append, Tr.weights_append]
                          simp only [List.map_cons, List.map_nil, Tr.weights, List.length_append, List.length_cons, List.length_nil]
                          omega
                        · simp [intOf]; omega
            · have hiK : i = K + 1 := by omega
              have hT := HS.out.tree
              obtain ⟨t1, t2, t3, t4, rfl, rfl⟩ := HS.out.shown
              have HNK : Hid (∀ n c, (Value.slice t3 (K + 1) t4) = .slice none n c → c = 0) := Lib.hid (fun n c h => by
                simp only [Value.slice.injEq] at h
                obtain ⟨rfl, rfl, rfl⟩ := h
                obtain ⟨_, ⟨h2, h3⟩ | ⟨g, cap, cur, hv, _⟩⟩ := HS.out.row
                · omega
                · cases hv)
              have kx := HS.out.box
              have hKl2 : Kl.length = K + 1 := by omega
              rw [hKl2] at kx hT
              have HKl2 := Lib.hid hKl2
              obtain ⟨x1, x2, x3, x4⟩ := box2 kx
              obtain ⟨y1, y2, y3, y4⟩ := box2 HKRi.out
              have hsO := HO.out.size
              have hlt' : ¬ ((i : Int) < (K : Int) + 1) := by omega
              have hiE : i * (1 + E) ≤ 7 * (1 + E) := Nat.mul_le_mul_right _ (by omega)
              have HT := Lib.hid (And.intro hT kx)
              clear hT kx hbnd hKl2 hKl
              go_wp2_with fail
              obtain ⟨F, hF⟩ : ∃ F, F = (wr.setCell ⟨w.heap.size, 0, none⟩ (.slice t1 kk.length t2)).setCell ⟨w.heap.size, 1, none⟩ (.slice t3 (K + 1) t4) := ⟨_, rfl⟩
              obtain ⟨kF, kE, hsF, hbF⟩ := box_out HKRi.out hF
              rw [← hF]
              clear hF x1 x2 x3 x4 y1 y2 y3 y4
              obtain ⟨d1, d2, d3, d4⟩ := box2 kF
              refine bodyPost_ret (v := .agg #[.slice t1 kk.length t2, .slice t3 (K + 1) t4]) (by simp [results, Tryd.results138, go_sem, d1, d2]) rfl ⟨_, _, .mk kk (Kl.map (fun x => x.2.2)), q, rfl, ?_, ?_, HRi.out.later (hbF w.heap.size (Nat.le_refl _)) hrl, by have := HE.out; have := HEs.out; omega, HO.out.trans (below_only (hbF _ (Nat.le_refl _))), HNK.out⟩
              · exact HT.out.1.same (fun k hk => kE k (by omega)) (fun k hk => ⟨by omega, by omega⟩)
              · simp only [Tr.weight]; have := HE.out; have := HEs.out; omega
end Go.Proofs.YticfkfjijnfcbaaDoor
