/- A coloured tree in new memory as the tree of nodes that a function on nodes tells the kids of. -/
import Derived.Test.YtodcapgmhginoaaBvS0
import Derived.Test.YtodcapgmhginoaaBvS16
import Derived.Test.YtodcapgmhginoaaBvS17
import Derived.Test.YtodcapgmhginoaaBvS20
import Derived.Test.YtodcapgmhginoaaBvS2
import Derived.Test.YtodcapgmhginoaaBvS3
namespace Go.Proofs.Ytodcapgmhginoaa
open Go.RowKit

namespace Ro
mutual
/-- The coloured tree that nodes with a key and a colour make. -/
def bt : Ro (Int × Bool) → Bt
  | .mk x _ _ c => .mk x.1 x.2 (bts c)
def bts : List (Ro (Int × Bool)) → List Bt
  | [] => []
  | a :: r => bt a :: bts r
end
theorem bts_length (c : List (Ro (Int × Bool))) : (bts c).length = c.length := by
  induction c with
  | nil => rfl
  | cons a r ih => simp [bts, ih]
theorem bts_get (c : List (Ro (Int × Bool))) (i : Nat) (h : i < c.length) : (bts c)[i]'(by rw [bts_length]; exact h) = c[i].bt := by
  induction c generalizing i with
  | nil => simp at h
  | cons a r ih =>
    cases i with
    | zero => rfl
    | succ i => simpa [bts] using ih i (by simpa using h)
mutual
theorem siz_bt : ∀ a : Ro (Int × Bool), a.siz = a.bt.weight
  | .mk x _ _ c => by simp only [siz, bt, Bt.weight]; exact sizs_bts c
theorem sizs_bts : ∀ c : List (Ro (Int × Bool)), sizs c = Bt.weights (bts c)
  | [] => rfl
  | a :: r => by simp only [sizs, bts, Bt.weights]; rw [siz_bt a, sizs_bts r]
end
mutual
theorem depth_bt : ∀ a : Ro (Int × Bool), a.depth = a.bt.depth + 1
  | .mk x _ _ c => by
    simp only [depth, bt, Bt.depth, bts_length]
    rw [depths_bts c]
    split <;> omega
theorem depths_bts : ∀ c : List (Ro (Int × Bool)), depths c = if c.length = 0 then 0 else Bt.depths (bts c) + 1
  | [] => rfl
  | a :: r => by
    simp only [depths, bts, Bt.depths, List.length_cons]
    rw [depth_bt a, depths_bts r]
    split
    · rename_i h; rw [List.length_eq_zero_iff.1 h]; simp [bts, Bt.depths]
    · rw [if_neg (by omega)]; omega
end
end Ro

namespace Bt
mutual
/-- A coloured tree of which each node keeps but some of its kids: as many as f tells. -/
def cut (f : Nat → Nat) : Bt → Bt
  | .mk k r c => .mk k r ((cuts f c).take (f c.length))
def cuts (f : Nat → Nat) : List Bt → List Bt
  | [] => []
  | a :: r => cut f a :: cuts f r
end
theorem cuts_length (f : Nat → Nat) (c : List Bt) : (cuts f c).length = c.length := by
  induction c with
  | nil => rfl
  | cons a r ih => simp [cuts, ih]
theorem cuts_get (f : Nat → Nat) (c : List Bt) (i : Nat) (h : i < c.length) : (cuts f c)[i]'(by rw [cuts_length]; exact h) = c[i].cut f := by
  induction c generalizing i with
  | nil => simp at h
  | cons a r ih =>
    cases i with
    | zero => rfl
    | succ i => simpa [cuts] using ih i (by simpa using h)
mutual
theorem cut_id : ∀ t : Bt, t.cut (fun n => n) = t
  | .mk k r c => by
    simp only [cut]; rw [cuts_id c, List.take_length]
theorem cuts_id : ∀ c : List Bt, cuts (fun n => n) c = c
  | [] => rfl
  | a :: r => by simp only [cuts]; rw [cut_id a, cuts_id r]
end
mutual
theorem cut_weight (f : Nat → Nat) : ∀ t : Bt, (t.cut f).weight ≤ t.weight
  | .mk k r c => by
    have h := cuts_weight f c
    have h2 : weights ((cuts f c).take (f c.length)) ≤ weights (cuts f c) := by
      conv => rhs; rw [← List.take_append_drop (f c.length) (cuts f c), weights_append]
      omega
    simp only [cut, weight]; omega
theorem cuts_weight (f : Nat → Nat) : ∀ c : List Bt, weights (cuts f c) ≤ weights c
  | [] => Nat.le_refl _
  | a :: r => by have := cut_weight f a; have := cuts_weight f r; simp only [cuts, weights]; omega
end
end Bt

/-- The slice of a node's kids that lies in its third cell, as k turns it. -/
def kidsAt (k : Option Addr × Nat × Nat → Option Addr × Nat × Nat) (w : World) (b o : Nat) : Option Addr × Nat × Nat :=
  match w.cell? ⟨b, o + 2, none⟩ with
  | some (.slice a n c) => k (a, n, c)
  | _ => (none, 0, 0)
def labAt (w : World) (b o : Nat) : Int × Bool :=
  (match w.cell? ⟨b, o, none⟩ with | some (.int _ z) => z | _ => 0, match w.cell? ⟨b, o + 1, none⟩ with | some (.bool r) => r | _ => false)

theorem mem_trns {α : Type} {x : Ro α × Nat} {a : Ro α} : ∀ {c : List (Ro α)} {i : Nat}, x ∈ Ro.trns a i c → x.1 = a ∨ ∃ k ∈ c, x ∈ k.trn
  | [], i, h => by simp [Ro.trns] at h
  | k :: r, i, h => by
    simp only [Ro.trns, List.mem_append, List.mem_cons] at h
    rcases h with h | h | h
    · exact .inr ⟨k, by simp, h⟩
    · exact .inl (by rw [h])
    · rcases mem_trns h with h | ⟨q, hq, h⟩
      · exact .inl h
      · exact .inr ⟨q, by simp [hq], h⟩

theorem ro_of_new {P : Program} {g : Nat} {k : Option Addr × Nat × Nat → Option Addr × Nat × Nat} {f : Nat → Nat} (hf : ∀ n, f n ≤ n) (hk : ∀ a n c, (k (a, n, c)).2.1 = f n ∧ (f n ≠ 0 → (k (a, n, c)).1 = a)) {w : World}
    (hg : ∀ (b o : Nat) (a : Option Addr) (n c : Nat), n ≤ c → w.cell? ⟨b, o + 2, none⟩ = some (.slice a n c) → ∀ W, Below w.heap.size w W → Calls P g #[.pointer (some ⟨b, o, none⟩)] W fun e W' => e = .returned (.slice (k (a, n, c)).1 (k (a, n, c)).2.1 (k (a, n, c)).2.2) ∧ Below W.heap.size W W')
    {lo : Nat} {cv : Value} {t : Bt} (h : BinNew w lo cv t) : ∀ (nb no : Nat), PAddr w ⟨nb, no, none⟩ → w.cell? ⟨nb, no, none⟩ = some (.int .i64 t.key) → w.cell? ⟨nb, no + 1, none⟩ = some (.bool t.red) → w.cell? ⟨nb, no + 2, none⟩ = some cv →
      ∃ r : Ro (Int × Bool), r.nb = nb ∧ r.no = no ∧ r.bt = t.cut f ∧ RoAt P g 3 (kidsAt k w) (labAt w) w r ∧ ∀ x ∈ r.trn, w.cell? ⟨x.1.nb, x.1.no, none⟩ = some (.int .i64 x.1.lab.1) ∧ w.cell? ⟨x.1.nb, x.1.no + 1, none⟩ = some (.bool x.1.lab.2) := by
  induction h with
  | mk key red cs h kvs rvs cvs hh hc hkr hkids ih =>
    intro nb no hp h0 h1 h2
    have hkid : ∀ i (hi : i < cs.length), ∃ r : Ro (Int × Bool), r.nb = h ∧ r.no = i * 3 ∧ r.bt = cs[i].cut f ∧ RoAt P g 3 (kidsAt k w) (labAt w) w r ∧ ∀ x ∈ r.trn, w.cell? ⟨x.1.nb, x.1.no, none⟩ = some (.int .i64 x.1.lab.1) ∧ w.cell? ⟨x.1.nb, x.1.no + 1, none⟩ = some (.bool x.1.lab.2) := fun i hi => by
      have e0 := hc.cell (i := i * 3) (by omega)
      have e1 := hc.cell (i := i * 3 + 1) (by omega)
      have e2 := hc.cell (i := i * 3 + 2) (by omega)
      rw [tri_0, (hkr i hi).1] at e0
      rw [tri_1, (hkr i hi).2] at e1
      rw [tri_2] at e2
      refine ih i hi h (i * 3) ?_ e0 e1 e2
      have hrow := hc
      unfold World.rowIs at hrow
      obtain ⟨c, hr⟩ := hrow
      exact ⟨c, _, hr.1⟩
    let F : Nat → Ro (Int × Bool) := fun i => if hi : i < cs.length then (hkid i hi).choose else .mk (0, false) 0 0 []
    have hF : ∀ i (hi : i < cs.length), (F i).nb = h ∧ (F i).no = i * 3 ∧ (F i).bt = cs[i].cut f ∧ RoAt P g 3 (kidsAt k w) (labAt w) w (F i) ∧ ∀ x ∈ (F i).trn, w.cell? ⟨x.1.nb, x.1.no, none⟩ = some (.int .i64 x.1.lab.1) ∧ w.cell? ⟨x.1.nb, x.1.no + 1, none⟩ = some (.bool x.1.lab.2) := fun i hi => by
      show (if hi : i < cs.length then (hkid i hi).choose else Ro.mk (0, false) 0 0 []).nb = h ∧ _
      simp only [F, dif_pos hi]
      exact (hkid i hi).choose_spec
    have hfl := hf cs.length
    have hlen : ((List.range (f cs.length)).map F).length = f cs.length := by simp
    have hkk := hk (some ⟨h, 0, none⟩) cs.length cs.length
    refine ⟨.mk (key, red) nb no ((List.range (f cs.length)).map F), rfl, rfl, ?_, ?_, fun x hx => ?_⟩
    · simp only [Ro.bt, Bt.cut]
      congr 1
      apply List.ext_getElem
      · rw [Ro.bts_length, hlen, List.length_take, Bt.cuts_length]; omega
      · intro i i1 i2
        rw [Ro.bts_length, hlen] at i1
        rw [Ro.bts_get _ _ (by rw [hlen]; exact i1), List.getElem_take, Bt.cuts_get f cs i (by omega)]
        simp only [List.getElem_map, List.getElem_range]
        exact (hF i (by omega)).2.2.1
    · refine .mk (key, red) nb no _ (k (some ⟨h, 0, none⟩, cs.length, cs.length)).1 (k (some ⟨h, 0, none⟩, cs.length, cs.length)).2.2 h 0 hp ?_ ?_ ?_ ?_ ?_ ?_
      · have h0' : w.cell? ⟨nb, no, none⟩ = some (.int .i64 key) := h0
        have h1' : w.cell? ⟨nb, no + 1, none⟩ = some (.bool red) := h1
        simp only [labAt, h0', h1']
      · simp only [kidsAt, h2, hlen]
        rw [← hkk.1]
      · intro W hW
        have := hg nb no _ _ _ (Nat.le_refl _) h2 W hW
        rw [hkk.1] at this
        rw [hlen]
        exact this
      · intro i hi
        rw [hlen] at hi
        simp only [List.getElem_map, List.getElem_range]
        exact ⟨(hF i (by omega)).1, by rw [(hF i (by omega)).2.1]; omega⟩
      · intro i hi
        rw [hlen] at hi
        simp only [List.getElem_map, List.getElem_range]
        exact (hF i (by omega)).2.2.2.1
      · rw [hlen]
        by_cases e : f cs.length = 0
        · exact .inl e
        · exact .inr (hkk.2 e)
    · have hself : x.1 = .mk (key, red) nb no ((List.range (f cs.length)).map F) ∨ ∃ i, i < f cs.length ∧ x ∈ (F i).trn := by
        simp only [Ro.trn, List.mem_cons] at hx
        rcases hx with h | h
        · exact .inl (by rw [h])
        · rcases mem_trns h with h | ⟨q, hq, h⟩
          · exact .inl h
          · obtain ⟨i, hi, rfl⟩ := List.mem_map.1 hq
            exact .inr ⟨i, by simpa using hi, h⟩
      rcases hself with h | ⟨i, hi, h⟩
      · rw [h]; exact ⟨h0, h1⟩
      · exact (hF i (by omega)).2.2.2.2 x h
end Go.Proofs.Ytodcapgmhginoaa
