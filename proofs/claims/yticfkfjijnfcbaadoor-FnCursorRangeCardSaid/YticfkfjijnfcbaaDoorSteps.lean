/- The iterator steps: what one comes by on the way through a tree. -/
import Derived.Test.YticfkfjijnfcbaaDoorProg
import Derived.Test.YticfkfjijnfcbaaDoorSh0
import Derived.Test.YticfkfjijnfcbaaDoorSh18
import Derived.Test.YticfkfjijnfcbaaDoorSh3
import Derived.Test.YticfkfjijnfcbaaDoorSh22
import Derived.Test.YticfkfjijnfcbaaDoorSh23
import Derived.Test.YticfkfjijnfcbaaDoorTurnsT
import Derived.Test.YticfkfjijnfcbaaDoorIter
import Derived.Test.YticfkfjijnfcbaaDoorSh5
import Derived.RangeFuncNested
import Derived.Shelf.RegionOpen
import Derived.WalkKit
import Derived.OwnWalkIn
import Derived.TacticsInMore
import Derived.LoopNIn
import Derived.LoopIn
import Derived.Sort.LoopGhostIn
import Derived.Sort.QuietIn
import Derived.Maps.OwnIn
namespace Go.Proofs.YticfkfjijnfcbaaDoor
open Go.RowKit
attribute [local go_sem] Oper.semAt_some

set_option maxRecDepth 100000 in
set_option maxHeartbeats 4000000 in
theorem steps_iter {w₀ : World} {a : ATr} (ha : AT w₀ a) (hwt : a.weight ≤ 1048576) :
    Iter Tryd.prog 79 #[.pointer (some a.addr)] #[] Step.enc (fun k => k < w₀.heap.size) a.evs w₀ := by
  intro l J Jx Pv W hkeep hRd hbnd hJ hJx hY h0
  have hg0 : w₀.heap.size ≤ W.heap.size := hkeep.size
  have hsz : a.ro.siz ≤ 1048576 := by have := ATr.ro_siz a; unfold ATr.weight at hwt; omega
  have hevs := evs_turns a.weight a (Nat.le_refl _)
  have hmem := mem_trn_ro a.weight a (Nat.le_refl _) ha
  obtain ⟨W1, hW1⟩ : ∃ W1, W1 = W.alloc (.cells #[.func (.yield l) #[] #[]] 130) := ⟨_, rfl⟩
  have hs1 : W1.heap.size = W.heap.size + 1 := by rw [hW1]; simp
  have k1 : W1.heap[W.heap.size]? = some (.cells #[.func (.yield l) #[] #[]] 130 (0, 0)) := by rw [hW1, new_blk]
  have hk1 : ∀ K, Keep K W W1 := fun K => by rw [hW1]; exact Keep.alloc K _ _
  have htu := turnsT_c (g := 94) W1 a.addr
  obtain ⟨W4, hW4⟩ : ∃ W4, W4 = (W1.alloc (.cells #[.pointer (some a.addr)] 89)).alloc (.cells #[.func (.func 94) #[] #[]] 113) := ⟨_, rfl⟩
  rw [← hW4] at htu
  have hs4 : W4.heap.size = W.heap.size + 3 := by rw [hW4]; simp; omega
  have hk4 : ∀ K, Keep K W1 W4 := fun K => by rw [hW4]; exact (Keep.alloc K _ _).trans (Keep.alloc K _ _)
  have b0 : W4.heap[W.heap.size]? = some (.cells #[.func (.yield l) #[] #[]] 130 (0, 0)) := ((hk4 (fun _ => True)).block _ (by omega) trivial).trans k1
  have g2 : W4.heap[W.heap.size + 1]? = some (.cells #[.pointer (some a.ro.addr)] 89 (0, 0)) := by rw [hW4, old_blk _ _ _ (by simp; omega), ← hs1, new_blk, ATr.ro_addr]
  have g3 : W4.heap[W.heap.size + 2]? = some (.cells #[.func (.func 94) #[] #[]] 113 (0, 0)) := by
    rw [hW4, show W.heap.size + 2 = (W1.alloc (.cells #[.pointer (some a.addr)] 89)).heap.size by simp; omega, new_blk]
  have hk04 : ∀ K, Keep K W W4 := fun K => (hk1 K).trans (hk4 K)
  have hbW : Below w₀.heap.size w₀ W4 := (hkeep.trans (hk04 _)).below (Nat.le_refl _) (fun k h => h)
  have hit := turnsT_iter (enters_of Tryd.func94 (by kernel_rfl) rfl) ha.ro hsz hbW g2 g3
  have h02 : Under (J []) Pv W.heap.size W.heap.size (.cells #[.func (.yield l) #[] #[]] 130 (0, 0)) (.cells #[.func (.yield l) #[] #[]] 130 (0, 0)) (fun k => Pv k ∨ k = W.heap.size + 1 ∨ k = W.heap.size + 2) W4 := by
    refine ⟨fun k => Pv k ∨ (W.heap.size ≤ k ∧ k < W4.heap.size), ?_, fun k h hl => ?_, fun k h => .inl h, .inr ⟨Nat.le_refl _, by omega⟩, .inr ⟨Nat.le_refl _, by omega⟩, fun h => ?_, fun h => ?_, fun k h => ?_, b0, b0⟩
    · exact hJ _ _ W _ W4 h0 (hk04 _) (fun k h => h.imp id (·.1))
    · rcases h with h | h | h
      · exact .inl h
      · exact .inr ⟨by omega, by omega⟩
      · exact .inr ⟨by omega, by omega⟩
    · rcases h with h | h
      · have := hbnd _ h; omega
      · omega
    · rcases h with h | h
      · have := hbnd _ h; omega
      · omega
    · rcases h with h | h
      · have := hbnd _ h; omega
      · exact h.2
  obtain ⟨oY, hoY⟩ : ∃ oY, oY = Obj.cells #[.func (.yield l) #[] #[]] 130 (0, 0) := ⟨_, rfl⟩
  rw [← hoY] at h02
  have HOY := Lib.hid hoY
  have H02 := Lib.hid h02
  have HIT := Lib.hid hit
  have HTU := Lib.hid htu
  have HW1 := Lib.hid hW1
  have HEV := Lib.hid hevs
  have HMEM := Lib.hid hmem
  have HY := Lib.hid hY
  have HK := Lib.hid (And.intro hkeep (And.intro hk04 hbW))
  have HS := Lib.hid (And.intro hs1 hs4)
  have HBND := Lib.hid hbnd
  clear hoY h02 hit htu hW1 hW4 hevs hmem hY hk1 hk4 hk04 hbW k1 b0 g2 g3 hs1 hs4 ha hsz
  refine (callsIn_wide (n := 9)).1 (callsIn_of_wp_marks Tryd.func79 rfl trivial ?_ rfl)
  simp only [Tryd.ntmps79, List.size_toArray, List.length_cons, List.length_nil, Nat.reduceAdd, Nat.reduceSub, Array.replicate_succ, Array.replicate_zero, List.push_toArray, List.append_toArray, List.nil_append, List.cons_append]
  gi_wp2
  rw [← HW1.out]
  refine ⟨trivial, ?_⟩
  refine ((callsIn_wide (n := 8)).2 HTU.out).mono ?_
  rintro e w5 ⟨rfl, rfl⟩
  have hs1 := HS.out.1
  have hs4 := HS.out.2
  rw [hs1]
  clear hs1
  gi_wp2
  obtain ⟨S0, hS0⟩ : ∃ S0, S0 = W.heap.size := ⟨_, rfl⟩
  refine wp_loop (fb := #[]) (lb := #[.pointer (some ⟨W.heap.size + 1, 0, none⟩), .pointer (some ⟨W.heap.size + 1 + 1, 0, none⟩)]) rfl (enters_of Tryd.func130 (by kernel_rfl) rfl) HIT.out (Keep.refl _ _) (fun x => rfl)
    (fun k => Pv k ∨ k = W.heap.size + 1 ∨ k = W.heap.size + 2) (fun k h => ?rd) (fun k h => ?pv)
    (fun pre Pv' W' => Under (J (pre.flatMap turnS)) Pv W.heap.size W.heap.size oY oY Pv' W')
    (fun c pre Pv' W' => c = .ret ∧ Under (fun Pv W => ∃ q, q <+: a.evs ∧ Jx q Pv W) Pv W.heap.size W.heap.size oY oY Pv' W')
    (fun pre' Pv1 A Pv2 B h hk hp => Under.abide (fun Pv A Pv' B h hk hp => hJ _ _ _ _ _ h hk hp) _ _ _ _ h hk hp)
    (fun c pre' Pv1 A Pv2 B h hk hp => ⟨h.1, Under.abide (fun Pv A Pv' B h hk hp => by obtain ⟨q, hq, hx⟩ := h; exact ⟨q, hq, hJx _ _ _ _ _ hx hk hp⟩) _ _ _ _ h.2 hk hp⟩)
    H02.out
    (fun x => { tmps := #[.pointer (some a.addr), .func (.yield l) #[] #[], undef, .pointer (some ⟨W.heap.size, 0, none⟩), .pointer (some x.1.addr), .int .i64 x.2, undef, undef, .pointer (some a.addr), .func (.func 130) #[] #[.pointer (some ⟨W.heap.size + 1, 0, none⟩), .pointer (some ⟨W.heap.size + 1 + 1, 0, none⟩)], .pointer (some x.1.addr), .int .i64 x.2, undef, undef, undef, undef, undef, undef, undef, undef, undef, undef, undef, undef, undef, undef, undef, undef, undef, undef, undef, undef, undef, undef, undef, undef, undef, undef, undef, undef, undef, undef, undef, undef, undef, undef, undef, undef, undef, undef], defers := [] })
    ?assign ?body ?done ?stop
  case rd =>
    rcases h with h | h | h
    · exact .inl (hRd k h)
    · exact .inr (.inl h)
    · exact .inr (.inr h)
  case pv =>
    rcases h with h | h | h
    · have := HBND.out k h; omega
    · omega
    · omega
  case assign =>
    intro l' m x W' K hK
    dsimp only [turnEnc]
    gi_wp2
    exact hK
  case body =>
    rintro l' m pre ⟨f, p⟩ Pv' W' hI hkW hsubW hbnd' hp
    have hfm : (f, p) ∈ a.ro.trn := by obtain ⟨q, hq⟩ := hp; rw [← hq]; simp
    obtain ⟨hAT, had, hwb, hpl⟩ := HMEM.out _ hfm
    simp only at hAT had hwb hpl
    obtain ⟨b, hb⟩ : ∃ b, b = f.lab := ⟨_, rfl⟩
    rw [← hb] at hAT had hwb hpl
    have hfl : (pre ++ [(f, p)]).flatMap turnS = pre.flatMap turnS ++ b.turn p := by rw [List.flatMap_append, hb]; simp [turnS]
    have hpx : pre.flatMap turnS ++ b.turn p <+: a.evs := by
      rw [← hfl, ← HEV.out]
      obtain ⟨q, hq⟩ := hp
      rw [← hq, List.flatMap_append (xs := pre ++ [(f, p)])]
      exact List.prefix_append _ _
    have hKW0 : Keep Pv W W' := (HK.out.2.1 _).trans (hkW.mono (fun k _ h => .inl h))
    obtain ⟨X0, hX0⟩ : ∃ X0, X0 = pre.flatMap turnS := ⟨_, rfl⟩
    rw [← hX0] at hI hfl hpx
    dsimp only
    rw [had]
    obtain ⟨X1, hX1⟩ : ∃ X1, X1 = X0 ++ (if p = 0 then [Step.beg b] else []) := ⟨_, rfl⟩
    obtain ⟨ky, hky⟩ : ∃ ky, ky = (b.behind p).map (Step.key b) := ⟨_, rfl⟩
    obtain ⟨fi, hfi⟩ : ∃ fi, fi = (if p = b.cs.length then [Step.fin b] else []) := ⟨_, rfl⟩
    have hturn : X0 ++ b.turn p = X1 ++ ky ++ fi := by rw [hX1, hky, hfi]; unfold ATr.turn; simp only [List.append_assoc]
    have HFL := Lib.hid (hfl.trans hturn)
    have HPX := Lib.hid (hturn ▸ hpx)
    have HI := Lib.hid hI
    have HKW := Lib.hid (And.intro hKW0 hbnd')
    have HK0 := Lib.hid (And.intro (hkeep.trans (hKW0.mono (fun k _ h => hRd k h))) (fun k (h : k < w₀.heap.size) => hsubW k (.inl (hRd k h))))
    have HSUB := Lib.hid (fun k (h : Pv k) => hsubW k (.inl h))
    have HAT := Lib.hid hAT
    have HX := Lib.hid (And.intro hX1 (And.intro hky hfi))
    obtain ⟨Pv2, -, -, -, -, -, -, -, -, c3', -⟩ := hI
    rw [HOY.out] at c3'
    obtain ⟨c3, f3⟩ := box1 c3'
    clear hfl hpx hX0 hp hfm had hb hkW hsubW hbnd' hKW0 hAT hturn c3' hX1 hky hfi
    by_cases hp0 : p = 0
    · have hpe : ((p : Int) == 0) = true := by simp [hp0]
      have hx1 : X0 ++ [Step.beg b] = X1 := by rw [HX.out.1, if_pos hp0]
      have hst := yield_step HY.out HKW.out.1 HI.out (x := Step.beg b) (by rw [hx1]; exact pre_two HPX.out) HKW.out.2
      rw [hx1] at hst
      obtain ⟨fn, tmps, assign, body, hy, hR⟩ := hst
      have HR := Lib.hid hR
      have HP0 := Lib.hid hp0
      clear hR hx1 hp0
      dsimp only [Step.enc] at hy
      gi_wp2
      refine ⟨fun h => (by cases h), ?_⟩
      refine RoundIn.mono (F := Fence.wide.inRound l') (HR.out _) ?_
      rintro e W5 ⟨hk5, (⟨rfl, hU5⟩ | ⟨rfl, hU5⟩)⟩
      · have HK5 := Lib.hid (And.intro hk5 hU5)
        clear hk5 hU5 hy
        gi_wp2
        have hkw5 := HK0.out.1.trans (HK5.out.1.mono (fun k _ h => HK0.out.2 k h))
        have HC := Lib.hid (keysBehind_c HAT.out (by omega) p hpl W5 (fun k hk => hkw5.block k hk hk))
        have HKW5 := Lib.hid hkw5
        clear hkw5
        refine ⟨trivial, fun h => (by cases h), ?_⟩
        refine (CallsIn.inRound l' ((callsIn_wide (n := m - 1)).2 HC.out)).mono ?_
        rintro e W6 ⟨⟨v, rfl, hpart⟩, hb6⟩
        obtain ⟨ka, kc, rfl, hcells⟩ := hpart
        have hk6 : Keep Pv' W5 W6 := Keep.of_below hb6 (fun k hk _ => hk)
        have hU6 := Under.abide (fun Pv A Pv' B h hk hp => hJ _ _ _ _ _ h hk hp) _ _ _ _ HK5.out.2 (Keep.of_below hb6 (fun k hk _ => hk)) (fun k h => .inl h)
        have hlk : ky.length = (b.behind p).length := by rw [HX.out.2.1]; simp
        have hkl : (b.behind p).length ≤ 1048576 := by
          have h1 := ATr.ks_le b
          have h2 : (b.behind p).length ≤ b.ks.length := by unfold ATr.behind; simp; omega
          omega
        obtain ⟨n, hn⟩ : ∃ n, n = (b.behind p).length := ⟨_, rfl⟩
        rw [← hn] at hcells hlk hkl ⊢
        have HK6 := Lib.hid (And.intro hk6 hU6)
        have HCE := Lib.hid hcells
        have HLK := Lib.hid (And.intro hlk hn)
        clear hk6 hU6 hcells hlk hn hb6
        gi_wp2
        gi_loopw [25] (fun i wr => ∃ (j : Nat), j ≤ n ∧ i = .int .i64 j ∧ Under (J (X1 ++ ky.take j)) Pv W.heap.size W.heap.size oY oY Pv' wr ∧ Keep Pv' W6 wr) (fun i _ => n - (intOf i).toNat)
        case atStart => exact ⟨0, Nat.zero_le _, rfl, by simpa using HK6.out.2, Keep.refl _ _⟩
        case round =>
          obtain ⟨j, hj, rfl, hU, hkr⟩ := hrel
          obtain ⟨c3, f3⟩ : wr.cell? ⟨W.heap.size, 0, none⟩ = some (.func (.yield l) #[] #[]) ∧ wr.frozen? ⟨W.heap.size, 0, none⟩ = false := by
            obtain ⟨Pv2, -, -, -, -, -, -, -, -, c3', -⟩ := hU
            rw [HOY.out] at c3'
            exact box1 c3'
          have hkall : Keep Pv' W' wr := HK5.out.1.trans (HK6.out.1.trans hkr)
          have hkw0 := HK0.out.1.trans (hkall.mono (fun k _ h => HK0.out.2 k h))
          have hkW : Keep Pv W wr := HKW.out.1.trans (hkall.mono (fun k _ h => HSUB.out k h))
          have hbW : ∀ k, Pv' k → k < wr.heap.size := fun k h => Nat.lt_of_lt_of_le (HKW.out.2 k h) hkall.size
          by_cases hlt : j < n
          · obtain ⟨g, o, rfl, hce⟩ := HCE.out.resolve_left (by omega)
            obtain ⟨x, hx⟩ : ∃ x, x = (b.behind p).getD j 0 := ⟨_, rfl⟩
            have hcj : wr.cell? ⟨g, o + j, none⟩ = some (.int .i64 x) := by
              have h1 := hce j hlt
              rw [← hx] at h1
              have h2 := World.block_lt_of_cell? w₀ _ h1
              rw [← h1]
              exact World.cell?_of_block (w := w₀) (a := ⟨g, o + j, none⟩) (hkw0.block g h2 h2)
            have hjl : j < ky.length := by rw [HLK.out.1]; exact hlt
            have hkj : ky[j] = Step.key b x := by
              have h1 : j < (b.behind p).length := by rw [← HLK.out.2]; exact hlt
              have h2 := HX.out.2.1
              subst h2
              rw [hx]
              simp [List.getD_eq_getElem?_getD, h1]
            have hst := yield_step HY.out hkW hU (x := Step.key b x) (by rw [← hkj]; exact pre_at HPX.out j hjl) hbW
            have hnx : X1 ++ ky.take j ++ [Step.key b x] = X1 ++ ky.take (j + 1) := by rw [← hkj, List.take_succ_eq_append_getElem hjl, List.append_assoc]
            have hpn : X1 ++ ky.take j ++ [Step.key b x] <+: a.evs := by rw [← hkj]; exact pre_at HPX.out j hjl
            rw [hnx] at hst hpn
            obtain ⟨fn, tmps, assign, body, hy, hR⟩ := hst
            have HR := Lib.hid hR
            have HPN := Lib.hid hpn
            have HKR := Lib.hid (And.intro hkr hkall)
            clear hR hkj hnx hpn hU hkr hkall hkw0 hkW hbW hce hjl hx
            dsimp only [Step.enc] at hy
            gi_wp2
            refine ⟨fun h => (by cases h), ?_⟩
            refine RoundIn.mono (F := Fence.wide.inRound l') (HR.out _) ?_
            rintro e W7 ⟨hk7, (⟨rfl, hU7⟩ | ⟨rfl, hU7⟩)⟩
            · have HK7 := Lib.hid (And.intro hk7 hU7)
              clear hk7 hU7 hy
              gi_wp2
              go_roundw
              case rel => exact ⟨j + 1, by omega, by go_num, HK7.out.2, HKR.out.1.trans HK7.out.1⟩
              case measure => simp [intOf]; omega
            · have HK7 := Lib.hid (And.intro hk7 hU7)
              clear hk7 hU7 hy
              gi_wp2
              exact ⟨HKR.out.2.trans HK7.out.1, rfl, HK7.out.2.weaken (fun _ _ h => ⟨_, HPN.out, h⟩)⟩
          · obtain rfl : j = n := by omega
            rw [List.take_of_length_le (by rw [HLK.out.1]; exact Nat.le_refl _)] at hU
            have hck : ∃ kk kc', wr.cell? ⟨b.addr.block, b.addr.off + 1, none⟩ = some (.slice kk b.cs.length kc') := by
              obtain ⟨_, ha', _, hc, _, _, _, _, _, _, h1, _⟩ := HAT.out.parts
              have h2 := World.block_lt_of_cell? w₀ _ h1
              refine ⟨ha', hc, ?_⟩
              rw [← h1]
              exact World.cell?_of_block (w := w₀) (a := ⟨b.nb, b.no + 1, none⟩) (hkw0.block b.nb h2 h2)
            obtain ⟨kk, kc', hck⟩ := hck
            by_cases hpe2 : p = b.cs.length
            · have hq : ((p : Int) == (b.cs.length : Int)) = true := by simp [hpe2]
              have hfi : fi = [Step.fin b] := by rw [HX.out.2.2, if_pos hpe2]
              have hpn := HPX.out
              rw [hfi] at hpn
              have hst := yield_step HY.out hkW hU (x := Step.fin b) hpn hbW
              obtain ⟨fn, tmps, assign, body, hy, hR⟩ := hst
              have HR := Lib.hid hR
              have HPN := Lib.hid hpn
              have HFI := Lib.hid hfi
              have HQ := Lib.hid hpe2
              have HKR := Lib.hid hkall
              clear hR hpn hU hkr hkall hkw0 hkW hbW hfi hpe2
              dsimp only [Step.enc] at hy
              gi_wp2
              refine ⟨fun h => (by cases h), ?_⟩
              refine RoundIn.mono (F := Fence.wide.inRound l') (HR.out _) ?_
              rintro e W7 ⟨hk7, (⟨rfl, hU7⟩ | ⟨rfl, hU7⟩)⟩
              · have HK7 := Lib.hid (And.intro hk7 hU7)
                clear hk7 hU7 hy
                gi_wp2
                refine ⟨HKR.out.trans HK7.out.1, ?_⟩
                show Under (J (List.flatMap turnS (pre ++ [(f, p)]))) _ _ _ _ _ _ _
                rw [HFL.out, HFI.out]
                exact HK7.out.2
              · have HK7 := Lib.hid (And.intro hk7 hU7)
                clear hk7 hU7 hy
                gi_wp2
                exact ⟨HKR.out.trans HK7.out.1, rfl, HK7.out.2.weaken (fun _ _ h => ⟨_, HPN.out, h⟩)⟩
            · have hq : ((p : Int) == (b.cs.length : Int)) = false := by simp; omega
              have HFI := Lib.hid (show fi = [] by rw [HX.out.2.2, if_neg hpe2])
              have HKR := Lib.hid (And.intro hkall hU)
              clear hU hkr hkall hkw0 hkW hbW hpe2
              gi_wp2
              refine ⟨fun _ h => (by cases h), ?_⟩
              gi_wp2
              refine ⟨HKR.out.1, ?_⟩
              show Under (J (List.flatMap turnS (pre ++ [(f, p)]))) _ _ _ _ _ _ _
              rw [HFL.out, HFI.out, List.append_nil]
              exact HKR.out.2
      · have HK5 := Lib.hid (And.intro hk5 hU5)
        clear hk5 hU5 hy
        gi_wp2
        exact ⟨HK5.out.1, rfl, HK5.out.2.weaken (fun _ _ h => ⟨_, pre_two HPX.out, h⟩)⟩
    · have hpe : ((p : Int) == 0) = false := by simpa using hp0
      have hx1 : X0 = X1 := by rw [HX.out.1, if_neg hp0, List.append_nil]
      have HK5 := Lib.hid (And.intro (Keep.refl Pv' W') (hx1 ▸ HI.out : Under (J X1) Pv W.heap.size W.heap.size oY oY Pv' W'))
      have HP0 := Lib.hid hp0
      clear hx1 hp0
      gi_wp2
      refine ⟨fun _ h => (by cases h), ?_⟩
      gi_wp2
      have hkw5 := HK0.out.1.trans (HK5.out.1.mono (fun k _ h => HK0.out.2 k h))
      have HC := Lib.hid (keysBehind_c HAT.out (by omega) p hpl W' (fun k hk => hkw5.block k hk hk))
      have HKW' := Lib.hid hkw5
      clear hkw5
      refine ⟨trivial, fun h => (by cases h), ?_⟩
      refine (CallsIn.inRound l' ((callsIn_wide (n := m - 1)).2 HC.out)).mono ?_
      rintro e W6 ⟨⟨v, rfl, hpart⟩, hb6⟩
      obtain ⟨ka, kc, rfl, hcells⟩ := hpart
      have hk6 : Keep Pv' W' W6 := Keep.of_below hb6 (fun k hk _ => hk)
      have hU6 := Under.abide (fun Pv A Pv' B h hk hp => hJ _ _ _ _ _ h hk hp) _ _ _ _ HK5.out.2 (Keep.of_below hb6 (fun k hk _ => hk)) (fun k h => .inl h)
      have hlk : ky.length = (b.behind p).length := by rw [HX.out.2.1]; simp
      have hkl : (b.behind p).length ≤ 1048576 := by
        have h1 := ATr.ks_le b
        have h2 : (b.behind p).length ≤ b.ks.length := by unfold ATr.behind; simp; omega
        omega
      obtain ⟨n, hn⟩ : ∃ n, n = (b.behind p).length := ⟨_, rfl⟩
      rw [← hn] at hcells hlk hkl ⊢
      have HK6 := Lib.hid (And.intro hk6 hU6)
      have HCE := Lib.hid hcells
      have HLK := Lib.hid (And.intro hlk hn)
      clear hk6 hU6 hcells hlk hn hb6
      gi_wp2
      gi_loopw [25] (fun i wr => ∃ (j : Nat), j ≤ n ∧ i = .int .i64 j ∧ Under (J (X1 ++ ky.take j)) Pv W.heap.size W.heap.size oY oY Pv' wr ∧ Keep Pv' W6 wr) (fun i _ => n - (intOf i).toNat)
      case atStart => exact ⟨0, Nat.zero_le _, rfl, by simpa using HK6.out.2, Keep.refl _ _⟩
      case round =>
        obtain ⟨j, hj, rfl, hU, hkr⟩ := hrel
        obtain ⟨c3, f3⟩ : wr.cell? ⟨W.heap.size, 0, none⟩ = some (.func (.yield l) #[] #[]) ∧ wr.frozen? ⟨W.heap.size, 0, none⟩ = false := by
          obtain ⟨Pv2, -, -, -, -, -, -, -, -, c3', -⟩ := hU
          rw [HOY.out] at c3'
          exact box1 c3'
        have hkall : Keep Pv' W' wr := HK5.out.1.trans (HK6.out.1.trans hkr)
        have hkw0 := HK0.out.1.trans (hkall.mono (fun k _ h => HK0.out.2 k h))
        have hkW : Keep Pv W wr := HKW.out.1.trans (hkall.mono (fun k _ h => HSUB.out k h))
        have hbW : ∀ k, Pv' k → k < wr.heap.size := fun k h => Nat.lt_of_lt_of_le (HKW.out.2 k h) hkall.size
        by_cases hlt : j < n
        · obtain ⟨g, o, rfl, hce⟩ := HCE.out.resolve_left (by omega)
          obtain ⟨x, hx⟩ : ∃ x, x = (b.behind p).getD j 0 := ⟨_, rfl⟩
          have hcj : wr.cell? ⟨g, o + j, none⟩ = some (.int .i64 x) := by
            have h1 := hce j hlt
            rw [← hx] at h1
            have h2 := World.block_lt_of_cell? w₀ _ h1
            rw [← h1]
            exact World.cell?_of_block (w := w₀) (a := ⟨g, o + j, none⟩) (hkw0.block g h2 h2)
          have hjl : j < ky.length := by rw [HLK.out.1]; exact hlt
          have hkj : ky[j] = Step.key b x := by
            have h1 : j < (b.behind p).length := by rw [← HLK.out.2]; exact hlt
            have h2 := HX.out.2.1
            subst h2
            rw [hx]
            simp [List.getD_eq_getElem?_getD, h1]
          have hst := yield_step HY.out hkW hU (x := Step.key b x) (by rw [← hkj]; exact pre_at HPX.out j hjl) hbW
          have hnx : X1 ++ ky.take j ++ [Step.key b x] = X1 ++ ky.take (j + 1) := by rw [← hkj, List.take_succ_eq_append_getElem hjl, List.append_assoc]
          have hpn : X1 ++ ky.take j ++ [Step.key b x] <+: a.evs := by rw [← hkj]; exact pre_at HPX.out j hjl
          rw [hnx] at hst hpn
          obtain ⟨fn, tmps, assign, body, hy, hR⟩ := hst
          have HR := Lib.hid hR
          have HPN := Lib.hid hpn
          have HKR := Lib.hid (And.intro hkr hkall)
          clear hR hkj hnx hpn hU hkr hkall hkw0 hkW hbW hce hjl hx
          dsimp only [Step.enc] at hy
          gi_wp2
          refine ⟨fun h => (by cases h), ?_⟩
          refine RoundIn.mono (F := Fence.wide.inRound l') (HR.out _) ?_
          rintro e W7 ⟨hk7, (⟨rfl, hU7⟩ | ⟨rfl, hU7⟩)⟩
          · have HK7 := Lib.hid (And.intro hk7 hU7)
            clear hk7 hU7 hy
            gi_wp2
            go_roundw
            case rel => exact ⟨j + 1, by omega, by go_num, HK7.out.2, HKR.out.1.trans HK7.out.1⟩
            case measure => simp [intOf]; omega
          · have HK7 := Lib.hid (And.intro hk7 hU7)
            clear hk7 hU7 hy
            gi_wp2
            exact ⟨HKR.out.2.trans HK7.out.1, rfl, HK7.out.2.weaken (fun _ _ h => ⟨_, HPN.out, h⟩)⟩
        · obtain rfl : j = n := by omega
          rw [List.take_of_length_le (by rw [HLK.out.1]; exact Nat.le_refl _)] at hU
          have hck : ∃ kk kc', wr.cell? ⟨b.addr.block, b.addr.off + 1, none⟩ = some (.slice kk b.cs.length kc') := by
            obtain ⟨_, ha', _, hc, _, _, _, _, _, _, h1, _⟩ := HAT.out.parts
            have h2 := World.block_lt_of_cell? w₀ _ h1
            refine ⟨ha', hc, ?_⟩
            rw [← h1]
            exact World.cell?_of_block (w := w₀) (a := ⟨b.nb, b.no + 1, none⟩) (hkw0.block b.nb h2 h2)
          obtain ⟨kk, kc', hck⟩ := hck
          by_cases hpe2 : p = b.cs.length
          · have hq : ((p : Int) == (b.cs.length : Int)) = true := by simp [hpe2]
            have hfi : fi = [Step.fin b] := by rw [HX.out.2.2, if_pos hpe2]
            have hpn := HPX.out
            rw [hfi] at hpn
            have hst := yield_step HY.out hkW hU (x := Step.fin b) hpn hbW
            obtain ⟨fn, tmps, assign, body, hy, hR⟩ := hst
            have HR := Lib.hid hR
            have HPN := Lib.hid hpn
            have HFI := Lib.hid hfi
            have HQ := Lib.hid hpe2
            have HKR := Lib.hid hkall
            clear hR hpn hU hkr hkall hkw0 hkW hbW hfi hpe2
            dsimp only [Step.enc] at hy
            gi_wp2
            refine ⟨fun h => (by cases h), ?_⟩
            refine RoundIn.mono (F := Fence.wide.inRound l') (HR.out _) ?_
            rintro e W7 ⟨hk7, (⟨rfl, hU7⟩ | ⟨rfl, hU7⟩)⟩
            · have HK7 := Lib.hid (And.intro hk7 hU7)
              clear hk7 hU7 hy
              gi_wp2
              refine ⟨HKR.out.trans HK7.out.1, ?_⟩
              show Under (J (List.flatMap turnS (pre ++ [(f, p)]))) _ _ _ _ _ _ _
              rw [HFL.out, HFI.out]
              exact HK7.out.2
            · have HK7 := Lib.hid (And.intro hk7 hU7)
              clear hk7 hU7 hy
              gi_wp2
              exact ⟨HKR.out.trans HK7.out.1, rfl, HK7.out.2.weaken (fun _ _ h => ⟨_, HPN.out, h⟩)⟩
          · have hq : ((p : Int) == (b.cs.length : Int)) = false := by simp; omega
            have HFI := Lib.hid (show fi = [] by rw [HX.out.2.2, if_neg hpe2])
            have HKR := Lib.hid (And.intro hkall hU)
            clear hU hkr hkall hkw0 hkW hbW hpe2
            gi_wp2
            refine ⟨fun _ h => (by cases h), ?_⟩
            gi_wp2
            refine ⟨HKR.out.1, ?_⟩
            show Under (J (List.flatMap turnS (pre ++ [(f, p)]))) _ _ _ _ _ _ _
            rw [HFL.out, HFI.out, List.append_nil]
            exact HKR.out.2
  case done =>
    intro W3 hk3 hI hlt hD
    obtain ⟨Pv2, hj, e1, e2, e3, e4, e5, e6, e7, e8, e9⟩ := hI
    rw [HEV.out] at hj
    rw [hs4] at hD
    have hsz3 := hk3.size
    have eD : Pv2 (W.heap.size + 3) := e1 _ (.inr (.inl hs4.symm)) (by omega)
    have E2 := Lib.hid e2
    have HJ3 := Lib.hid hj
    have HK3 := Lib.hid hk3
    clear e1 e2 e7 e8 e9 hj hk3
    gi_wp2
    refine ⟨by simp, .inl ⟨_, _, rfl, run_takeDeferred hD, ?_⟩⟩
    have hk5 : ∀ K : Nat → Prop, ¬ K (W.heap.size + 3) → Keep K W3 (W3.putObj (W.heap.size + 3) (.deferred none)) := fun K h2 => Keep.putObj K _ _ _ h2
    refine ⟨.tuple #[], by simp [results, Tryd.results79, go_sem], ⟨_, rfl⟩, ((HK.out.2.1 _).trans (HK3.out.mono (fun k _ h => .inl h))).trans (hk5 _ (fun h => by have := HBND.out _ h; omega)), .inl ?_⟩
    exact hJ _ Pv2 W3 Pv _ HJ3.out (hk5 _ (fun h => h eD)) (fun k h => .inl (E2.out k h))
  case stop =>
    rintro c pre' W3 hk3 hp ⟨rfl, Pv2, ⟨q, hq, hj⟩, e1, e2, e3, e4, e5, e6, e7, e8, e9⟩ hlt hD
    rw [hs4] at hD
    have hsz3 := hk3.size
    have eD : Pv2 (W.heap.size + 3) := e1 _ (.inr (.inl hs4.symm)) (by omega)
    have E2 := Lib.hid e2
    have HJ3 := Lib.hid hj
    have HK3 := Lib.hid hk3
    clear e1 e2 e7 e8 e9 hj hk3
    gi_wp2
    refine ⟨by simp, .inl ⟨_, _, rfl, run_takeDeferred hD, ?_⟩⟩
    have hk5 : ∀ K : Nat → Prop, ¬ K (W.heap.size + 3) → Keep K W3 (W3.putObj (W.heap.size + 3) (.deferred none)) := fun K h2 => Keep.putObj K _ _ _ h2
    refine ⟨.tuple #[], by simp [results, Tryd.results79, go_sem], ⟨_, rfl⟩, ((HK.out.2.1 _).trans (HK3.out.mono (fun k _ h => .inl h))).trans (hk5 _ (fun h => by have := HBND.out _ h; omega)), .inr ⟨q, hq, ?_⟩⟩
    exact hJx _ Pv2 W3 Pv _ HJ3.out (hk5 _ (fun h => h eD)) (fun k h => .inl (E2.out k h))
end Go.Proofs.YticfkfjijnfcbaaDoor
