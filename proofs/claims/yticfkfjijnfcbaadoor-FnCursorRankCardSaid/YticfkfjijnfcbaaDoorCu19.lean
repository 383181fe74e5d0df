/- Maps whose keys are pointers: what the operations on them do, in any program. -/
import Derived.Test.YticfkfjijnfcbaaDoorCuS11
import Derived.Test.YticfkfjijnfcbaaDoorCuS12
import Derived.Sort.QuietIn
import Derived.TacticsInMore
import Derived.RangeFuncCalls
import Derived.LaidEqlPtr
/- The model's NextKey, PrevKey, RankOf. -/
namespace Go.Proofs.YticfkfjijnfcbaaDoor
open Go.RowKit
-- END
-- END
def Tr.rankB (key : Int) (t : Tr) : Int := if t.someB then (place key t.keys : Int) else -1
theorem rankB_is (key : Int) (t : Tr) : (t.someB = true → t.rankB key = (place key t.keys : Int)) ∧ (t.someB = false → t.rankB key = -1) := by
 unfold Tr.rankB; constructor <;> intro h <;> simp [h]
end Go.Proofs.YticfkfjijnfcbaaDoor
/- Regions that draw their order and only read, inside a round of a loop over an iterator. -/
namespace Go.Proofs.YticfkfjijnfcbaaDoor
open Go.RowKit
def undeferred (o : Oper) : Bool := match o.op with | .defer _ => false | _ => true
theorem undeferred_ne {o : Oper} (h : undeferred o = true) : ∀ c, o.op ≠ .defer c := by
 intro c hc
 unfold undeferred at h
 rw [hc] at h
 cases h
variable {F : Fence} {n : Nat} {P : Program} {ops : Array Oper} {Q : Exit → Act → World → Prop} {md : Region.Mode}
theorem wpAnyIn_round (l : Nat) (hro : F.round = none) (hp : ∀ (i : Nat) (o : Oper), ops[i]? = some o → undeferred o = true) : ∀ (fuel : Nat) (listed : Array Bool) (a : Act) (w : World),
   wpAnyIn F n P md ops Q fuel listed a w → wpAnyIn (F.inRound l) n P md ops Q fuel listed a w := by
 intro fuel
 induction fuel with
 | zero => intro listed a w h; exact h
 | succ fuel ih =>
   intro listed a w h
   refine ⟨h.1, fun i hi => ?_⟩
   have hh := h.2 i hi
   unfold wpOpIn at hh ⊢
   cases ho : ops[i]? with
   | none => simp only [ho] at hh ⊢; exact ih _ _ _ hh
   | some o =>
     simp only [ho] at hh ⊢
     by_cases hw : Region.wanted o (yielded ops a.tmps) = true
     · rw [if_pos hw] at hh ⊢
       have hh' := Oper.wpIn_mono (fun a w h => ih (listed.setIfInBounds i true) a w h) hh
       unfold Oper.wpIn at hh' ⊢
       refine ⟨hh'.1, ?_⟩
       have e := hh'.2
       rw [hro, Oper.semAt_eq none _ _ (undeferred_ne (hp i o ho))] at e
       rw [Oper.semAt_eq _ _ _ (undeferred_ne (hp i o ho))]
       exact e
     · rw [if_neg hw] at hh ⊢
       exact ⟨hh.1, ih _ _ _ hh.2⟩
theorem wpIn_quiet_round {id l : Nat} {a : Act} {w : World} {lst : List Oper} (hro : F.round = none) (hm : P.follows .mixedOrders = true) (hB : Region.lexB .any lst.toArray = true) (hp : lst.all undeferred = true)
   (h : wpQuietIn F n P lst.toArray (fun w' => ∃ n, w' = w.drewN n) (fun a' => ∀ w', (∃ n, w' = w.drewN n) → Q .normal a' w') lst a) : (Code.region id lst.toArray true).wpIn (F.inRound l) n P Q a w := by
 have hB' := hB
 simp only [Region.lexB, Bool.and_eq_true] at hB'
 refine wpIn_region_any hm (wpAnyIn_round l hro ?_ _ _ _ _ (wpAnyIn_of_quiet (C := fun w' => ∃ n, w' = w.drewN n) (Q := fun a' => ∀ w', (∃ n, w' = w.drewN n) → Q .normal a' w') hro (fun _ w' hw' h => h w' hw') _ _ _ _ ⟨1, rfl⟩ ?_))
 · intro i o ho
   rw [List.getElem?_toArray] at ho
   exact List.all_eq_true.1 hp o (List.mem_of_getElem? ho)
 · have h0 := wpAnyQIn_lex (F := F) (n := n) (P := P) (C := fun w' => ∃ n, w' = w.drewN n) (md := .any) hB'.1 lst 0 (Array.replicate lst.toArray.size false) a (by simp) (by simpa using hB'.2) h
   simpa using h0
end Go.Proofs.YticfkfjijnfcbaaDoor
/- Finding: what the planting of a tree and the making of the iterator over the way down leave. -/
namespace Go.Proofs.YticfkfjijnfcbaaDoor
open Go.RowKit
def DownAt (B gf : Nat) (n : Int) (t : Tr) (s : Value) (W : World) : Prop :=
 ∃ lo hi b q bn bf : Nat, s = .func (.func 118) #[] #[.pointer (some ⟨bn, 0, none⟩), .pointer (some ⟨bf, 0, none⟩)] ∧ NodeIn W lo hi b t ∧ B ≤ lo ∧ hi ≤ W.heap.size ∧ B ≤ q ∧ B ≤ bn ∧ B ≤ bf ∧
   W.heap[bn]? = some (.cells #[.pointer (some ⟨b, 0, none⟩)] 99 (0, 0)) ∧
   W.heap[bf]? = some (.cells #[.func (.func gf) #[] #[.pointer (some ⟨q, 0, none⟩)]] 86 (0, 0)) ∧
   W.heap[q]? = some (.cells #[.int .i64 n] 3 (0, 0))
end Go.Proofs.YticfkfjijnfcbaaDoor
/- Maps whose keys are pointers: what the operations on them do, in any program. -/
namespace Go.Proofs.YticfkfjijnfcbaaDoor
open Go.RowKit
def PAddr (w : World) (a : Addr) : Prop := ∃ (c : Array Value) (t : TypeId), w.heap[a.block]? = some (.cells c t (0, 0))
def mkEntry (x : Addr × Value × Nat) : MapEntry := { key := .pointer (some x.1), val := x.2.1, born := x.2.2 }
def pfind (q : Addr) : List (Addr × Value × Nat) → Nat → Option (Nat × Value)
 | [], _ => none
 | e :: es, i => if q = e.1 then some (i, e.2.1) else pfind q es (i + 1)
theorem pfind_none {q : Addr} : ∀ {L : List (Addr × Value × Nat)} {i : Nat}, (∀ e ∈ L, q ≠ e.1) → pfind q L i = none
 | [], _, _ => rfl
 | e :: es, i, h => by
   simp only [pfind]
   rw [if_neg (h e (by simp))]
   exact pfind_none (fun x hx => h x (by simp [hx]))
section
variable {P : Program} {T K E V : TypeId} {j : TypeInfo}
theorem run_equal_ptr (w : World) (hk : P.underlying K = some (.pointer E)) (hE : P.info? E = some j) (hsz : j.size ≠ 0) {a b : Addr} (ha : PAddr w a) (hb : PAddr w b) :
   (Op.equal K (.pointer (some a)) (.pointer (some b))).run P w = .ok (decide (a = b)) w := by
 by_cases h : a = b
 · subst h
   have h : ∀ d : Nat, (Op.equalIn (d + 1) K (.pointer (some a)) (.pointer (some a))).run P w = .ok true w := fun d => by
     simp [Op.equalIn, run_underlying hk, sizeOf, typeInfo, hE, run_sameAddr_same]
   have h1 := h 9999
   rw [decide_eq_true rfl]
   exact h1
 · obtain ⟨ca, ta, ha⟩ := ha
   obtain ⟨cb, tb, hb⟩ := hb
   have h1 : ∀ d : Nat, (Op.equalIn (d + 1) K (.pointer (some a)) (.pointer (some b))).run P w = .ok false w := fun d => by
     simp [Op.equalIn, run_underlying hk, sizeOf, typeInfo, hE, hsz, run_sameAddr_other w h ha hb]
   have h2 := h1 9999
   rw [decide_eq_false h]
   exact h2
theorem run_findAsking_ptr (w : World) (hk : P.underlying K = some (.pointer E)) (hE : P.info? E = some j) (hsz : j.size ≠ 0) {q : Addr} (hq : PAddr w q) :
   ∀ (L : List (Addr × Value × Nat)) (i : Nat), (∀ e ∈ L, PAddr w e.1) → (Instr.findAsking K (.pointer (some q)) (L.map mkEntry) i).run P w = .ok (pfind q L i) w
 | [], i, _ => by simp [Instr.findAsking, pfind]
 | e :: es, i, h => by
   have h1 := run_equal_ptr w hk hE hsz hq (h e (by simp))
   have h2 := run_findAsking_ptr w hk hE hsz hq es (i + 1) (fun x hx => h x (by simp [hx]))
   by_cases hqe : q = e.1
   · simp only [List.map_cons, Instr.findAsking, mkEntry, pfind, if_pos hqe, Sem.run_bind]
     rw [h1]
     simp [hqe]
   · simp only [List.map_cons, Instr.findAsking, mkEntry, pfind, if_neg hqe, Sem.run_bind]
     rw [h1]
     simp only [decide_eq_false hqe, Result.andThen_ok]
     exact h2
theorem run_findKey_ptr (w : World) (hk : P.underlying K = some (.pointer E)) (hE : P.info? E = some j) (hsz : j.size ≠ 0) {q : Addr} (hq : PAddr w q) (L : List (Addr × Value × Nat)) (h : ∀ e ∈ L, PAddr w e.1) :
   (Instr.findKey K (.pointer (some q)) (L.map mkEntry)).run P w = .ok (pfind q L 0) w := by
 cases L with
 | nil => simp [Instr.findKey, run_underlying hk, Instr.findNow, pfind]
 | cons e es =>
   have h1 := run_findAsking_ptr w hk hE hsz hq (e :: es) 0 h
   simp only [List.map_cons] at h1
   simp [Instr.findKey, run_underlying hk, Instr.findNow, Instr.sameNow, mkEntry] at h1 ⊢
   exact h1
theorem run_checkKey_ptr (w : World) (em : Bool) (n : Nat) (hk : P.underlying K = some (.pointer E)) (v : Value) : (Instr.checkKey em (n + 1) K v).run P w = .ok () w := by
 simp [Instr.checkKey, run_underlying hk]
def PMapIs (w : World) (b : Nat) (L : List (Addr × Value × Nat)) (clock : Nat) : Prop := w.heap[b]? = some (.map (L.map mkEntry).toArray clock)
theorem run_lookup_ptr (w : World) (hT : P.underlying T = some (.map K V)) (hk : P.underlying K = some (.pointer E)) (hE : P.info? E = some j) (hsz : j.size ≠ 0) {z : Value} {jv : TypeInfo} (hV : P.info? V = some jv) (hz : jv.zero = some z)
   {b : Nat} {L : List (Addr × Value × Nat)} {clock : Nat} (hm : PMapIs w b L clock) {q : Addr} (hq : PAddr w q) (h : ∀ e ∈ L, PAddr w e.1) :
   (Instr.lookup T (.map (some b)) (.pointer (some q)) false).run P w = .ok (((pfind q L 0).map (·.2)).getD z) w := by
 have h1 := run_findKey_ptr w hk hE hsz hq L h
 unfold PMapIs at hm
 cases hf : pfind q L 0 with
 | none =>
   rw [hf] at h1
   simp [Instr.lookup, run_underlying hT, getObj, Sem.run, hm, run_checkKey_ptr w _ 9999 hk, h1, zeroValue, typeInfo, hV, hz]
 | some r =>
   rw [hf] at h1
   simp [Instr.lookup, run_underlying hT, getObj, Sem.run, hm, run_checkKey_ptr w _ 9999 hk, h1]
theorem run_mapUpdate_new (w : World) (hT : P.underlying T = some (.map K V)) (hk : P.underlying K = some (.pointer E)) (hE : P.info? E = some j) (hsz : j.size ≠ 0)
   {b : Nat} {L : List (Addr × Value × Nat)} {clock : Nat} (hm : PMapIs w b L clock) {q : Addr} (hq : PAddr w q) (h : ∀ e ∈ L, PAddr w e.1) (hne : ∀ e ∈ L, q ≠ e.1) (v : Value) :
   (Instr.mapUpdate T (.map (some b)) (.pointer (some q)) v).run P w = .ok () { w with heap := w.heap.setIfInBounds b (.map ((L ++ [(q, v, clock)]).map mkEntry).toArray (clock + 1)) } := by
 have h1 := run_findKey_ptr w hk hE hsz hq L h
 rw [pfind_none hne] at h1
 unfold PMapIs at hm
 simp [Instr.mapUpdate, run_underlying hT, getObj, setObj, Sem.run, hm, run_checkKey_ptr w _ 9999 hk, h1, mkEntry]
end
end Go.Proofs.YticfkfjijnfcbaaDoor
