/- Own texts, joined: H0, H1, PF, H2, H3, R1, R2, R2B. -/
import Derived.Test.YtbnlgohaaadgeaaM7
import Derived.Test.YtbnlgohaaadgeaaRows
import Derived.ProofKit
import Derived.OpenShut
import Derived.Lib.SmallJoins
import Derived.Deep.Slices

/- Stage 4's laws: what their walks share. -/
namespace Go.Proofs.Ytbnlgohaaadgeaa
open Go.RowKit Go.Maps Go.Sort Go.Joins
set_option maxRecDepth 100000
set_option maxRecDepth 100000

/-- Steps, one after the other. -/
def runD : DM × Nat → List Dp → DM × Nat
  | s, [] => s
  | s, o :: os => runD ((stepM s.1 s.2 o).1, (stepM s.1 s.2 o).2.1) os
theorem runD_snoc : ∀ (os : List Dp) (s : DM × Nat) (o : Dp), runD s (os ++ [o]) = ((stepM (runD s os).1 (runD s os).2 o).1, (stepM (runD s os).1 (runD s os).2 o).2.1)
  | [], _, _ => rfl
  | _ :: os, _, o => runD_snoc os _ o
theorem runD_take {os : List Dp} {i : Nat} {o : Dp} (h : os[i]? = some o) (s : DM × Nat) : runD s (os.take (i + 1)) = ((stepM (runD s (os.take i)).1 (runD s (os.take i)).2 o).1, (stepM (runD s (os.take i)).1 (runD s (os.take i)).2 o).2.1) := by
  rw [List.take_add_one, h]
  exact runD_snoc _ s o
def dps (l : List OpV) : List Dp := l.map OpV.dp
theorem dps_at {l : List OpV} {i : Nat} {o : OpV} (h : l[i]? = some o) : (dps l)[i]? = some o.dp := by unfold dps; rw [List.getElem?_map, h]; rfl
theorem few_len (l : List OpV) : (fewL l).length ≤ 200 := by
  unfold fewL
  rw [List.length_map]
  exact Nat.le_trans (List.length_filter_le _ _) (by rw [List.length_take]; omega)
theorem few_mem {l : List OpV} {o : OpV} (h : o ∈ fewL l) : ∃ o0, o0 ∈ l ∧ o = cutO o0 ∧ fewO o0 = true := by
  unfold fewL at h
  obtain ⟨o0, h0, rfl⟩ := List.mem_map.1 h
  exact ⟨o0, List.mem_of_mem_take (List.mem_filter.1 h0).1, rfl, (List.mem_filter.1 h0).2⟩
/-- Steps that were handed in: their bytes lie in memory that is older than m. -/
def OpsOk (w : World) (m : Nat) (l : List OpV) : Prop := ∀ o ∈ l, o.ok w ∧ o.b.length ≤ o.bc ∧ ∀ ad, o.ba = some ad → 0 < o.b.length → ad.block < m
theorem OpsOk.on {w w' : World} {l : List OpV} (h : OpsOk w w.heap.size l) (hb : Below w.heap.size w w') : OpsOk w' w.heap.size l := fun o ho => by
  obtain ⟨⟨h1, h2⟩, h3, h4⟩ := h o ho
  exact ⟨⟨Byt.on h1 hb, h2⟩, h3, h4⟩
theorem OpsOk.few {w : World} {m : Nat} {l : List OpV} (h : OpsOk w m l) {o : OpV} (ho : o ∈ fewL l) : o.ok w ∧ o.b.length ≤ 4096 ∧ ∀ ad, o.ba = some ad → 0 < o.b.length → ad.block < m := by
  obtain ⟨o0, h0, rfl, _⟩ := few_mem ho
  obtain ⟨⟨h1, h2⟩, h3, h4⟩ := h o0 h0
  refine ⟨⟨fun j hj => ?_, fun e => ?_⟩, ?_, fun ad e h0 => h4 ad e (by have h0 : 0 < (o0.b.take 4096).length := h0; rw [List.length_take] at h0; omega)⟩
  · have hj : j < (o0.b.take 4096).length := hj
    rw [List.length_take] at hj
    obtain ⟨b, off, e, hc⟩ := h1 j (by omega)
    refine ⟨b, off, e, ?_⟩
    rw [hc]
    show some (Value.int .u8 ((o0.b.getD j 0 : Nat) : Int)) = some (Value.int .u8 (((o0.b.take 4096).getD j 0 : Nat) : Int))
    have : (o0.b.take 4096).getD j 0 = o0.b.getD j 0 := by simp only [List.getD, List.getElem?_take]; rw [if_pos (by omega)]
    rw [this]
  · obtain ⟨q1, q2⟩ := h2 e
    refine ⟨?_, q2⟩
    show (o0.b.take 4096).length = 0
    rw [List.length_take]; omega
  · show (o0.b.take 4096).length ≤ 4096
    rw [List.length_take]; omega
theorem own_opsIn {w : World} {K c n : Nat} {a : Option Addr} {l : List OpV} (h : w.ownsRow K 33 10 (.slice a n c) l.length (opsCells l)) : Lies K w.heap.size w (fun W => OpsIn W a l) := by
  refine ⟨Nat.le_refl _, fun W hW i o ho => ?_⟩
  have hi := (List.getElem?_eq_some_iff.1 ho).1
  rcases h.2 with ⟨e, h0⟩ | ⟨g, cap, cur, e, hbase, _⟩
  · omega
  · have ea : a = some ⟨g, 0, none⟩ := by injection e
    have hglt : g < w.heap.size := (rows_lt h g (by rw [e]; rfl)).2
    refine ⟨g, 0, ea, fun j v hj => ?_⟩
    have hjl : j < 10 := (List.getElem?_eq_some_iff.1 hj).1
    have h' := h
    rw [e] at h'
    have hcell : w.cell? ⟨g, i * 10 + j, none⟩ = some v := by
      rw [World.ownsRow.cellAt h' (i * 10 + j) (by omega)]
      exact opsCells_at l i o j v ho hj
    rw [Nat.zero_add, World.cell?_of_block (a := ⟨g, i * 10 + j, none⟩) (hW g hbase hglt)]
    exact hcell
theorem own_slice {w : World} {K n s : Nat} {e : TypeId} {v : Value} {xs : List Value} (h : w.ownsRow K e s v n xs) : ∃ a c, v = .slice a n c := by
  rcases h.2 with ⟨e, h0⟩ | ⟨g, c, cur, e, _⟩
  · exact ⟨none, 0, by rw [e, h0]⟩
  · exact ⟨_, c, e⟩
theorem image_is {a b : Option Addr} {I : Image} {w : World} (c d : Nat) (ha : ImgI w a I) (hb : ImgI w b I) (hn : I.length ≤ 1000) (hd : ∀ i, i < I.length → (dtI I i).length ≤ 1048576) :
    Calls Try.prog 16 #[.slice a I.length c, .slice b I.length d] w fun e w' => e = .returned (.bool true) ∧ ∃ m, w' = w.drewN m :=
  image_same a b I.length c d (nmI I) _ _ w ha hb (by omega) hd

/-! What a crash leaves may be loaded. -/
theorem crashI_len {p : DM} {n T : Nat} (h : Inv p n T) (ps : List Int) : (crashI p ps).length = (entsOf (leftM p ps)).length ∧ (crashI p ps).length ≤ 64 := by
  obtain ⟨hE, hs⟩ := h.left ps
  have e : (crashI p ps).length = (entsOf (leftM p ps)).length := List.length_mapIdx
  refine ⟨e, ?_⟩
  rw [e]
  obtain ⟨es, e2, _⟩ := hE
  rw [e2] at hs ⊢
  exact hs
theorem crashI_at {p : DM} {ps : List Int} {i : Nat} {q : Lit × DataW Nat} (h : (entsOf (leftM p ps))[i]? = some q) : (crashI p ps)[i]? = some (keyB q.1, leftB (fileOf p.fm q.2) ps i) := by
  unfold crashI
  rw [List.getElem?_mapIdx, h]
  rfl
theorem Inv.fileLen {p : DM} {n T : Nat} (h : Inv p n T) {D : DataW Nat} (hE : Ents n D) {q : Lit × DataW Nat} (hq : q ∈ entsOf D) (k : Nat) : (aftM (fileOf p.fm q.2).safe (fileOf p.fm q.2).chs k).length ≤ T ∧ (fileOf p.fm q.2).all.length ≤ T := by
  obtain ⟨es, rfl, _, hall⟩ := hE
  obtain ⟨_, _, _, i, hi, h3⟩ := hall q hq
  rw [h3]
  have hf := h.fit i hi
  have h1 := aftM_len (p.fm i).chs (p.fm i).safe k
  have h2 := hf.2.2
  have h4 := runM_len (p.fm i).chs (p.fm i).safe
  show (aftM (p.fm i).safe (p.fm i).chs k).length ≤ T ∧ (runM (p.fm i).safe (p.fm i).chs).length ≤ T
  omega
theorem crashI_dt {p : DM} {n T : Nat} (h : Inv p n T) (ps : List Int) (i : Nat) (hi : i < (crashI p ps).length) : (dtI (crashI p ps) i).length ≤ T := by
  obtain ⟨hE, _⟩ := h.left ps
  obtain ⟨q, hq⟩ : ∃ q, (entsOf (leftM p ps))[i]? = some q := ⟨_, List.getElem?_eq_getElem (by rw [← (crashI_len h ps).1]; exact hi)⟩
  rw [(nmI_at (crashI_at hq)).2]
  exact (h.fileLen hE (List.mem_of_getElem? hq) _).1
theorem seenI_at {p : DM} {i : Nat} {q : Lit × DataW Nat} (h : (entsOf p.seen)[i]? = some q) : (seenI p)[i]? = some (keyB q.1, (fileOf p.fm q.2).all) := by
  unfold seenI
  rw [List.getElem?_map, h]
  rfl
theorem lookI_dt {p : DM} {n T : Nat} (h : Inv p n T) : (lookI p).length ≤ 64 ∧ ∀ i, i < (lookI p).length → (dtI (lookI p) i).length ≤ T := by
  unfold lookI
  split
  · exact ⟨Nat.zero_le _, fun i hi => absurd hi (Nat.not_lt_zero _)⟩
  · have hl : (seenI p).length = (entsOf p.seen).length := by unfold seenI; rw [List.length_map]
    refine ⟨?_, fun i hi => ?_⟩
    · rw [hl]
      have := h.cnt
      obtain ⟨es, e, _⟩ := h.ents
      rw [e] at this ⊢
      exact this
    · obtain ⟨q, hq⟩ : ∃ q, (entsOf p.seen)[i]? = some q := ⟨_, List.getElem?_eq_getElem (by rw [← hl]; exact hi)⟩
      rw [(nmI_at (seenI_at hq)).2]
      exact (h.fileLen h.ents (List.mem_of_getElem? hq) 0).2
theorem toArr (s : List UInt8) : (⟨s.toArray⟩ : ByteArray).data.toList = s := by simp
theorem crashI_img {p : DM} {n T : Nat} (h : Inv p n T) (ps : List Int) : imgB (crashI p ps).length (nmI (crashI p ps)) = true := by
  obtain ⟨hE, _⟩ := h.left ps
  have hN := hE.names.1
  obtain ⟨hl, h64⟩ := crashI_len h ps
  have key : ∀ i, i < (crashI p ps).length → ∃ q, (entsOf (leftM p ps))[i]? = some q ∧ nmI (crashI p ps) i = nameB q := fun i hi => by
    obtain ⟨q, hq⟩ : ∃ q, (entsOf (leftM p ps))[i]? = some q := ⟨_, List.getElem?_eq_getElem (by rw [← hl]; exact hi)⟩
    exact ⟨q, hq, (nmI_at (crashI_at hq)).1⟩
  unfold imgB
  rw [decide_eq_true h64, Bool.true_and, List.all_eq_true]
  intro i hi
  rw [List.mem_range] at hi
  obtain ⟨q, hq, e⟩ := key i hi
  unfold stepB
  rw [e, (hN.name (List.mem_of_getElem? hq)).1, Bool.true_and, Bool.or_eq_true]
  by_cases h0 : i = 0
  · exact .inl (decide_eq_true h0)
  · refine .inr ?_
    obtain ⟨q', hq', e'⟩ := key (i - 1) (by omega)
    rw [e', bytesLess_eq, toList_data, toList_data]
    refine decide_eq_true ?_
    have hp := hN.lt
    rw [List.pairwise_iff_getElem] at hp
    have l1 : i - 1 < (entsOf (leftM p ps)).length := by omega
    have l2 : i < (entsOf (leftM p ps)).length := by omega
    have := hp (i - 1) i (by rw [List.length_map]; exact l1) (by rw [List.length_map]; exact l2) (by omega)
    rw [List.getElem_map, List.getElem_map] at this
    have g1 : (entsOf (leftM p ps))[i - 1] = q' := by
      have := List.getElem?_eq_getElem l1
      rw [hq'] at this
      exact (Option.some.inj this).symm
    have g2 : (entsOf (leftM p ps))[i] = q := by
      have := List.getElem?_eq_getElem l2
      rw [hq] at this
      exact (Option.some.inj this).symm
    rw [g1, g2] at this
    have n1 := (hN.name (List.mem_of_getElem? hq')).2.1
    have n2 := (hN.name (List.mem_of_getElem? hq)).2.1
    rw [n1, n2] at this
    exact this
theorem sumL_le (f : Nat → Nat) {T : Nat} : ∀ n, (∀ i, i < n → f i ≤ T) → sumL f n ≤ n * T
  | 0, _ => Nat.zero_le _
  | n + 1, h => by
    have := sumL_le f (T := T) n (fun i hi => h i (by omega))
    have := h n (by omega)
    show sumL f n + f n ≤ (n + 1) * T
    rw [Nat.succ_mul]
    omega
theorem insert_last (x : Lit × DataW Nat) : ∀ l : List (Lit × DataW Nat), (∀ y ∈ l, x.1.before y.1 = false) → DataW.insert x l = l ++ [x]
  | [], _ => rfl
  | y :: r, h => by
    show (if x.1.before y.1 then x :: y :: r else y :: DataW.insert x r) = _
    rw [h y (by simp), if_neg (by simp), insert_last x r (fun z hz => h z (by simp [hz]))]
    rfl
theorem bytes_asym : ∀ a b : List UInt8, a < b → bytesBefore b a = false := fun a b h => by
  cases hb : bytesBefore b a with
  | false => rfl
  | true => exact absurd (List.lt_trans h (before_lt b a hb)) (List.lt_irrefl _)
/-- The map of an image's names, in their order. -/
theorem nmD_list {nm : Nat → ByteArray} : ∀ n, (∀ a b, a < b → b < n → (nm a).data.toList < (nm b).data.toList) → nmD nm (fun j => j) n = .map ((List.range n).map (fun i => (.string (nm i).data.toList, .held i)))
  | 0, _ => rfl
  | n + 1, h => by
    show (nmD nm (fun j => j) n).put _ _ = _
    rw [nmD_list n (fun a b h1 h2 => h a b h1 (by omega)), List.range_succ, List.map_append]
    show DataW.map (DataW.insert _ (List.filter _ _)) = DataW.map _
    have ef : (((List.range n).map (fun i => ((Lit.string (nm i).data.toList, DataW.held i) : Lit × DataW Nat))).filter fun p => !p.1.sameKey (.string (nm n).data.toList)) = (List.range n).map (fun i => (.string (nm i).data.toList, .held i)) := by
      rw [List.filter_eq_self]
      intro q hq
      obtain ⟨i, hi, rfl⟩ := List.mem_map.1 hq
      have := h i n (List.mem_range.1 hi) (by omega)
      show (!(nm i).data.toList == (nm n).data.toList) = true
      rw [Bool.not_eq_true', beq_eq_false_iff_ne]
      intro e
      rw [e] at this
      exact absurd this (List.lt_irrefl _)
    rw [ef, insert_last _ _ (fun y hy => by
      obtain ⟨i, hi, rfl⟩ := List.mem_map.1 hy
      exact bytes_asym _ _ (h i n (List.mem_range.1 hi) (by omega)))]
    rfl
theorem load_ents {I : Image} {room : Nat} (hi : imgB I.length (nmI I) = true) : entsOf (loadP room (nmI I) (dtI I) I.length).seen = (List.range I.length).map (fun i => (.string (nmI I i).data.toList, .held i)) := by
  show entsOf (nmD (nmI I) (fun j => j) I.length) = _
  rw [nmD_list I.length (fun a b h1 h2 => img_lt hi a b h1 h2)]
  rfl
theorem image_ext {I J : Image} (hl : J.length = I.length) (h : ∀ i, i < I.length → J[i]? = some ((nmI I i).data.toList, dtI I i)) : J = I := by
  apply List.ext_getElem?
  intro i
  by_cases hi : i < I.length
  · rw [h i hi]
    obtain ⟨q, hq⟩ : ∃ q, I[i]? = some q := ⟨_, List.getElem?_eq_getElem hi⟩
    obtain ⟨s, l⟩ := q
    obtain ⟨e1, e2⟩ := nmI_at hq
    rw [hq, e1, e2, toArr]
  · rw [List.getElem?_eq_none (by omega), List.getElem?_eq_none (by omega)]
theorem load_look {I : Image} {room : Nat} (hi : imgB I.length (nmI I) = true) : lookI (loadP room (nmI I) (dtI I) I.length) = I := by
  have e : lookI (loadP room (nmI I) (dtI I) I.length) = seenI (loadP room (nmI I) (dtI I) I.length) := if_neg (by show ¬ (false = true); simp)
  rw [e]
  unfold seenI
  rw [load_ents hi, List.map_map]
  refine image_ext (by rw [List.length_map, List.length_range]) (fun i h => ?_)
  rw [List.getElem?_map, List.getElem?_range h]
  rfl
theorem load_crash {I : Image} {room : Nat} (hi : imgB I.length (nmI I) = true) (ps : List Int) : crashI (loadP room (nmI I) (dtI I) I.length) ps = I := by
  have e : leftM (loadP room (nmI I) (dtI I) I.length) ps = (loadP room (nmI I) (dtI I) I.length).seen := by
    show movesOn _ (([] : List Mov).take _) = _
    rw [List.take_nil]
    rfl
  unfold crashI
  rw [e, load_ents hi]
  refine image_ext (by rw [List.length_mapIdx, List.length_map, List.length_range]) (fun i h => ?_)
  rw [List.getElem?_mapIdx, List.getElem?_map, List.getElem?_range h]
  rfl
end Go.Proofs.Ytbnlgohaaadgeaa

/- DiskAgain. -/
namespace Go.Proofs.Ytbnlgohaaadgeaa
open Go.RowKit Go.Maps Go.Sort Go.Joins
set_option maxRecDepth 100000
set_option maxRecDepth 100000

/-- What the laws of a power are handed. -/
structure PowA where
  oa : Option Addr
  oc : Nat
  ops : List OpV
  off : Int
  pa : Option Addr
  pc : Nat
  ps : List Int
  ma : Option Addr
  mc : Nat
  more : List OpV
  na : Option Addr
  nc : Nat
  nx : List Int
structure PowIn (w : World) (m : Nat) (A : PowA) : Prop where
  ops : OpsIn w A.oa A.ops
  ok : OpsOk w m A.ops
  ps : PicksL w A.pa A.ps
  more : OpsIn w A.ma A.more
  mok : OpsOk w m A.more
  nx : PicksL w A.na A.nx
theorem PowIn.on {w w' : World} {A : PowA} (h : PowIn w w.heap.size A) (hb : Below w.heap.size w w') : PowIn w' w.heap.size A :=
  ⟨h.ops.on hb, h.ok.on hb, h.ps.on hb, h.more.on hb, h.mok.on hb, h.nx.on hb⟩
theorem OpsOk.up {w : World} {m m' : Nat} {l : List OpV} (h : OpsOk w m l) (hm : m ≤ m') : OpsOk w m' l := fun o ho => by
  obtain ⟨h1, h2, h3⟩ := h o ho
  exact ⟨h1, h2, fun ad e h0 => Nat.lt_of_lt_of_le (h3 ad e h0) hm⟩
theorem PowIn.up {w : World} {m m' : Nat} {A : PowA} (h : PowIn w m A) (hm : m ≤ m') : PowIn w m' A := ⟨h.ops, h.ok.up hm, h.ps, h.more, h.mok.up hm, h.nx⟩
/-- A step of a disk that is newer than what was handed in. -/
theorem play_step {w1 W : World} {db : Nat} {p : DM} {n T : Nat} {F : Nat → Prop} (hD : DK W w1.heap.size db p n T F) (hb : Below w1.heap.size w1 W) (hT : T ≤ 17179869184) (o : OpV) (ho : o.ok w1) (hl : o.b.length ≤ 4096) (hm : ∀ ad, o.ba = some ad → 0 < o.b.length → ad.block < w1.heap.size) :
    Calls Try.prog 9 #[.pointer (some ⟨db, 0, none⟩), o.v] W fun e w' => e = .returned (.int .i64 ((stepM p n o.dp).2.2 : Nat)) ∧ ∃ F', DK w' w1.heap.size db (stepM p n o.dp).1 (stepM p n o.dp).2.1 (T + 4098) F' ∧ Mv F F' W w' ∧ Below w1.heap.size w1 w' := by
  refine (play_is hD hT o (by omega) ⟨Byt.on ho.1 hb, ho.2⟩ (fun ad e h0 => ⟨Nat.lt_of_lt_of_le (hm ad e h0) hb.size, fun hf => ?_⟩)).mono fun e w' ⟨he, F', hD', hM⟩ => ⟨he, F', hD'.mono (by omega), hM, Mv.below hb hb.size (fun k hk => (hD.lt k hk).1) hM⟩
  have := (hD.lt _ hf).1
  have := hm ad e h0
  omega
theorem few_run (a : Option Addr) (c : Nat) (l : List OpV) (W : World) (h : OpsIn W a l) {w1 : World} (hok : OpsOk w1 w1.heap.size l) :
    Calls Try.prog 10 #[.slice a l.length c] W fun e w' => ∃ va vc, e = .returned (.slice va (fewL l).length vc) ∧ Lies W.heap.size w'.heap.size w' (fun W => OpsIn W va (fewL l)) ∧ Below W.heap.size W w' := by
  refine (few_is a c l W h (fun o ho => (hok o ho).2.1)).mono fun e w' ⟨v, he, ho, hb⟩ => ?_
  obtain ⟨va, vc, rfl⟩ := own_slice ho
  exact ⟨va, vc, he, own_opsIn ho, hb⟩
def firstO (g : Nat) : OpV := ⟨1, 0, 0, ⟨#[102, 105, 114, 115, 116]⟩, ⟨#[]⟩, some ⟨g, 0, none⟩, 1, [49], 0, 0, 0, none, 0, 0⟩
def firstP : DM × Nat := ((stepM (emptyP 67108864) 0 (firstO 0).dp).1, (stepM (emptyP 67108864) 0 (firstO 0).dp).2.1)
theorem first_dp (g : Nat) : (firstO g).dp = (firstO 0).dp := rfl
theorem first_one : (lookI firstP.1).length = 1 := by decide +kernel

set_option maxHeartbeats 6400000 in
theorem again_any (A : PowA) (w : World) (h : PowIn w w.heap.size A) :
    Calls Try.prog 3 #[.agg #[.slice A.oa A.ops.length A.oc, .int .i64 A.off, .slice A.pa A.ps.length A.pc, .slice A.ma A.more.length A.mc, .slice A.na A.nx.length A.nc]] w fun e w' => e = .returned (.bool true) ∧ Below w.heap.size w w' := by
  have HNUM : Hid (∀ (e : Int) W, Calls Try.prog 15 #[.int .i64 e] W fun r w' => r = .returned (.int .i64 e) ∧ w' = W) := num_is
  have bA : Below w.heap.size w (w.alloc (.cells #[.slice A.oa A.ops.length A.oc, .int .i64 A.off, .slice A.pa A.ps.length A.pc, .slice A.ma A.more.length A.mc, .slice A.na A.nx.length A.nc] 25)) := (Below.refl _ _).alloc (Nat.le_refl _) _
  have y0 : (w.alloc (.cells #[.slice A.oa A.ops.length A.oc, .int .i64 A.off, .slice A.pa A.ps.length A.pc, .slice A.ma A.more.length A.mc, .slice A.na A.nx.length A.nc] 25)).cell? ⟨w.heap.size, 0, none⟩ = some (.slice A.oa A.ops.length A.oc) := World.cell?_alloc_at (w := w) _ _ _ 0 rfl
  have y2 : (w.alloc (.cells #[.slice A.oa A.ops.length A.oc, .int .i64 A.off, .slice A.pa A.ps.length A.pc, .slice A.ma A.more.length A.mc, .slice A.na A.nx.length A.nc] 25)).cell? ⟨w.heap.size, 2, none⟩ = some (.slice A.pa A.ps.length A.pc) := World.cell?_alloc_at (w := w) _ _ _ 2 rfl
  have y3 : (w.alloc (.cells #[.slice A.oa A.ops.length A.oc, .int .i64 A.off, .slice A.pa A.ps.length A.pc, .slice A.ma A.more.length A.mc, .slice A.na A.nx.length A.nc] 25)).cell? ⟨w.heap.size, 3, none⟩ = some (.slice A.ma A.more.length A.mc) := World.cell?_alloc_at (w := w) _ _ _ 3 rfl
  have y4 : (w.alloc (.cells #[.slice A.oa A.ops.length A.oc, .int .i64 A.off, .slice A.pa A.ps.length A.pc, .slice A.ma A.more.length A.mc, .slice A.na A.nx.length A.nc] 25)).cell? ⟨w.heap.size, 4, none⟩ = some (.slice A.na A.nx.length A.nc) := World.cell?_alloc_at (w := w) _ _ _ 4 rfl
  have hPI : PowIn (w.alloc (.cells #[.slice A.oa A.ops.length A.oc, .int .i64 A.off, .slice A.pa A.ps.length A.pc, .slice A.ma A.more.length A.mc, .slice A.na A.nx.length A.nc] 25)) w.heap.size A := h.on bA
  obtain ⟨w1, HW⟩ : ∃ W, Hid (w.alloc (.cells #[.slice A.oa A.ops.length A.oc, .int .i64 A.off, .slice A.pa A.ps.length A.pc, .slice A.ma A.more.length A.mc, .slice A.na A.nx.length A.nc] 25) = W) := ⟨_, rfl⟩
  rw [HW.out] at bA y0 y2 y3 y4 hPI
  have HP : Hid (PowIn w1 w1.heap.size A) := hPI.up bA.size
  have HEND : Hid (∀ W, Below w1.heap.size w1 W → Below w.heap.size w W) := fun W hb => bA.trans (hb.mono bA.size)
  have HBX : Hid (∀ W, Below w1.heap.size w1 W → W.cell? ⟨w.heap.size, 0, none⟩ = some (.slice A.oa A.ops.length A.oc) ∧ W.cell? ⟨w.heap.size, 2, none⟩ = some (.slice A.pa A.ps.length A.pc) ∧ W.cell? ⟨w.heap.size, 3, none⟩ = some (.slice A.ma A.more.length A.mc) ∧ W.cell? ⟨w.heap.size, 4, none⟩ = some (.slice A.na A.nx.length A.nc)) := fun W hb => ⟨cel_on hb y0, cel_on hb y2, cel_on hb y3, cel_on hb y4⟩
  clear h hPI bA y0 y2 y3 y4
  go_enter Try.func3, Try.ntmps3
  go_upto_region 1 with fail
  rw [HW.out]
  go_wp2_with fail
  refine (open_is w1).mono ?_
  rintro e w2 ⟨db, F, rfl, hD2, hb2⟩
  have kc := Lib.run_convert_bytes_const (P := Try.prog) w2 29 5 #[.int .u8 49] 1 1 Try.underlying29 Try.underlying5
  have HPL : Hid (Calls Try.prog 9 #[.pointer (some ⟨db, 0, none⟩), (firstO w2.heap.size).v] (w2.alloc (.cells #[.int .u8 49] 5 (1, 2))) fun e w' => ∃ E : Int, e = .returned (.int .i64 E) ∧ ∃ F', DK w' w1.heap.size db firstP.1 firstP.2 67 F' ∧ Below w1.heap.size w1 w') := by
    have bq : Below w2.heap.size w2 (w2.alloc (.cells #[.int .u8 49] 5 (1, 2))) := (Below.refl _ _).alloc (Nat.le_refl _) _
    have hbl : BL (w2.alloc (.cells #[.int .u8 49] 5 (1, 2))) (some ⟨w2.heap.size, 0, none⟩) [49] := lit_bl w2 _ _ _ (fun j hj => by
      match j, hj with
      | 0, _ => rfl)
    refine (play_is (hD2.on bq) (by decide) (firstO w2.heap.size) (by show 1 ≤ _; decide) ⟨hbl, fun e => by cases e⟩ (fun ad e _ => ?_)).mono fun e w' ⟨he, F', hD', hM⟩ => ⟨_, he, F', hD', ?_⟩
    · have : ad.block = w2.heap.size := by
        have := Option.some.inj e
        rw [← this]
      rw [this]
      refine ⟨by simp, fun hf => ?_⟩
      have := (hD2.lt _ hf).2
      omega
    · exact Mv.below (hb2.trans (bq.mono hb2.size)) (Nat.le_trans hb2.size bq.size) (fun k hk => (hD2.lt k hk).1) hM
  unfold firstO OpV.v at HPL
  clear hD2 hb2
  go_wp2_with fail
  refine HPL.out.mono ?_
  rintro e w3 ⟨E3, rfl, F3, hD3, hb3⟩
  clear HPL kc
  obtain ⟨b0, b2, b3, b4⟩ := HBX.out w3 hb3
  have HFW : Hid (Calls Try.prog 10 #[.slice A.oa A.ops.length A.oc] w3 fun e w' => ∃ va vc, e = .returned (.slice va (fewL A.ops).length vc) ∧ Lies w3.heap.size w'.heap.size w' (fun W => OpsIn W va (fewL A.ops)) ∧ Below w3.heap.size w3 w') := few_run A.oa A.oc A.ops w3 (HP.out.ops.on hb3) HP.out.ok
  go_wp2_with fail
  refine HFW.out.mono ?_
  rintro e w4 ⟨va, vc, rfl, hfl, hb4⟩
  clear HFW b0 b2 b3 b4
  have hb14 := hb3.trans (hb4.mono hb3.size)
  have hlen := few_len A.ops
  have HOK : Hid (∀ (i : Nat) (o : OpV), (fewL A.ops)[i]? = some o → o.ok w1 ∧ o.b.length ≤ 4096 ∧ ∀ ad, o.ba = some ad → 0 < o.b.length → ad.block < w1.heap.size) := fun i o ho => HP.out.ok.few (List.mem_of_getElem? ho)
  have HE0 : Hid ((fewL A.ops).length = 0 → (runD firstP (dps (fewL A.ops))).1 = firstP.1) := fun e => by
    have : fewL A.ops = [] := List.eq_nil_of_length_eq_zero e
    rw [this]
    rfl
  obtain ⟨fl, hflE⟩ : ∃ fl, fewL A.ops = fl := ⟨_, rfl⟩
  rw [hflE] at hfl hlen HOK HE0
  rw [hflE]
  obtain ⟨N, hN⟩ : ∃ N, fl.length = N := ⟨_, rfl⟩
  rw [hN] at hlen HE0
  rw [hN]
  obtain ⟨S1, HS1⟩ : ∃ S1 : Nat → World → Prop, Hid (∀ i W, S1 i W ↔ ∃ F, DK W w1.heap.size db (runD firstP ((dps fl).take i)).1 (runD firstP ((dps fl).take i)).2 (67 + 4098 * i) F ∧ Below w1.heap.size w1 W ∧ Lies w3.heap.size w4.heap.size W (fun W => OpsIn W va fl) ∧ Spare w3.heap.size w4.heap.size F) := ⟨_, fun _ _ => Iff.rfl⟩
  have hS0 : S1 0 w4 := (HS1.out 0 w4).2 ⟨F3, hD3.on hb4, hb14, hfl, fun k hk => .inl (hD3.lt k hk).2⟩
  have HN : Hid (fl.length = N) := hN
  clear hD3 hb3 hb4 hb14 hfl hflE hN
  go_wp2_with fail
  go_loopg [5] N (fun q s5 wx => ∃ (i : Nat), i ≤ N ∧ q = N - i ∧ s5 = .int .i64 i ∧ S1 i wx)
  case atStart => exact ⟨0, Nat.zero_le _, rfl, rfl, hS0⟩
  case round =>
    obtain ⟨i, hi, rfl, rfl, hS⟩ := hrel
    clear hS0
    by_cases hlt : i < N
    · have hz : (i : Int) < (N : Int) := by omega
      have hwi : IntKind.i64.wrap ((i : Int) + 1) = (i : Int) + 1 := by rw [IntKind.wrap_i64]; omega
      obtain ⟨F, hD, hb, hL, hSp⟩ := (HS1.out i wr).1 hS
      obtain ⟨o, ho⟩ : ∃ o, fl[i]? = some o := ⟨_, List.getElem?_eq_getElem (by have := HN.out; omega)⟩
      obtain ⟨b, off, rfl, hc⟩ := hL.now i o ho
      have q0 : wr.cell? ⟨b, off + i * 10, none⟩ = some (.int .i64 o.kind) := hc 0 _ rfl
      have q1 : wr.cell? ⟨b, off + i * 10 + 1, none⟩ = some (.int .i64 o.on) := hc 1 _ rfl
      have q2 : wr.cell? ⟨b, off + i * 10 + 2, none⟩ = some (.int .i64 o.n) := hc 2 _ rfl
      have q3 : wr.cell? ⟨b, off + i * 10 + 3, none⟩ = some (.string o.name) := hc 3 _ rfl
      have q4 : wr.cell? ⟨b, off + i * 10 + 4, none⟩ = some (.string o.tt) := hc 4 _ rfl
      have q5 : wr.cell? ⟨b, off + i * 10 + 5, none⟩ = some (.slice o.ba o.b.length o.bc) := hc 5 _ rfl
      have q6 : wr.cell? ⟨b, off + i * 10 + 6, none⟩ = some (.int .i64 o.p0) := hc 6 _ rfl
      have q7 : wr.cell? ⟨b, off + i * 10 + 7, none⟩ = some (.int .i64 o.p1) := hc 7 _ rfl
      have q8 : wr.cell? ⟨b, off + i * 10 + 8, none⟩ = some (.int .i64 o.p2) := hc 8 _ rfl
      have q9 : wr.cell? ⟨b, off + i * 10 + 9, none⟩ = some (.slice o.pa o.pn o.pc) := hc 9 _ rfl
      have HPL : Hid (Calls Try.prog 9 #[.pointer (some ⟨db, 0, none⟩), .agg #[.int .i64 o.kind, .int .i64 o.on, .int .i64 o.n, .string o.name, .string o.tt, .slice o.ba o.b.length o.bc, .int .i64 o.p0, .int .i64 o.p1, .int .i64 o.p2, .slice o.pa o.pn o.pc]] wr fun e w' => ∃ E : Int, e = .returned (.int .i64 E) ∧ S1 (i + 1) w') := by
        obtain ⟨o1, o2, o3⟩ := HOK.out i o ho
        refine (play_step hD hb (by omega) o o1 o2 o3).mono fun e w' ⟨he, F', hD', hM, hb'⟩ => ⟨_, he, (HS1.out _ _).2 ⟨F', ?_, hb', (hL.mv hSp hM).1, (hL.mv hSp hM).2⟩⟩
        rw [runD_take (dps_at ho)]
        exact hD'.mono (by omega)
      clear hS hD hb hL hSp hc HS1 HOK ho HN HE0
      go_wp2_with fail
      refine HPL.out.mono ?_
      rintro e w5 ⟨E5, rfl, hS5⟩
      clear HPL q0 q1 q2 q3 q4 q5 q6 q7 q8 q9
      go_wp2_with fail
      go_roundg (N - (i + 1))
      case measure => go_light; omega
      case rel => go_light; exact ⟨i + 1, by omega, rfl, by simp, hS5⟩
    · obtain rfl : i = N := by omega
      obtain ⟨wA, hwA⟩ : ∃ x, x = wr := ⟨_, rfl⟩
      subst hwA
      have hz : ¬ ((i : Int) < (i : Int)) := by omega
      obtain ⟨F, hD, hb5, hL, hSp⟩ := (HS1.out i wA).1 hS
      have ed : (dps fl).take i = dps fl := List.take_of_length_le (by unfold dps; rw [List.length_map]; have := HN.out; omega)
      rw [ed] at hD
      have hD := hD.mono (T' := 819667) (by omega)
      clear hS HS1 hL hSp HOK ed HN
      generalize runD firstP (dps fl) = pn at *
      obtain ⟨p1, n1⟩ := pn
      have HI1 : Hid (Inv p1 n1 819667) := hD.inv
      have HD5 : Hid (DK wA w1.heap.size db p1 n1 819667 F) := hD
      have HB5 : Hid (Below w1.heap.size w1 wA) := hb5
      have HB1R : Hid (w1.heap.size ≤ wA.heap.size) := hb5.size
      have HFR : Hid (∀ k, F k → k < wA.heap.size) := fun k hk => (hD.lt k hk).2
      have HSE : Hid (Calls Try.prog 11 #[.pointer (some ⟨db, 0, none⟩)] wA fun e w' => ∃ a c, e = .returned (.slice a (lookI p1).length c) ∧ Lies wA.heap.size w'.heap.size w' (fun W => ImgI W a (lookI p1)) ∧ Below wA.heap.size wA w') := seen_is hD (by decide)
      clear hD hb5
      go_wp2_with fail
      refine HSE.out.mono ?_
      rintro e w6 ⟨sa, sc, rfl, hsee, hb6⟩
      clear HSE
      have HB6 : Hid (Below w1.heap.size w1 w6) := HB5.out.trans (hb6.mono HB5.out.size)
      have HD6 : Hid (DK w6 w1.heap.size db p1 n1 819667 F) := HD5.out.on hb6
      obtain ⟨b0, b2, b3, b4⟩ := HBX.out w6 HB6.out
      have HCR : Hid (Calls Try.prog 12 #[.pointer (some ⟨db, 0, none⟩), .slice A.pa A.ps.length A.pc] w6 fun e w' => ∃ g, e = .returned (.slice (some ⟨g, 0, none⟩) (crashI p1 A.ps).length (crashI p1 A.ps).length) ∧ Lies w6.heap.size w'.heap.size w' (fun W => ImgI W (some ⟨g, 0, none⟩) (crashI p1 A.ps)) ∧ Below w6.heap.size w6 w') := HD6.out.crash (by decide) A.ps A.pa A.pc (HP.out.ps.on HB6.out)
      go_wp2_with fail
      refine HCR.out.mono ?_
      rintro e w7 ⟨lg, rfl, hcra, hb7⟩
      clear HCR b0 b2 b3 b4
      -- what was seen, and what was left
      have HWAS : Hid (Lies wA.heap.size w6.heap.size w7 (fun W => ImgI W sa (lookI p1))) := hsee.on hb7
      have HLEF : Hid (Lies w6.heap.size w7.heap.size w7 (fun W => ImgI W (some ⟨lg, 0, none⟩) (crashI p1 A.ps))) := hcra
      have HB7 : Hid (Below w1.heap.size w1 w7) := HB6.out.trans (hb7.mono HB6.out.size)
      have HD7 : Hid (DK w7 w1.heap.size db p1 n1 819667 F) := HD6.out.on hb7
      have HSZ : Hid (wA.heap.size ≤ w6.heap.size ∧ w6.heap.size ≤ w7.heap.size) := ⟨hb6.size, hb7.size⟩
      have HIMG : Hid (imgB (crashI p1 A.ps).length (nmI (crashI p1 A.ps)) = true) := crashI_img HI1.out A.ps
      have hcl : (crashI p1 A.ps).length ≤ 64 := (crashI_len HI1.out A.ps).2
      have HCD : Hid (∀ i, i < (crashI p1 A.ps).length → (dtI (crashI p1 A.ps) i).length ≤ 819667) := fun i hi => crashI_dt HI1.out A.ps i hi
      have HCP : Hid (Calls Try.prog 14 #[.slice (some ⟨lg, 0, none⟩) (crashI p1 A.ps).length (crashI p1 A.ps).length] w7 fun e w' => ∃ a' c', e = .returned (.slice a' (crashI p1 A.ps).length c') ∧ ImgI w' a' (crashI p1 A.ps) ∧ Below w7.heap.size w7 w') := (copied_is (some ⟨lg, 0, none⟩) _ (crashI p1 A.ps) w7 HLEF.out.now (by omega) (fun i hi => by have := HCD.out i hi; omega)).mono fun e w' ⟨v, he, ⟨a', c', ev, hl⟩, hb⟩ => ⟨a', c', by rw [he, ev], hl.now, hb⟩
      have HLD : Hid (∀ W a' c', ImgI W a' (crashI p1 A.ps) → Calls Try.prog 13 #[.slice a' (crashI p1 A.ps).length c', .int .i64 67108864] W fun e w' => ∃ rb G, e = .returned (.tuple #[.pointer (some ⟨rb, 0, none⟩), .int .i64 0]) ∧ DK w' W.heap.size rb (loadP 67108864 (nmI (crashI p1 A.ps)) (dtI (crashI p1 A.ps)) (crashI p1 A.ps).length) (crashI p1 A.ps).length 819667 G ∧ Below W.heap.size W w') := fun W a' c' hI => load_is a' _ c' (nmI (crashI p1 A.ps)) (dtI (crashI p1 A.ps)) 67108864 819667 W hI (by decide) HIMG.out (by
        have := sumL_le (fun i => (dtI (crashI p1 A.ps) i).length) (T := 819667) (crashI p1 A.ps).length HCD.out
        have := Nat.mul_le_mul_right 819667 hcl
        omega) (by decide) HCD.out
      have HLL : Hid (lookI (loadP 67108864 (nmI (crashI p1 A.ps)) (dtI (crashI p1 A.ps)) (crashI p1 A.ps).length) = crashI p1 A.ps ∧ ∀ ps, crashI (loadP 67108864 (nmI (crashI p1 A.ps)) (dtI (crashI p1 A.ps)) (crashI p1 A.ps).length) ps = crashI p1 A.ps) := ⟨load_look HIMG.out, load_crash HIMG.out⟩
      clear hsee hcra hb6 hb7 HD5 HD6 HB5 HB6 HIMG
      obtain ⟨CI, HCI⟩ : ∃ CI, Hid (crashI p1 A.ps = CI) := ⟨_, rfl⟩
      rw [HCI.out] at HLEF hcl HCD HCP HLD HLL
      rw [HCI.out]
      obtain ⟨rP, HRP⟩ : ∃ rP, Hid (loadP 67108864 (nmI CI) (dtI CI) CI.length = rP) := ⟨_, rfl⟩
      rw [HRP.out] at HLD HLL
      clear HRP
      obtain ⟨wasL, HWL⟩ : ∃ n, Hid ((lookI p1).length = n) := ⟨_, rfl⟩
      obtain ⟨hwl1, hwl2⟩ := lookI_dt HI1.out
      have HWD : Hid (∀ i, i < (lookI p1).length → (dtI (lookI p1) i).length ≤ 1048576) := fun i hi => by have := hwl2 i hi; omega
      have HW64 : Hid ((lookI p1).length ≤ 64) := hwl1
      have HW1 : Hid (i = 0 → wasL = 1) := fun e => by
        rw [← HWL.out]
        have : p1 = firstP.1 := HE0.out e
        rw [this]
        exact first_one
      have HCD2 : Hid (∀ i, i < CI.length → (dtI CI i).length ≤ 1048576) := fun i hi => by have := HCD.out i hi; omega
      rw [HWL.out]
      obtain ⟨CL, HCL⟩ : ∃ CL, Hid (CI.length = CL) := ⟨_, rfl⟩
      rw [HCL.out] at HCP HLD hcl
      rw [HCL.out]
      clear hwl1 hwl2 HE0 HCD
      go_wp2_with fail
      refine HCP.out.mono ?_
      rintro e w8 ⟨ca, cc, rfl, hci8, hb8⟩
      have HLD8 : Hid _ := HLD.out w8 ca cc hci8
      clear HCP HLD hci8
      go_wp2_with fail
      refine Calls.mono HLD8.out ?_
      rintro e w9 ⟨rb, G, rfl, hG9, hb9⟩
      clear HLD8
      have hb79 := hb8.trans (hb9.mono hb8.size)
      have HB9 : Hid (Below w1.heap.size w1 w9) := HB7.out.trans (hb79.mono HB7.out.size)
      have HG9 : Hid (DK w9 w8.heap.size rb rP CL 819667 G) := hG9
      have HD9 : Hid (DK w9 w1.heap.size db p1 n1 819667 F) := HD7.out.on hb79
      have HWA9 : Hid (Lies wA.heap.size w6.heap.size w9 (fun W => ImgI W sa (lookI p1))) := HWAS.out.on hb79
      have HLE9 : Hid (Lies w6.heap.size w7.heap.size w9 (fun W => ImgI W (some ⟨lg, 0, none⟩) CI)) := HLEF.out.on hb79
      have HSZ9 : Hid (w7.heap.size ≤ w8.heap.size ∧ w8.heap.size ≤ w9.heap.size) := ⟨hb8.size, hb9.size⟩
      have HSER : Hid (Calls Try.prog 11 #[.pointer (some ⟨rb, 0, none⟩)] w9 fun e w' => ∃ a c, e = .returned (.slice a CL c) ∧ ImgI w' a CI ∧ Below w9.heap.size w9 w') := by
        have := seen_is hG9 (by decide)
        rw [HLL.out.1, HCL.out] at this
        exact this.mono fun e w' ⟨a, c, he, hl, hb⟩ => ⟨a, c, he, hl.now, hb⟩
      have HIMR : Hid (∀ W a c, ImgI W a CI → Below w9.heap.size w9 W → Calls Try.prog 16 #[.slice a CL c, .slice (some ⟨lg, 0, none⟩) CL CL] W fun e w' => e = .returned (.bool true) ∧ Below w9.heap.size w9 w') := fun W a c h1 hb => by
        have := image_is c CL h1 ((HLE9.out.on hb).now) (by rw [HCL.out]; omega) HCD2.out
        rw [HCL.out] at this
        exact this.mono fun e w' ⟨he, m, hm⟩ => ⟨he, by rw [hm]; exact below_drewN hb m⟩
      have HCRR : Hid (∀ W, Below w9.heap.size w9 W → Calls Try.prog 12 #[.pointer (some ⟨rb, 0, none⟩), .slice A.na A.nx.length A.nc] W fun e w' => ∃ g, e = .returned (.slice (some ⟨g, 0, none⟩) CL CL) ∧ ImgI w' (some ⟨g, 0, none⟩) CI ∧ Below w9.heap.size w9 w') := fun W hb => by
        have := (hG9.on hb).crash (by decide) A.nx A.na A.nc (HP.out.nx.on (HB9.out.trans (hb.mono HB9.out.size)))
        rw [HLL.out.2, HCL.out] at this
        exact this.mono fun e w' ⟨g, he, hl, hb'⟩ => ⟨g, he, hl.now, hb.trans (hb'.mono hb.size)⟩
      have HBX9 : Hid (∀ W, Below w9.heap.size w9 W → W.cell? ⟨w.heap.size, 0, none⟩ = some (.slice A.oa A.ops.length A.oc) ∧ W.cell? ⟨w.heap.size, 2, none⟩ = some (.slice A.pa A.ps.length A.pc) ∧ W.cell? ⟨w.heap.size, 3, none⟩ = some (.slice A.ma A.more.length A.mc) ∧ W.cell? ⟨w.heap.size, 4, none⟩ = some (.slice A.na A.nx.length A.nc)) := fun W hb => HBX.out W (HB9.out.trans (hb.mono HB9.out.size))
      clear hG9 hb8 hb9 hb79 HD7 HB7 HWAS HLEF HLL
      go_wp2_with (go_at_call 15; refine (HNUM.out _ _).mono ?_; rintro e w9 ⟨rfl, rfl⟩)
      refine HSER.out.mono ?_
      rintro e w10 ⟨ra, rc, rfl, hi10, hb10⟩
      go_wp2_with fail
      refine (HIMR.out w10 ra rc hi10 hb10).mono ?_
      rintro e w11 ⟨rfl, hb11⟩
      obtain ⟨b0, b2, b3, b4⟩ := HBX9.out w11 hb11
      go_wp2_with fail
      refine (HCRR.out w11 hb11).mono ?_
      rintro e w12 ⟨rg, rfl, hi12, hb12⟩
      clear b0 b2 b3 b4
      go_wp2_with fail
      refine (HIMR.out w12 _ _ hi12 hb12).mono ?_
      rintro e w13 ⟨rfl, hb13⟩
      clear HSER HCRR hi10 hi12 hb10 hb11 hb12
      have HB13 : Hid (Below w9.heap.size w9 w13) := hb13
      obtain ⟨b0, b2, b3, b4⟩ := HBX9.out w13 hb13
      have hB113 : Below w1.heap.size w1 w13 := HB9.out.trans (hb13.mono HB9.out.size)
      have HFW : Hid (Calls Try.prog 10 #[.slice A.ma A.more.length A.mc] w13 fun e w' => ∃ va vc, e = .returned (.slice va (fewL A.more).length vc) ∧ Lies w13.heap.size w'.heap.size w' (fun W => OpsIn W va (fewL A.more)) ∧ Below w13.heap.size w13 w') := few_run A.ma A.mc A.more w13 (HP.out.more.on hB113) HP.out.mok
      clear hb13 HIMR HBX9
      go_wp2_with fail
      refine HFW.out.mono ?_
      rintro e w14 ⟨ua, uc, rfl, hfl, hb14⟩
      clear HFW b0 b2 b3 b4
      have hlen2 := few_len A.more
      have HOK2 : Hid (∀ (i : Nat) (o : OpV), (fewL A.more)[i]? = some o → o.ok w1 ∧ o.b.length ≤ 4096 ∧ ∀ ad, o.ba = some ad → 0 < o.b.length → ad.block < w1.heap.size) := fun i o ho => HP.out.mok.few (List.mem_of_getElem? ho)
      obtain ⟨gl, hgE⟩ : ∃ gl, fewL A.more = gl := ⟨_, rfl⟩
      rw [hgE] at hfl hlen2 HOK2
      rw [hgE]
      obtain ⟨M, hM⟩ : ∃ M, gl.length = M := ⟨_, rfl⟩
      rw [hM] at hlen2
      rw [hM]
      obtain ⟨S2, HS2⟩ : ∃ S2 : Nat → World → Prop, Hid (∀ j W, S2 j W ↔ ∃ G q m, DK W w1.heap.size rb q m (819667 + 4098 * j) G ∧ DK W w1.heap.size db p1 n1 819667 F ∧ (∀ k, F k → ¬ G k) ∧ Below w1.heap.size w1 W ∧ Lies w13.heap.size w14.heap.size W (fun W => OpsIn W ua gl) ∧ Spare w13.heap.size w14.heap.size G ∧ Lies wA.heap.size w6.heap.size W (fun W => ImgI W sa (lookI p1)) ∧ Spare wA.heap.size w6.heap.size G ∧ Lies w6.heap.size w7.heap.size W (fun W => ImgI W (some ⟨lg, 0, none⟩) CI) ∧ Spare w6.heap.size w7.heap.size G) := ⟨_, fun _ _ => Iff.rfl⟩
      have hS20 : S2 0 w14 := by
        have hb914 := HB13.out.trans (hb14.mono HB13.out.size)
        have hG14 := HG9.out.on hb914
        have hsz := HSZ.out
        have hsz9 := HSZ9.out
        have hlow : w1.heap.size ≤ w8.heap.size := by
          have := HD9.out.base
          have := HB9.out.size
          have q := hB113.size
          exact Nat.le_trans (Nat.le_trans HB1R.out hsz.1) (by omega)
        refine (HS2.out 0 w14).2 ⟨G, rP, CL, hG14.low hlow, HD9.out.on hb914, fun k hk hg => ?_, hB113.trans (hb14.mono hB113.size), hfl, fun k hk => .inl ?_, HWA9.out.on hb914, fun k hk => .inr ?_, HLE9.out.on hb914, fun k hk => .inr ?_⟩
        · have := (HG9.out.lt k hg).1
          have := HFR.out k hk
          omega
        · have := (HG9.out.lt k hk).2
          have := HB13.out.size
          omega
        · have := (HG9.out.lt k hk).1
          omega
        · have := (HG9.out.lt k hk).1
          omega
      have HMN : Hid (gl.length = M) := hM
      clear hgE hM hfl hb14 hB113 HB13 HG9 HD9 HB9 HWA9 HLE9 HSZ HSZ9
      go_wp2_with fail
      go_loopg [11] M (fun q s11 wx => ∃ (j : Nat), j ≤ M ∧ q = M - j ∧ s11 = .int .i64 j ∧ S2 j wx)
      case atStart => exact ⟨0, Nat.zero_le _, rfl, rfl, hS20⟩
      case round =>
        obtain ⟨j, hj, rfl, rfl, hS⟩ := hrel
        clear hS20
        by_cases hlt2 : j < M
        · have hz2 : (j : Int) < (M : Int) := by omega
          have hwj : IntKind.i64.wrap ((j : Int) + 1) = (j : Int) + 1 := by rw [IntKind.wrap_i64]; omega
          obtain ⟨G2, q2, m2, hDr, hDd, hFG, hbx, hL, hSp, hLw, hSw, hLl, hSl⟩ := (HS2.out j wr).1 hS
          obtain ⟨o, ho⟩ : ∃ o, gl[j]? = some o := ⟨_, List.getElem?_eq_getElem (by have := HMN.out; omega)⟩
          obtain ⟨b, off, rfl, hc⟩ := hL.now j o ho
          have q0 : wr.cell? ⟨b, off + j * 10, none⟩ = some (.int .i64 o.kind) := hc 0 _ rfl
          have q1 : wr.cell? ⟨b, off + j * 10 + 1, none⟩ = some (.int .i64 o.on) := hc 1 _ rfl
          have q2 : wr.cell? ⟨b, off + j * 10 + 2, none⟩ = some (.int .i64 o.n) := hc 2 _ rfl
          have q3 : wr.cell? ⟨b, off + j * 10 + 3, none⟩ = some (.string o.name) := hc 3 _ rfl
          have q4 : wr.cell? ⟨b, off + j * 10 + 4, none⟩ = some (.string o.tt) := hc 4 _ rfl
          have q5 : wr.cell? ⟨b, off + j * 10 + 5, none⟩ = some (.slice o.ba o.b.length o.bc) := hc 5 _ rfl
          have q6 : wr.cell? ⟨b, off + j * 10 + 6, none⟩ = some (.int .i64 o.p0) := hc 6 _ rfl
          have q7 : wr.cell? ⟨b, off + j * 10 + 7, none⟩ = some (.int .i64 o.p1) := hc 7 _ rfl
          have q8 : wr.cell? ⟨b, off + j * 10 + 8, none⟩ = some (.int .i64 o.p2) := hc 8 _ rfl
          have q9 : wr.cell? ⟨b, off + j * 10 + 9, none⟩ = some (.slice o.pa o.pn o.pc) := hc 9 _ rfl
          have HPL : Hid (Calls Try.prog 9 #[.pointer (some ⟨rb, 0, none⟩), .agg #[.int .i64 o.kind, .int .i64 o.on, .int .i64 o.n, .string o.name, .string o.tt, .slice o.ba o.b.length o.bc, .int .i64 o.p0, .int .i64 o.p1, .int .i64 o.p2, .slice o.pa o.pn o.pc]] wr fun e w' => ∃ E : Int, e = .returned (.int .i64 E) ∧ S2 (j + 1) w') := by
            obtain ⟨o1, o2, o3⟩ := HOK2.out j o ho
            refine (play_step hDr hbx (by omega) o o1 o2 o3).mono fun e w' ⟨he, G', hD', hMv, hb'⟩ => ⟨_, he, (HS2.out _ _).2 ⟨G', _, _, hD'.mono (by omega), (hDd.other hFG hMv).1, (hDd.other hFG hMv).2, hb', (hL.mv hSp hMv).1, (hL.mv hSp hMv).2, (hLw.mv hSw hMv).1, (hLw.mv hSw hMv).2, (hLl.mv hSl hMv).1, (hLl.mv hSl hMv).2⟩⟩
          clear hS hDr hDd hFG hbx hL hSp hLw hSw hLl hSl hc HS2 HOK2 ho HMN
          go_wp2_with fail
          refine HPL.out.mono ?_
          rintro e w15 ⟨E15, rfl, hS15⟩
          clear HPL q0 q1 q2 q3 q4 q5 q6 q7 q8 q9
          go_wp2_with fail
          go_roundg (M - (j + 1))
          case measure => go_light; omega
          case rel => go_light; exact ⟨j + 1, by omega, rfl, by simp, hS15⟩
        · obtain rfl : j = M := by omega
          have hz2 : ¬ ((j : Int) < (j : Int)) := by omega
          obtain ⟨G2, q2, m2, hDr, hDd, hFG, hbx, hL, hSp, hLw, hSw, hLl, hSl⟩ := (HS2.out j wr).1 hS
          have HBF : Hid (Below w1.heap.size w1 wr) := hbx
          have HSF : Hid (Calls Try.prog 11 #[.pointer (some ⟨db, 0, none⟩)] wr fun e w' => ∃ a c, e = .returned (.slice a wasL c) ∧ ImgI w' a (lookI p1) ∧ Below wr.heap.size wr w') := by
            have := seen_is hDd (by decide)
            rw [HWL.out] at this
            exact this.mono fun e w' ⟨a, c, he, hl, hb⟩ => ⟨a, c, he, hl.now, hb⟩
          have HIF : Hid (∀ W a c, ImgI W a (lookI p1) → Below wr.heap.size wr W → Calls Try.prog 16 #[.slice a wasL c, .slice sa wasL sc] W fun e w' => e = .returned (.bool true) ∧ Below wr.heap.size wr w') := fun W a c h1 hb => by
            have := image_is c sc h1 ((hLw.on hb).now) (by have := HW64.out; omega) HWD.out
            rw [HWL.out] at this
            exact this.mono fun e w' ⟨he, m, hm⟩ => ⟨he, by rw [hm]; exact below_drewN hb m⟩
          have HCF : Hid (∀ W, Below wr.heap.size wr W → Calls Try.prog 12 #[.pointer (some ⟨db, 0, none⟩), .slice A.pa A.ps.length A.pc] W fun e w' => ∃ g, e = .returned (.slice (some ⟨g, 0, none⟩) CL CL) ∧ ImgI w' (some ⟨g, 0, none⟩) CI ∧ Below wr.heap.size wr w') := fun W hb => by
            have := (hDd.on hb).crash (by decide) A.ps A.pa A.pc (HP.out.ps.on (hbx.trans (hb.mono hbx.size)))
            rw [HCI.out, HCL.out] at this
            exact this.mono fun e w' ⟨g, he, hl, hb'⟩ => ⟨g, he, hl.now, hb.trans (hb'.mono hb.size)⟩
          have HJF : Hid (∀ W a c, ImgI W a CI → Below wr.heap.size wr W → Calls Try.prog 16 #[.slice a CL c, .slice (some ⟨lg, 0, none⟩) CL CL] W fun e w' => e = .returned (.bool true) ∧ Below wr.heap.size wr w') := fun W a c h1 hb => by
            have := image_is c CL h1 ((hLl.on hb).now) (by rw [HCL.out]; omega) HCD2.out
            rw [HCL.out] at this
            exact this.mono fun e w' ⟨he, m, hm⟩ => ⟨he, by rw [hm]; exact below_drewN hb m⟩
          have HBXF : Hid (∀ W, Below wr.heap.size wr W → W.cell? ⟨w.heap.size, 2, none⟩ = some (.slice A.pa A.ps.length A.pc)) := fun W hb => (HBX.out W (hbx.trans (hb.mono hbx.size))).2.1
          have HENF : Hid (∀ W, Below wr.heap.size wr W → Below w.heap.size w W) := fun W hb => HEND.out W (hbx.trans (hb.mono hbx.size))
          clear hS HS2 HOK2 HMN hDr hDd hFG hbx hL hSp hLw hSw hLl hSl HBX HEND HP HWD HCD2 HW64 HCI HI1 HNUM HFR HB1R HBF
          go_wp2_with fail
          refine HSF.out.mono ?_
          rintro e w16 ⟨fa, fc, rfl, hi16, hb16⟩
          go_wp2_with fail
          refine (HIF.out w16 fa fc hi16 hb16).mono ?_
          rintro e w17 ⟨rfl, hb17⟩
          have b2 := HBXF.out w17 hb17
          go_wp2_with fail
          refine (HCF.out w17 hb17).mono ?_
          rintro e w18 ⟨fg, rfl, hi18, hb18⟩
          clear b2
          go_wp2_with fail
          refine (HJF.out w18 _ _ hi18 hb18).mono ?_
          rintro e w19 ⟨rfl, hb19⟩
          clear HSF HIF HCF HJF hi16 hi18 hb16 hb17 hb18
          by_cases h0 : i = 0
          · have hw1 := HW1.out h0
            subst hw1
            have hz0 : ¬ (0 : Int) < (i : Int) := by omega
            go_wp2_with fail
            go_ret
            exact ⟨rfl, HENF.out _ hb19⟩
          · have hz0 : (0 : Int) < (i : Int) := by omega
            go_wp2_with fail
            go_ret
            exact ⟨rfl, HENF.out _ hb19⟩
end Go.Proofs.Ytbnlgohaaadgeaa

/- What the laws of stage 4 are handed, read out of memory. -/
namespace Go.Proofs.Ytbnlgohaaadgeaa
open Go.ChangeShapes Go.WideShapes Go.ChangeAt Go.RowKit Go.Deep Go.Joins
set_option maxRecDepth 100000

theorem cellsI : Try.prog.cellsOf 3 = 1 := by kernel_rfl
theorem cells8 : Try.prog.cellsOf 5 = 1 := by kernel_rfl
theorem cellsS : Try.prog.cellsOf 9 = 1 := by kernel_rfl
theorem cellsB : Try.prog.cellsOf 29 = 1 := by kernel_rfl
theorem cellsP : Try.prog.cellsOf 23 = 1 := by kernel_rfl
theorem cellsPl : Try.prog.cellsOf 31 = 3 := by kernel_rfl
theorem cellsO : Try.prog.cellsOf 33 = 10 := by kernel_rfl
theorem cellsOs : Try.prog.cellsOf 22 = 1 := by kernel_rfl
theorem add_at (b o : Nat) (r : Nat) : (⟨b, o, none⟩ : Addr).add r = ⟨b, o + r, none⟩ := by simp [Addr.add]
theorem byte_of {n : Int} (h : (Lit.int .u8 n).wf = true) : ∃ m : Nat, n = m ∧ m < 256 := by
  have := bounds_u8 h
  exact ⟨n.toNat, by omega, by omega⟩
theorem open_bytesL {H : Type} {enc : TypeId × Value → H} {W : World} {fuel : Nat} {v : Value} {y : DataW H × List MemPlace} (h : DataW.trod enc Try.prog W 0 (fun _ => true) true fuel 29 [v] = some y) :
    ∃ (a : Option Addr) (cap : Nat) (l : List Nat), v = .slice a l.length cap ∧ (a = none → l.length = 0 ∧ cap = 0) ∧ l.length ≤ cap ∧ BL W a l := by
  rcases open_ints Try.underlying29 Try.underlying5 cells8 h with ⟨hcs, _⟩ | ⟨a, len, cap, zs, hcs, _, hl, hm, hz, hx, hcell, hwf⟩
  · exact ⟨none, 0, [], by simpa using hcs, fun _ => ⟨rfl, rfl⟩, Nat.le_refl _, fun j hj => absurd hj (Nat.not_lt_zero _)⟩
  · simp only [if_true] at hz
    have hlen : ((List.range len).map (fun j => (zs.getD j 0).toNat % 256)).length = len := by simp
    refine ⟨some a, cap, (List.range len).map (fun j => (zs.getD j 0).toNat % 256), by rw [hlen]; simpa using hcs, fun e => (by cases e), by rw [hlen]; exact hl, fun j hj => ?_⟩
    rw [hlen] at hj
    obtain ⟨b, off, sp⟩ := a
    have h5 := hcell j (by omega)
    obtain rfl : sp = none := by simpa [Addr.add] using World.cell?_spot (hcell 0 (by omega))
    rw [add_at] at h5
    refine ⟨b, off, rfl, ?_⟩
    have hmem : zs.getD j 0 ∈ zs := by
      rw [List.getD_eq_getElem?_getD, List.getElem?_eq_getElem (by omega)]; exact List.getElem_mem _
    obtain ⟨m, hm1, hm2⟩ := byte_of (hwf _ hmem)
    have e : ((List.range len).map (fun j => (zs.getD j 0).toNat % 256)).getD j 0 = (zs.getD j 0).toNat % 256 := by simp [List.getD, hj]
    show W.cell? _ = some (.int .u8 ((((List.range len).map (fun j => (zs.getD j 0).toNat % 256)).getD j 0 : Nat) : Int))
    rw [e]
    rw [hm1] at h5 ⊢
    rw [Int.toNat_natCast, Nat.mod_eq_of_lt hm2]
    exact h5
theorem open_picksL {H : Type} {enc : TypeId × Value → H} {W : World} {fuel : Nat} {v : Value} {y : DataW H × List MemPlace} (h : DataW.trod enc Try.prog W 0 (fun _ => true) true fuel 23 [v] = some y) :
    ∃ (pa : Option Addr) (pc : Nat) (ps : List Int), v = .slice pa ps.length pc ∧ PicksL W pa ps := by
  rcases open_ints Try.underlying23 Try.underlying3 cellsI h with ⟨hcs, _⟩ | ⟨a, len, cap, zs, hcs, _, hl, hm, hz, hx, hcell, hwf⟩
  · exact ⟨none, 0, [], by simpa using hcs, fun j hj => absurd hj (Nat.not_lt_zero _)⟩
  · simp only [if_true] at hz
    have hlen : (zs.take len).length = len := by rw [List.length_take]; omega
    obtain ⟨b, o, sp⟩ := a
    refine ⟨some ⟨b, o, sp⟩, cap, zs.take len, by rw [hlen]; simpa using hcs, fun j hj => ?_⟩
    rw [hlen] at hj
    have h5 := hcell j (by omega)
    obtain rfl : sp = none := by simpa [Addr.add] using World.cell?_spot (hcell 0 (by omega))
    rw [add_at] at h5
    refine ⟨b, o, rfl, ?_⟩
    have e : (zs.take len).getD j 0 = zs.getD j 0 := by simp only [List.getD, List.getElem?_take]; rw [if_pos hj]
    rw [e]
    exact h5
theorem cells10_of {w : World} {a : Addr} {cs : List Value} (h : w.cells? 0 a 10 = some cs) : ∃ v0 v1 v2 v3 v4 v5 v6 v7 v8 v9, cs = [v0, v1, v2, v3, v4, v5, v6, v7, v8, v9] ∧ ∀ j v, cs[j]? = some v → w.cell? (a.add j) = some v := by
  obtain ⟨_, hl, hc⟩ := World.cells?_some h
  match cs, hl with
  | [v0, v1, v2, v3, v4, v5, v6, v7, v8, v9], _ =>
    refine ⟨v0, v1, v2, v3, v4, v5, v6, v7, v8, v9, rfl, fun j v hj => ?_⟩
    have hj' : j < 10 := (List.getElem?_eq_some_iff.1 hj).1
    have := hc j hj'
    rw [this]
    rw [← hj, List.getElem?_eq_getElem hj']
theorem open_op {H : Type} {enc : TypeId × Value → H} {W : World} {fuel b o : Nat} {cs : List Value} {y : DataW H × List MemPlace} (hc : W.cells? 0 ⟨b, o, none⟩ 10 = some cs) (h : DataW.trod enc Try.prog W 0 (fun _ => true) true fuel 33 cs = some y) :
    ∃ q : OpV, (∀ (j : Nat) (v : Value), q.cells[j]? = some v → W.cell? ⟨b, o + j, none⟩ = some v) ∧ q.ok W ∧ q.b.length ≤ q.bc := by
  obtain ⟨v0, v1, v2, v3, v4, v5, v6, v7, v8, v9, rfl, hcell⟩ := cells10_of hc
  obtain ⟨xs, m, _, hx, _, hlen, hfs⟩ := DataW.trod_struct Try.underlying33 h
  obtain ⟨y0, y1, y2, y3, y4, y5, y6, y7, rfl⟩ : ∃ y0 y1 y2 y3 y4 y5 y6 y7, xs = [y0, y1, y2, y3, y4, y5, y6, y7] := by
    match xs, hlen with
    | [a, b, c, d, e, f, g, h], _ => exact ⟨a, b, c, d, e, f, g, h, rfl⟩
  have f0 := hfs 0 _ rfl
  have f1 := hfs 1 _ rfl
  have f2 := hfs 2 _ rfl
  have f3 := hfs 3 _ rfl
  have f4 := hfs 4 _ rfl
  have f5 := hfs 5 _ rfl
  have f6 := hfs 6 _ rfl
  have f7 := hfs 7 _ rfl
  simp [cellsI] at f0 f1 f2
  simp [cellsS] at f3 f4
  simp [cellsB] at f5
  simp [cellsPl] at f6
  simp [cellsP] at f7
  obtain ⟨k0, e0, _, _⟩ := DataW.trod_int Try.underlying3 f0
  obtain ⟨k1, e1, _, _⟩ := DataW.trod_int Try.underlying3 f1
  obtain ⟨k2, e2, _, _⟩ := DataW.trod_int Try.underlying3 f2
  obtain ⟨s3, e3, _, _⟩ := DataW.trod_string Try.underlying9 f3
  obtain ⟨s4, e4, _, _⟩ := DataW.trod_string Try.underlying9 f4
  obtain ⟨ba, bc, l, e5, hn5, hl5, hb5⟩ := open_bytesL f5
  obtain ⟨zs, m6, _, _, _, hlen6, hfs6⟩ := DataW.trod_struct Try.underlying31 f6
  obtain ⟨z0, z1, z2, rfl⟩ : ∃ z0 z1 z2, zs = [z0, z1, z2] := by
    match zs, hlen6 with
    | [a, b, c], _ => exact ⟨a, b, c, rfl⟩
  have g0 := hfs6 0 _ rfl
  have g1 := hfs6 1 _ rfl
  have g2 := hfs6 2 _ rfl
  simp [cellsI] at g0 g1 g2
  obtain ⟨p0, e6, _, _⟩ := DataW.trod_int Try.underlying3 g0
  obtain ⟨p1, e7, _, _⟩ := DataW.trod_int Try.underlying3 g1
  obtain ⟨p2, e8, _, _⟩ := DataW.trod_int Try.underlying3 g2
  obtain ⟨pa, pc, ps, e9, _⟩ := open_picksL f7
  obtain rfl : v0 = .int .i64 k0 := by simpa using e0
  obtain rfl : v1 = .int .i64 k1 := by simpa using e1
  obtain rfl : v2 = .int .i64 k2 := by simpa using e2
  obtain rfl : v3 = .string s3 := by simpa using e3
  obtain rfl : v4 = .string s4 := by simpa using e4
  subst e5
  obtain rfl : v6 = .int .i64 p0 := by simpa using e6
  obtain rfl : v7 = .int .i64 p1 := by simpa using e7
  obtain rfl : v8 = .int .i64 p2 := by simpa using e8
  subst e9
  refine ⟨⟨k0, k1, k2, s3, s4, ba, bc, l, p0, p1, p2, pa, ps.length, pc⟩, fun j v hj => ?_, ⟨hb5, hn5⟩, hl5⟩
  have := hcell j v hj
  rwa [add_at] at this
theorem open_ops {H : Type} {enc : TypeId × Value → H} {W : World} {fuel : Nat} {v : Value} {y : DataW H × List MemPlace} (h : DataW.trod enc Try.prog W 0 (fun _ => true) true fuel 22 [v] = some y) :
    ∃ (a : Option Addr) (c : Nat) (l : List OpV), v = .slice a l.length c ∧ OpsIn W a l ∧ OpsOk W W.heap.size l := by
  rcases open_slice Try.underlying22 h with ⟨hcs, _⟩ | ⟨a, len, cap, m, n, D, Pl, hcs, _, hl, _, hm, hx, hel⟩
  · exact ⟨none, 0, [], by simpa using hcs, fun i o ho => by simp at ho, fun o ho => by simp at ho⟩
  · simp only [if_true] at hm
    subst hm
    obtain ⟨b, o, sp⟩ := a
    have hsp : 0 < len → sp = none := fun h0 => by
      obtain ⟨cs', hc, _⟩ := hel 0 (by omega)
      rw [cellsO] at hc
      obtain ⟨v0, v1, v2, v3, v4, v5, v6, v7, v8, v9, rfl, hcell⟩ := cells10_of hc
      have := hcell 0 v0 rfl
      simpa [Addr.add] using World.cell?_spot this
    have hall : ∀ i, ∃ q : OpV, i < len → ((∀ (j : Nat) (v : Value), q.cells[j]? = some v → W.cell? ⟨b, o + i * 10 + j, none⟩ = some v) ∧ q.ok W ∧ q.b.length ≤ q.bc) := fun i => by
      by_cases hi : i < len
      · obtain rfl := hsp (by omega)
        obtain ⟨cs', hc, ht⟩ := hel i (by omega)
        rw [cellsO, add_at] at hc
        obtain ⟨q, hq⟩ := open_op hc ht
        exact ⟨q, fun _ => hq⟩
      · exact ⟨⟨0, 0, 0, ⟨#[]⟩, ⟨#[]⟩, none, 0, [], 0, 0, 0, none, 0, 0⟩, fun h => absurd h hi⟩
    obtain ⟨Q, hQ⟩ := Classical.axiomOfChoice hall
    have hlen : ((List.range len).map Q).length = len := by simp
    have hat : ∀ i q, ((List.range len).map Q)[i]? = some q → i < len ∧ q = Q i := fun i q hq => by
      have hi : i < len := by have := (List.getElem?_eq_some_iff.1 hq).1; rwa [hlen] at this
      rw [List.getElem?_map, List.getElem?_range hi] at hq
      exact ⟨hi, (Option.some.inj hq).symm⟩
    refine ⟨some ⟨b, o, sp⟩, m, (List.range len).map Q, by rw [hlen]; simpa using hcs, fun i q hq => ?_, fun q hq => ?_⟩
    · obtain ⟨hi, rfl⟩ := hat i q hq
      obtain rfl := hsp (by omega)
      exact ⟨b, o, rfl, (hQ i hi).1⟩
    · obtain ⟨i, hi, rfl⟩ := List.mem_map.1 hq
      obtain ⟨_, h2, h3⟩ := hQ i (List.mem_range.1 hi)
      refine ⟨h2, h3, fun ad e h0 => ?_⟩
      obtain ⟨b', o', e', hc⟩ := h2.1 0 h0
      rw [e] at e'
      have : ad = ⟨b', o', none⟩ := Option.some.inj e'
      rw [this]
      exact World.block_lt_of_cell? _ _ hc
theorem open_power {H : Type} {enc : TypeId × Value → H} {W : World} {fuel : Nat} {u0 u1 u2 u3 u4 : Value} {y : DataW H × List MemPlace} (h : DataW.trod enc Try.prog W 0 (fun _ => true) true fuel 25 [u0, u1, u2, u3, u4] = some y) :
    ∃ A : PowA, u0 = .slice A.oa A.ops.length A.oc ∧ u1 = .int .i64 A.off ∧ u2 = .slice A.pa A.ps.length A.pc ∧ u3 = .slice A.ma A.more.length A.mc ∧ u4 = .slice A.na A.nx.length A.nc ∧ PowIn W W.heap.size A := by
  obtain ⟨xs, m, _, hx, _, hlen, hfs⟩ := DataW.trod_struct Try.underlying25 h
  obtain ⟨y0, y1, y2, y3, y4, rfl⟩ : ∃ y0 y1 y2 y3 y4, xs = [y0, y1, y2, y3, y4] := by
    match xs, hlen with
    | [a, b, c, d, e], _ => exact ⟨a, b, c, d, e, rfl⟩
  have f0 := hfs 0 _ rfl
  have f1 := hfs 1 _ rfl
  have f2 := hfs 2 _ rfl
  have f3 := hfs 3 _ rfl
  have f4 := hfs 4 _ rfl
  simp [cellsOs] at f0 f3
  simp [cellsI] at f1
  simp [cellsP] at f2 f4
  obtain ⟨oa, oc, ops, e0, h1, h2⟩ := open_ops f0
  obtain ⟨off, e1, _, _⟩ := DataW.trod_int Try.underlying3 f1
  obtain ⟨pa, pc, ps, e2, h3⟩ := open_picksL f2
  obtain ⟨ma, mc, more, e3, h4, h5⟩ := open_ops f3
  obtain ⟨na, nc, nx, e4, h6⟩ := open_picksL f4
  exact ⟨⟨oa, oc, ops, off, pa, pc, ps, ma, mc, more, na, nc, nx⟩, e0, by simpa using e1, e2, e3, e4, ⟨h1, h2, h3, h4, h5, h6⟩⟩
end Go.Proofs.Ytbnlgohaaadgeaa

/- Two disks alike but for what their plans refuse; one step of both. -/
namespace Go.Proofs.Ytbnlgohaaadgeaa
open Go.RowKit Go.Maps Go.Sort Go.Joins
set_option maxRecDepth 100000
set_option maxRecDepth 100000

/-- No power goes off. -/
def Calm (p : DM) : Prop := p.off = false ∧ p.po = 0 ∧ p.ah ≤ p.st
theorem Calm.hit {p : DM} (h : Calm p) : hitB p.st p.ah p.po = false := by
  unfold hitB
  rw [h.2.1, beq_eq_false_iff_ne]
  have := h.2.2
  omega
theorem Calm.err {p : DM} (h : Calm p) : strokeE p = 0 := by
  unfold strokeE
  rw [h.hit]
  rfl
theorem Calm.str {p : DM} (h : Calm p) : strokeM p = { p with st := p.st + 1 } := by
  unfold strokeM
  rw [h.hit]
  rfl
theorem Calm.stroke {p : DM} (h : Calm p) : Calm (strokeM p) := by
  rw [h.str]
  exact ⟨h.1, h.2.1, by show p.ah ≤ p.st + 1; have := h.2.2; omega⟩
/-- Alike but for strokes and plans. -/
structure Sim (a b : DM) : Prop where
  room : a.room = b.room
  safe : a.safe = b.safe
  seen : a.seen = b.seen
  ms : a.ms = b.ms
  fm : a.fm = b.fm
  off : a.off = b.off
theorem Sim.stroke {a b : DM} (h : Sim a b) (ha : Calm a) (hb : Calm b) : Sim (strokeM a) (strokeM b) := by
  rw [ha.str, hb.str]
  exact ⟨h.room, h.safe, h.seen, h.ms, h.fm, h.off⟩
theorem Sim.fnd {a b : DM} (h : Sim a b) (s : ByteArray) : findM a.off a.seen s = findM b.off b.seen s := by rw [h.off, h.seen]
theorem Sim.used {a b : DM} (h : Sim a b) : usedM a = usedM b := by unfold usedM; rw [h.seen, h.fm]
theorem Sim.crash {a b : DM} (h : Sim a b) (ps : List Int) : crashI a ps = crashI b ps := by
  unfold crashI leftM
  rw [h.safe, h.ms, h.fm]
theorem Sim.look {a b : DM} (h : Sim a b) : lookI a = lookI b := by
  unfold lookI seenI
  rw [h.off, h.seen, h.fm]
theorem Sim.setF {a b : DM} (h : Sim a b) (i : Nat) (m : FM) : Sim { a with fm := put1 a.fm i m } { b with fm := put1 b.fm i m } := ⟨h.room, h.safe, h.seen, h.ms, by show put1 a.fm i m = put1 b.fm i m; rw [h.fm], h.off⟩
theorem Sim.change {a b : DM} (h : Sim a b) (m : Mov) : Sim (changeM a m) (changeM b m) := ⟨h.room, h.safe, by show m.on a.seen = m.on b.seen; rw [h.seen], by show a.ms ++ [m] = b.ms ++ [m]; rw [h.ms], h.fm, h.off⟩
theorem Sim.safeN {a b : DM} (h : Sim a b) : Sim (safeN a) (safeN b) := ⟨h.room, by show movesOn a.safe a.ms = movesOn b.safe b.ms; rw [h.safe, h.ms], h.seen, rfl, h.fm, h.off⟩
/-- What a step leaves of the power. -/
structure Same (p q : DM) : Prop where
  ah : q.ah = p.ah
  po : q.po = p.po
  pf : q.pf = p.pf
  pt : q.pt = p.pt
theorem Same.refl (p : DM) : Same p p := ⟨rfl, rfl, rfl, rfl⟩
theorem same_stroke (p : DM) : Same p (strokeM p) := ⟨rfl, rfl, rfl, rfl⟩
/-- A step that the plan does not refuse, on both. -/
structure Both (a b : DM) (n : Nat) (ra rb : DM × Nat × Nat) : Prop where
  err : ra.2.2 = rb.2.2
  num : ra.2.1 = rb.2.1
  sim : Sim ra.1 rb.1
  e44 : ra.2.2 ≠ 44
  e45 : ra.2.2 ≠ 45
  yes : ra.2.2 = 0 → ra.1.st = a.st + 1 ∧ rb.1.st = b.st + 1
  no : ra.2.2 ≠ 0 → ra.1.st = a.st ∧ rb.1.st = b.st
  sa : Same a ra.1
  sb : Same b rb.1
theorem both_same {a b : DM} {n e : Nat} (h : Sim a b) (he : e ≠ 0) (h44 : e ≠ 44) (h45 : e ≠ 45) : Both a b n (a, n, e) (b, n, e) := ⟨rfl, rfl, h, h44, h45, fun q => absurd q he, fun _ => ⟨rfl, rfl⟩, Same.refl _, Same.refl _⟩
theorem both_zero {a b A B : DM} {n m : Nat} (h : Sim A B) (h1 : A.st = a.st + 1) (h2 : B.st = b.st + 1) (sa : Same a A) (sb : Same b B) : Both a b n (A, m, 0) (B, m, 0) := ⟨rfl, rfl, h, by show (0 : Nat) ≠ 44; decide, by show (0 : Nat) ≠ 45; decide, fun _ => ⟨h1, h2⟩, fun q => absurd rfl q, sa, sb⟩
theorem findM_calm {off : Bool} {D : DataW Nat} {s : ByteArray} {e : Nat} (ho : off = false) (h : findM off D s = (none, e)) : e = 41 ∨ e = 42 := by
  rcases findM_none h with q | q | q
  · exact .inl q
  · exact .inr q
  · unfold findM at h
    rw [ho] at h
    simp only [Bool.false_eq_true, if_false] at h
    split at h
    · split at h
      · cases h
      · injection h with _ q2; omega
    · injection h with _ q2; omega
theorem app_both {a b : DM} (h : Sim a b) (ha : Calm a) (hb : Calm b) (hpf : b.pf = 0) (n : Nat) (s : ByteArray) (l : List Nat) (hroom : l.length + usedM a ≤ a.room) :
    ((appD a s l n).2 = 44 ∧ (appD a s l n).1 = strokeM a ∧ appN a n s l = n ∧ fullB (a.st + 1) a.ah a.pf a.pt = true) ∨
    (Both a b n ((appD a s l n).1, appN a n s l, (appD a s l n).2) ((appD b s l n).1, appN b n s l, (appD b s l n).2) ∧ ((appD a s l n).2 = 0 → fullB (a.st + 1) a.ah a.pf a.pt = false)) := by
  have ea := ha.err
  have eb := hb.err
  have hS := h.stroke ha hb
  have fa : fullM (strokeM a) l.length = fullB (a.st + 1) a.ah a.pf a.pt := by
    have : decide (l.length + usedM (strokeM a) ≤ (strokeM a).room) = true := decide_eq_true hroom
    unfold fullM
    rw [this]
    show (fullB (a.st + 1) a.ah a.pf a.pt || !true) = _
    simp
  have fb : fullM (strokeM b) l.length = false := by
    have hr : l.length + usedM b ≤ b.room := by rw [← h.used, ← h.room]; exact hroom
    have : decide (l.length + usedM (strokeM b) ≤ (strokeM b).room) = true := decide_eq_true hr
    unfold fullM
    rw [this]
    show (fullB (b.st + 1) b.ah b.pf b.pt || !true) = _
    unfold fullB
    rw [hpf]
    rfl
  have hsz : size a.seen = size b.seen := by rw [h.seen]
  unfold appN appD madeM
  rw [fa, fb, ← h.fnd s, ← hsz, ea, eb]
  obtain ⟨q, e, hf⟩ : ∃ q e, findM a.off a.seen s = (q, e) := ⟨_, _, rfl⟩
  rw [hf]
  cases q with
  | some i =>
    have e1 : (decide ((some i, e) = ((none : Option Nat), 42))) = false := decide_eq_false (by simp)
    rw [e1]
    cases hF : fullB (a.st + 1) a.ah a.pf a.pt with
    | true => exact .inl ⟨rfl, rfl, rfl, rfl⟩
    | false =>
      refine .inr ⟨both_zero (A := { strokeM a with fm := put1 a.fm i (addM (a.fm i) l) }) (B := { strokeM b with fm := put1 b.fm i (addM (b.fm i) l) }) ?_ rfl rfl ⟨rfl, rfl, rfl, rfl⟩ ⟨rfl, rfl, rfl, rfl⟩, fun _ => rfl⟩
      exact ⟨hS.room, hS.safe, hS.seen, hS.ms, by show put1 a.fm i (addM (a.fm i) l) = put1 b.fm i (addM (b.fm i) l); rw [h.fm], hS.off⟩
  | none =>
    by_cases e42 : e = 42
    · subst e42
      have e1 : (decide (((none : Option Nat), 42) = ((none : Option Nat), 42))) = true := decide_eq_true rfl
      rw [e1]
      simp only [if_true, Bool.true_and]
      by_cases h64 : 64 ≤ size a.seen
      · simp only [if_pos h64, decide_eq_true h64, Bool.not_true, Bool.false_and, Bool.false_eq_true, if_false]
        exact .inr ⟨both_same h (by decide) (by decide) (by decide), fun q => by cases q⟩
      · simp only [if_neg h64, decide_eq_false h64, Bool.not_false, Bool.true_and]
        cases hF : fullB (a.st + 1) a.ah a.pf a.pt with
        | true =>
          simp only [if_true, Bool.not_true, Bool.false_eq_true, if_false]
          exact .inl ⟨rfl, trivial, trivial, trivial⟩
        | false =>
          simp only [Bool.false_eq_true, if_false, Bool.not_false, if_true]
          refine .inr ⟨both_zero ?_ rfl rfl ⟨rfl, rfl, rfl, rfl⟩ ⟨rfl, rfl, rfl, rfl⟩, fun _ => trivial⟩
          have := hS.change ⟨some n, ⟨#[]⟩, s⟩
          exact ⟨this.room, this.safe, this.seen, this.ms, by show put1 a.fm n _ = put1 b.fm n _; rw [h.fm], this.off⟩
    · have e1 : (decide (((none : Option Nat), e) = ((none : Option Nat), 42))) = false := decide_eq_false (by simp [e42])
      rw [e1]
      simp only [if_neg e42, Bool.false_and, Bool.false_eq_true, if_false]
      have := findM_calm ha.1 hf
      exact .inr ⟨both_same h (by omega) (by omega) (by omega), fun q => by omega⟩
theorem cut_both {a b : DM} (h : Sim a b) (ha : Calm a) (hb : Calm b) (n : Nat) (s : ByteArray) (k : Int) : Both a b n ((cutD a s k).1, n, (cutD a s k).2) ((cutD b s k).1, n, (cutD b s k).2) := by
  unfold cutD
  rw [← h.fnd s, ha.err, hb.err]
  obtain ⟨q, e, hf⟩ : ∃ q e, findM a.off a.seen s = (q, e) := ⟨_, _, rfl⟩
  rw [hf]
  cases q with
  | none =>
    have := findM_calm ha.1 hf
    exact both_same (e := e) h (by omega) (by omega) (by omega)
  | some i =>
    show Both a b n ((if k < 0 ∨ ((a.fm i).sz : Int) < k then _ else _ : DM × Nat).1, n, (if k < 0 ∨ ((a.fm i).sz : Int) < k then _ else _ : DM × Nat).2) ((if k < 0 ∨ ((b.fm i).sz : Int) < k then _ else _ : DM × Nat).1, n, (if k < 0 ∨ ((b.fm i).sz : Int) < k then _ else _ : DM × Nat).2)
    rw [← h.fm]
    by_cases hk : k < 0 ∨ ((a.fm i).sz : Int) < k
    · rw [if_pos hk, if_pos hk]; exact both_same (e := 43) h (by decide) (by decide) (by decide)
    · rw [if_neg hk, if_neg hk]
      refine both_zero ?_ rfl rfl ⟨rfl, rfl, rfl, rfl⟩ ⟨rfl, rfl, rfl, rfl⟩
      have := h.stroke ha hb
      exact ⟨this.room, this.safe, this.seen, this.ms, rfl, this.off⟩
theorem sync_both {a b : DM} (h : Sim a b) (ha : Calm a) (hb : Calm b) (n : Nat) (s : ByteArray) : Both a b n ((syncM a s).1, n, (syncM a s).2) ((syncM b s).1, n, (syncM b s).2) := by
  unfold syncM
  rw [← h.fnd s, ha.err, hb.err]
  obtain ⟨q, e, hf⟩ : ∃ q e, findM a.off a.seen s = (q, e) := ⟨_, _, rfl⟩
  rw [hf]
  cases q with
  | none =>
    have := findM_calm ha.1 hf
    exact both_same (e := e) h (by omega) (by omega) (by omega)
  | some i =>
    refine both_zero (A := { strokeM a with fm := put1 a.fm i (safeM (a.fm i)) }) (B := { strokeM b with fm := put1 b.fm i (safeM (b.fm i)) }) ?_ rfl rfl ⟨rfl, rfl, rfl, rfl⟩ ⟨rfl, rfl, rfl, rfl⟩
    have := h.stroke ha hb
    exact ⟨this.room, this.safe, this.seen, this.ms, by show put1 a.fm i (safeM (a.fm i)) = put1 b.fm i (safeM (b.fm i)); rw [h.fm], this.off⟩
theorem names_both {a b : DM} (h : Sim a b) (ha : Calm a) (hb : Calm b) (n : Nat) : Both a b n ((syncN a).1, n, (syncN a).2) ((syncN b).1, n, (syncN b).2) := by
  unfold syncN
  rw [ha.err, hb.err, ha.1, hb.1]
  exact both_zero (h.stroke ha hb).safeN rfl rfl ⟨rfl, rfl, rfl, rfl⟩ ⟨rfl, rfl, rfl, rfl⟩
theorem ren_both {a b : DM} (h : Sim a b) (ha : Calm a) (hb : Calm b) (n : Nat) (s t : ByteArray) : Both a b n ((renameD a s t).1, n, (renameD a s t).2) ((renameD b s t).1, n, (renameD b s t).2) := by
  unfold renameD
  rw [← h.fnd s, ha.err, hb.err]
  obtain ⟨q, e, hf⟩ : ∃ q e, findM a.off a.seen s = (q, e) := ⟨_, _, rfl⟩
  rw [hf]
  cases q with
  | none =>
    have := findM_calm ha.1 hf
    show Both a b n (a, n, if e ≠ 45 ∧ okN t = false then 41 else e) (b, n, if e ≠ 45 ∧ okN t = false then 41 else e)
    split
    · exact both_same h (by decide) (by decide) (by decide)
    · exact both_same h (by omega) (by omega) (by omega)
  | some i =>
    by_cases ht : okN t = true
    · simp only [if_pos ht]
      by_cases hst : s.toList = t.toList
      · simp only [if_pos hst]
        exact both_zero (h.stroke ha hb) rfl rfl ⟨rfl, rfl, rfl, rfl⟩ ⟨rfl, rfl, rfl, rfl⟩
      · simp only [if_neg hst]
        exact both_zero ((h.stroke ha hb).change _) rfl rfl ⟨rfl, rfl, rfl, rfl⟩ ⟨rfl, rfl, rfl, rfl⟩
    · simp only [if_neg ht]
      exact both_same h (by decide) (by decide) (by decide)
theorem rem_both {a b : DM} (h : Sim a b) (ha : Calm a) (hb : Calm b) (n : Nat) (s : ByteArray) : Both a b n ((removeD a s).1, n, (removeD a s).2) ((removeD b s).1, n, (removeD b s).2) := by
  unfold removeD
  rw [← h.fnd s, ha.err, hb.err]
  obtain ⟨q, e, hf⟩ : ∃ q e, findM a.off a.seen s = (q, e) := ⟨_, _, rfl⟩
  rw [hf]
  cases q with
  | none =>
    have := findM_calm ha.1 hf
    exact both_same (e := e) h (by omega) (by omega) (by omega)
  | some i => exact both_zero ((h.stroke ha hb).change _) rfl rfl ⟨rfl, rfl, rfl, rfl⟩ ⟨rfl, rfl, rfl, rfl⟩
theorem step_both {a b : DM} (h : Sim a b) (ha : Calm a) (hb : Calm b) (hpf : b.pf = 0) (n : Nat) (o : Dp) (hk : 1 ≤ o.kind ∧ o.kind ≤ 6) (hroom : o.l.length + usedM a ≤ a.room) :
    ((stepM a n o).2.2 = 44 ∧ (stepM a n o).1 = strokeM a ∧ (stepM a n o).2.1 = n ∧ o.kind = 1 ∧ fullB (a.st + 1) a.ah a.pf a.pt = true) ∨
    (Both a b n (stepM a n o) (stepM b n o) ∧ (o.kind = 1 → (stepM a n o).2.2 = 0 → fullB (a.st + 1) a.ah a.pf a.pt = false)) := by
  unfold stepM
  by_cases h1 : o.kind = 1
  · rw [if_pos h1, if_pos h1]
    rcases app_both h ha hb hpf n o.s o.l hroom with ⟨q1, q2, q3, q4⟩ | ⟨q1, q2⟩
    · exact .inl ⟨q1, q2, q3, h1, q4⟩
    · exact .inr ⟨q1, fun _ => q2⟩
  · rw [if_neg h1, if_neg h1]
    refine .inr ⟨?_, fun q => absurd q h1⟩
    by_cases h2 : o.kind = 2
    · rw [if_pos h2, if_pos h2]; exact cut_both h ha hb n o.s o.k
    · rw [if_neg h2, if_neg h2]
      by_cases h3 : o.kind = 3
      · rw [if_pos h3, if_pos h3]; exact sync_both h ha hb n o.s
      · rw [if_neg h3, if_neg h3]
        by_cases h4 : o.kind = 4
        · rw [if_pos h4, if_pos h4]; exact names_both h ha hb n
        · rw [if_neg h4, if_neg h4]
          by_cases h5 : o.kind = 5
          · rw [if_pos h5, if_pos h5]; exact ren_both h ha hb n o.s o.t
          · rw [if_neg h5, if_neg h5, if_pos (by omega), if_pos (by omega)]
            exact rem_both h ha hb n o.s
end Go.Proofs.Ytbnlgohaaadgeaa

/- Small calls of the laws: counted, within; a step of one of two disks. -/
namespace Go.Proofs.Ytbnlgohaaadgeaa
open Go.RowKit Go.Maps Go.Sort Go.Joins
set_option maxRecDepth 100000
set_option maxRecDepth 100000

theorem counted_yes (E : Nat) (h : E = 0 ∨ E = 44 ∨ E = 45) (W : World) : Calls Try.prog 26 #[.int .i64 (E : Nat)] W fun r w' => r = .returned (.bool true) ∧ w' = W := by
  rcases h with h | h | h
  all_goals
    subst h
    go_enter Try.func26, Try.ntmps26
    go_wp2_with fail
    go_ret
    exact ⟨rfl, rfl⟩
theorem counted_no (E : Nat) (h0 : E ≠ 0) (h1 : E ≠ 44) (h2 : E ≠ 45) (W : World) : Calls Try.prog 26 #[.int .i64 (E : Nat)] W fun r w' => r = .returned (.bool false) ∧ w' = W := by
  have k0 : (((E : Nat) : Int) == 0) = false := beq_eq_false_iff_ne.2 (by omega)
  have k1 : (((E : Nat) : Int) == 44) = false := beq_eq_false_iff_ne.2 (by omega)
  have k2 : (((E : Nat) : Int) == 45) = false := beq_eq_false_iff_ne.2 (by omega)
  clear h0 h1 h2
  go_enter Try.func26, Try.ntmps26
  go_wp2_with fail
  go_ret
  exact ⟨rfl, rfl⟩
theorem within_is (x : Int) (m : Nat) (hm : 1 ≤ m) (hm2 : m ≤ 1000) (W : World) : Calls Try.prog 17 #[.int .i64 x, .int .i64 (m : Nat)] W fun r w' => ∃ k : Nat, k < m ∧ r = .returned (.int .i64 (k : Nat)) ∧ w' = W := by
  obtain ⟨u, hu⟩ : ∃ u : Int, ((m : Nat) : Int) = u := ⟨_, rfl⟩
  rw [hu]
  have hu0 : (0 : Int) < u := by omega
  have hune : (u == 0) = false := beq_eq_false_iff_ne.2 (by omega)
  have hun1 : (u == -1) = false := beq_eq_false_iff_ne.2 (by omega)
  obtain ⟨r, hr⟩ : ∃ r, x.tmod u = r := ⟨_, rfl⟩
  have r1 := Int.tmod_lt_of_pos x hu0
  have r2 := Int.lt_tmod_of_pos x hu0
  rw [hr] at r1 r2
  have hwr : IntKind.i64.wrap r = r := by rw [IntKind.wrap_i64]; omega
  obtain ⟨s, hs⟩ : ∃ s : Int, r + u = s := ⟨_, rfl⟩
  have hws : IntKind.i64.wrap s = s := by rw [IntKind.wrap_i64]; omega
  obtain ⟨t, ht⟩ : ∃ t, s.tmod u = t := ⟨_, rfl⟩
  have t1 := Int.tmod_lt_of_pos s hu0
  have t2 : 0 ≤ s.tmod u := Int.tmod_nonneg u (by omega)
  rw [ht] at t1 t2
  have hwt : IntKind.i64.wrap t = t := by rw [IntKind.wrap_i64]; omega
  have hne : u ≠ 0 := by omega
  have HK : Hid (∃ k : Nat, k < m ∧ t = (k : Int)) := ⟨t.toNat, by omega, by omega⟩
  refine Calls.mono (?_ : Calls _ _ _ _ fun e w' => e = .returned (.int .i64 t) ∧ w' = W) (fun e w' ⟨he, hw⟩ => by
    obtain ⟨k, hk, e2⟩ := HK.out
    exact ⟨k, hk, by rw [he, e2], hw⟩)
  clear HK r1 r2 t1 t2 hm hm2 hu0 hu
  go_enter Try.func17, Try.ntmps17
  go_wp2_with fail
  go_ret
  exact ⟨rfl, rfl⟩
/-- A step whose bytes are apart from the disk. -/
theorem play_free {w1 W : World} {db : Nat} {p : DM} {n T : Nat} {F : Nat → Prop} (hD : DK W w1.heap.size db p n T F) (hb : Below w1.heap.size w1 W) (hT : T ≤ 17179869184) (o : OpV) (ho : o.ok W) (hl : o.b.length ≤ 4096) (hm : ∀ ad, o.ba = some ad → 0 < o.b.length → ad.block < W.heap.size ∧ ¬ F ad.block) :
    Calls Try.prog 9 #[.pointer (some ⟨db, 0, none⟩), o.v] W fun e w' => e = .returned (.int .i64 ((stepM p n o.dp).2.2 : Nat)) ∧ ∃ F', DK w' w1.heap.size db (stepM p n o.dp).1 (stepM p n o.dp).2.1 (T + 4098) F' ∧ Mv F F' W w' ∧ Below w1.heap.size w1 w' :=
  (play_is hD hT o (by omega) ho hm).mono fun e w' ⟨he, F', hD', hM⟩ => ⟨he, F', hD'.mono (by omega), hM, Mv.below hb hb.size (fun k hk => (hD.lt k hk).1) hM⟩
theorem few_own (a : Option Addr) (c : Nat) (l : List OpV) (W : World) (h : OpsIn W a l) {w1 : World} (hok : OpsOk w1 w1.heap.size l) :
    Calls Try.prog 10 #[.slice a l.length c] W fun e w' => ∃ va vc, e = .returned (.slice va (fewL l).length vc) ∧ w'.ownsRow W.heap.size 33 10 (.slice va (fewL l).length vc) (fewL l).length (opsCells (fewL l)) ∧ Below W.heap.size W w' := by
  refine (few_is a c l W h (fun o ho => (hok o ho).2.1)).mono fun e w' ⟨v, he, ho, hb⟩ => ?_
  obtain ⟨va, vc, rfl⟩ := own_slice ho
  exact ⟨va, vc, he, ho, hb⟩
theorem few_kind {l : List OpV} {o : OpV} (h : o ∈ fewL l) : fewO o = true := by
  obtain ⟨o0, _, rfl, h2⟩ := few_mem h
  exact h2
theorem step_off (p : DM) (n : Nat) (o : Dp) : ((stepM p n o).1.off = p.off ∨ (stepM p n o).1.off = (strokeM p).off) ∧ (stepM p n o).1.room = p.room := by
  unfold stepM
  split
  · show ((appD p o.s o.l n).1.off = _ ∨ (appD p o.s o.l n).1.off = _) ∧ (appD p o.s o.l n).1.room = _
    unfold appD
    split
    · split
      · exact ⟨.inr rfl, rfl⟩
      · exact ⟨.inr rfl, rfl⟩
    · split
      · split
        · exact ⟨.inl rfl, rfl⟩
        · split
          · exact ⟨.inr rfl, rfl⟩
          · exact ⟨.inr rfl, rfl⟩
      · exact ⟨.inl rfl, rfl⟩
  · split
    · show ((cutD p o.s o.k).1.off = _ ∨ (cutD p o.s o.k).1.off = _) ∧ (cutD p o.s o.k).1.room = _
      unfold cutD
      split
      · split
        · exact ⟨.inl rfl, rfl⟩
        · exact ⟨.inr rfl, rfl⟩
      · exact ⟨.inl rfl, rfl⟩
    · split
      · show ((syncM p o.s).1.off = _ ∨ (syncM p o.s).1.off = _) ∧ (syncM p o.s).1.room = _
        unfold syncM
        split
        · split
          · exact ⟨.inr rfl, rfl⟩
          · exact ⟨.inr rfl, rfl⟩
        · exact ⟨.inl rfl, rfl⟩
      · split
        · show ((syncN p).1.off = _ ∨ (syncN p).1.off = _) ∧ (syncN p).1.room = _
          unfold syncN
          split
          · exact ⟨.inl rfl, rfl⟩
          · split
            · exact ⟨.inr rfl, rfl⟩
            · exact ⟨.inr rfl, rfl⟩
        · split
          · show ((renameD p o.s o.t).1.off = _ ∨ (renameD p o.s o.t).1.off = _) ∧ (renameD p o.s o.t).1.room = _
            unfold renameD
            split
            · split
              · show ((if _ then _ else _ : DM).off = _ ∨ (if _ then _ else _ : DM).off = _) ∧ (if _ then _ else _ : DM).room = _
                split
                · exact ⟨.inr rfl, rfl⟩
                · exact ⟨.inr rfl, rfl⟩
              · exact ⟨.inl rfl, rfl⟩
            · exact ⟨.inl rfl, rfl⟩
          · split
            · show ((removeD p o.s).1.off = _ ∨ (removeD p o.s).1.off = _) ∧ (removeD p o.s).1.room = _
              unfold removeD
              split
              · exact ⟨.inr rfl, rfl⟩
              · exact ⟨.inl rfl, rfl⟩
            · exact ⟨.inl rfl, rfl⟩
theorem step_calm {p : DM} {n T : Nat} {o : Dp} (h : Calm p) (hs : Same p (stepM p n o).1) (hI : Inv (stepM p n o).1 (stepM p n o).2.1 T) : Calm (stepM p n o).1 := by
  refine ⟨?_, by rw [hs.po]; exact h.2.1, hI.ah⟩
  rcases (step_off p n o).1 with e | e
  · rw [e]; exact h.1
  · rw [e, h.str]; exact h.1
def endO (g : Nat) : OpV := ⟨1, 0, 0, ⟨#[122]⟩, ⟨#[]⟩, some ⟨g, 0, none⟩, 3, [101, 110, 100], 0, 0, 0, none, 0, 0⟩
end Go.Proofs.Ytbnlgohaaadgeaa

/- DiskRoom: the bytes that are seen together stay within the room. -/
namespace Go.Proofs.Ytbnlgohaaadgeaa
open Go.RowKit Go.Maps Go.Sort Go.Joins
set_option maxRecDepth 100000
set_option maxRecDepth 100000

/-- Each file has one name at most. -/
def Uniq (D : DataW Nat) : Prop := (entsOf D).Pairwise (fun p q => p.2 ≠ q.2)
theorem allL_insert (sz : Nat → Nat) (x : Lit × DataW Nat) : ∀ es, allL sz (DataW.insert x es) = szD sz x.2 + allL sz es
  | [] => rfl
  | y :: r => by
    show allL sz (if x.1.before y.1 then x :: y :: r else y :: DataW.insert x r) = szD sz x.2 + (szD sz y.2 + allL sz r)
    split
    · rfl
    · show szD sz y.2 + allL sz (DataW.insert x r) = _
      rw [allL_insert sz x r]
      omega
theorem allL_filter (sz : Nat → Nat) (f : Lit × DataW Nat → Bool) : ∀ es, allL sz (es.filter f) ≤ allL sz es
  | [] => Nat.le_refl _
  | y :: r => by
    have ih := allL_filter sz f r
    rw [List.filter_cons]
    split
    · show szD sz y.2 + allL sz (r.filter f) ≤ szD sz y.2 + allL sz r
      omega
    · show allL sz (r.filter f) ≤ szD sz y.2 + allL sz r
      omega
theorem allL_strike (sz : Nat → Nat) (k : Lit) {q : Lit × DataW Nat} : ∀ es : List (Lit × DataW Nat), es.find? (fun p => p.1.sameKey k) = some q → szD sz q.2 + allL sz (es.filter fun p => !p.1.sameKey k) ≤ allL sz es
  | [], h => by simp at h
  | y :: r, h => by
    rw [List.find?_cons] at h
    rw [List.filter_cons]
    cases hk : y.1.sameKey k with
    | true =>
      rw [hk] at h
      have : y = q := by simpa using h
      subst this
      have := allL_filter sz (fun p => !p.1.sameKey k) r
      show szD sz y.2 + allL sz (if (!true) = true then _ else r.filter _) ≤ szD sz y.2 + allL sz r
      rw [if_neg (by simp)]
      omega
    | false =>
      rw [hk] at h
      have ih := allL_strike sz k r (by simpa using h)
      show szD sz q.2 + allL sz (if (!false) = true then y :: r.filter _ else _) ≤ szD sz y.2 + allL sz r
      rw [if_pos (by simp)]
      show szD sz q.2 + (szD sz y.2 + allL sz (r.filter _)) ≤ _
      omega
theorem allL_mono {f g : Nat → Nat} (h : ∀ i, f i ≤ g i) : ∀ es, allL f es ≤ allL g es
  | [] => Nat.le_refl _
  | y :: r => by
    have ih := allL_mono h r
    have : szD f y.2 ≤ szD g y.2 := by
      cases y.2 <;> first | exact Nat.le_refl _ | exact h _
    show szD f y.2 + allL f r ≤ szD g y.2 + allL g r
    omega
theorem allL_none {f : Nat → Nat} {i x : Nat} : ∀ es : List (Lit × DataW Nat), (∀ q ∈ es, q.2 ≠ .held i) → allL (put1 f i x) es = allL f es
  | [], _ => rfl
  | y :: r, h => by
    have ih := allL_none (f := f) (i := i) (x := x) r (fun q hq => h q (by simp [hq]))
    have : szD (put1 f i x) y.2 = szD f y.2 := by
      have := h y (by simp)
      cases hy : y.2 <;> try rfl
      rw [hy] at this
      rename_i j
      show put1 f i x j = f j
      exact put1_ne _ _ (fun e => this (by rw [e]))
    show szD (put1 f i x) y.2 + allL (put1 f i x) r = _
    rw [ih, this]
    rfl
/-- One file's number of bytes has turned. -/
theorem allL_bump {f : Nat → Nat} {i x : Nat} : ∀ es : List (Lit × DataW Nat), es.Pairwise (fun p q => p.2 ≠ q.2) → allL (put1 f i x) es ≤ allL f es + (x - f i)
  | [], _ => Nat.zero_le _
  | y :: r, h => by
    obtain ⟨h1, h2⟩ := List.pairwise_cons.1 h
    by_cases e : y.2 = .held i
    · have := allL_none (f := f) (i := i) (x := x) r (fun q hq e2 => h1 q hq (by rw [e, e2]))
      show szD (put1 f i x) y.2 + allL (put1 f i x) r ≤ szD f y.2 + allL f r + (x - f i)
      rw [this, e]
      show put1 f i x i + _ ≤ f i + _ + _
      rw [put1_at]
      omega
    · have ih := allL_bump (f := f) (i := i) (x := x) r h2
      have : szD (put1 f i x) y.2 = szD f y.2 := by
        cases hy : y.2 <;> try rfl
        rw [hy] at e
        rename_i j
        show put1 f i x j = f j
        exact put1_ne _ _ (fun e2 => e (by rw [e2]))
      show szD (put1 f i x) y.2 + allL (put1 f i x) r ≤ szD f y.2 + allL f r + (x - f i)
      rw [this]
      omega
def szs (p : DM) : Nat → Nat := fun b => (p.fm b).sz
theorem used_ents {p : DM} {n : Nat} (h : Ents n p.seen) : usedM p = allL (szs p) (entsOf p.seen) := by
  obtain ⟨es, e, _⟩ := h
  unfold usedM
  rw [e]
  rfl
theorem szs_put (p : DM) (i : Nat) (m : FM) : szs { p with fm := put1 p.fm i m } = put1 (szs p) i m.sz := by
  funext j
  show (put1 p.fm i m j).sz = put1 (fun b => (p.fm b).sz) i m.sz j
  by_cases e : j = i
  · rw [e, put1_at, put1_at]
  · rw [put1_ne _ _ e, put1_ne _ _ e]
/-- The room is kept. -/
structure Kept (p : DM) : Prop where
  uniq : Uniq p.seen
  used : usedM p ≤ p.room
theorem Kept.setF {p : DM} {n : Nat} (h : Kept p) (hE : Ents n p.seen) {i : Nat} {m : FM} (hm : usedM p + (m.sz - (p.fm i).sz) ≤ p.room) : Kept { p with fm := put1 p.fm i m } := by
  refine ⟨h.uniq, ?_⟩
  have e := used_ents (p := { p with fm := put1 p.fm i m }) hE
  rw [e, szs_put]
  have := allL_bump (f := szs p) (i := i) (x := m.sz) (entsOf p.seen) h.uniq
  rw [← used_ents hE] at this
  have e2 : szs p i = (p.fm i).sz := rfl
  rw [e2] at this
  exact Nat.le_trans this hm
theorem Uniq.filter {D : DataW Nat} {n : Nat} (h : Uniq D) (hE : Ents n D) (k : Lit) : Uniq (D.del k) := by
  obtain ⟨es, rfl, _⟩ := hE
  exact List.Pairwise.filter _ h
theorem mem_of_at {D : DataW Nat} {n : Nat} (hE : Ents n D) {k : Lit} {i : Nat} (h : D.atKey k .nil = .held i) : ∃ q, (entsOf D).find? (fun p => p.1.sameKey k) = some q ∧ q.2 = .held i := by
  obtain ⟨es, rfl, _⟩ := hE
  simp only [DataW.atKey] at h
  cases hf : es.find? (fun p => p.1.sameKey k) with
  | none => rw [hf] at h; cases h
  | some q => rw [hf] at h; exact ⟨q, hf, h⟩
theorem pw_insert {R : Lit × DataW Nat → Lit × DataW Nat → Prop} (hs : ∀ a b, R a b → R b a) (x : Lit × DataW Nat) : ∀ es, es.Pairwise R → (∀ y ∈ es, R x y) → (DataW.insert x es).Pairwise R
  | [], _, _ => by simp [DataW.insert]
  | y :: r, h, hx => by
    obtain ⟨h1, h2⟩ := List.pairwise_cons.1 h
    show (if x.1.before y.1 then x :: y :: r else y :: DataW.insert x r).Pairwise R
    split
    · exact List.pairwise_cons.2 ⟨hx, h⟩
    · refine List.pairwise_cons.2 ⟨fun z hz => ?_, pw_insert hs x r h2 (fun z hz => hx z (by simp [hz]))⟩
      rcases ChangeMaps.mem_insert_iff.1 hz with e | e
      · rw [e]; exact hs _ _ (hx y (by simp))
      · exact h1 z e
theorem sym_ne (a b : Lit × DataW Nat) (h : a.2 ≠ b.2) : b.2 ≠ a.2 := fun e => h e.symm
theorem pw_all : ∀ es : List (Lit × DataW Nat), es.Pairwise (fun p q => p.2 ≠ q.2) → ∀ a ∈ es, ∀ b ∈ es, a ≠ b → a.2 ≠ b.2
  | [], _, a, ha, _, _, _ => by simp at ha
  | y :: r, h, a, ha, b, hb, hab => by
    obtain ⟨h1, h2⟩ := List.pairwise_cons.1 h
    rcases List.mem_cons.1 ha with e | ha
    · rcases List.mem_cons.1 hb with e2 | hb
      · exact absurd (e.trans e2.symm) hab
      · rw [e]; exact h1 b hb
    · rcases List.mem_cons.1 hb with e2 | hb
      · rw [e2]; exact (h1 a ha).symm
      · exact pw_all r h2 a ha b hb hab
theorem find_held {es : List (Lit × DataW Nat)} (h : es.Pairwise (fun p q => p.2 ≠ q.2)) {k : Lit} {q : Lit × DataW Nat} {i : Nat} (hf : es.find? (fun p => p.1.sameKey k) = some q) (hq : q.2 = .held i) : ∀ y ∈ es.filter (fun p => !p.1.sameKey k), y.2 ≠ .held i := fun y hy e => by
  obtain ⟨hy1, hy2⟩ := List.mem_filter.1 hy
  have hq1 := List.mem_of_find?_eq_some hf
  have hq2 := List.find?_some hf
  by_cases hyq : y = q
  · rw [hyq] at hy2
    rw [hq2] at hy2
    simp at hy2
  · exact pw_all es h y hy1 q hq1 hyq (by rw [e, hq])
theorem Kept.move {p : DM} {n : Nat} (h : Kept p) (hE : Ents n p.seen) {s t : ByteArray} {i : Nat} (hs : p.seen.atKey (.string s.data.toList) .nil = .held i) (ht : okN t = true) : Kept (changeM p ⟨some i, s, t⟩) := by
  obtain ⟨q, hf, hq⟩ := mem_of_at hE hs
  have hE' := (hE.del (.string s.data.toList))
  have htz := (okN_size ht).1
  have eOn : (Mov.mk (some i) s t).on p.seen = (p.seen.del (.string s.data.toList)).put (.string t.data.toList) (.held i) := if_neg (by show ¬ t.size = 0; omega)
  have hu := used_ents hE
  obtain ⟨es, e, h3⟩ := hE
  have hU : es.Pairwise (fun p q => p.2 ≠ q.2) := by have := h.uniq; unfold Uniq at this; rw [e] at this; exact this
  rw [e] at hf hu
  have hfh := find_held hU hf hq
  refine ⟨?_, ?_⟩
  · show Uniq ((Mov.mk (some i) s t).on p.seen)
    rw [eOn, e]
    show (DataW.insert _ ((es.filter _).filter _)).Pairwise _
    refine pw_insert sym_ne _ _ ((hU.filter _).filter _) (fun y hy e2 => ?_)
    exact hfh y (List.mem_filter.1 hy).1 e2.symm
  · show usedM (changeM p ⟨some i, s, t⟩) ≤ p.room
    have e1 : usedM (changeM p ⟨some i, s, t⟩) = allL (szs p) (DataW.insert (.string t.data.toList, .held i) ((es.filter fun p => !p.1.sameKey (.string s.data.toList)).filter fun p => !p.1.sameKey (.string t.data.toList))) := by
      unfold usedM
      show (match (Mov.mk (some i) s t).on p.seen with | .map es => _ | _ => _) = _
      rw [eOn, e]
      rfl
    rw [e1, allL_insert]
    have a1 := allL_filter (szs p) (fun p => !p.1.sameKey (.string t.data.toList)) (es.filter fun p => !p.1.sameKey (.string s.data.toList))
    have a2 := allL_strike (szs p) (.string s.data.toList) es hf
    rw [hq] at a2
    have h5 := h.used
    rw [hu] at h5
    have e6 : entsOf (DataW.map es) = es := rfl
    rw [e6] at h5
    show szD (szs p) (.held i) + _ ≤ _
    omega
theorem Kept.drop {p : DM} {n : Nat} (h : Kept p) (hE : Ents n p.seen) (s : ByteArray) : Kept (changeM p ⟨none, s, ⟨#[]⟩⟩) := by
  have hu := used_ents hE
  refine ⟨h.uniq.filter hE _, ?_⟩
  have hE2 : Ents n (changeM p ⟨none, s, ⟨#[]⟩⟩).seen := hE.del _
  rw [used_ents hE2]
  obtain ⟨es, e, _⟩ := hE
  show allL (szs p) (entsOf (p.seen.del (.string s.data.toList))) ≤ p.room
  rw [e]
  have := allL_filter (szs p) (fun q => !q.1.sameKey (.string s.data.toList)) es
  have h5 := h.used
  rw [hu, e] at h5
  exact Nat.le_trans this h5
theorem Kept.fresh {p : DM} {n : Nat} (h : Kept p) (hE : Ents n p.seen) {s : ByteArray} (hok : okN s = true) {m : FM} (hm : m.sz + usedM p ≤ p.room) : Kept { changeM p ⟨some n, ⟨#[]⟩, s⟩ with fm := put1 p.fm n m } := by
  have htz := (okN_size hok).1
  have eOn : (Mov.mk (some n) ⟨#[]⟩ s).on p.seen = (p.seen.del (.string ([] : List UInt8))).put (.string s.data.toList) (.held n) := if_neg (by show ¬ s.size = 0; omega)
  have hu := used_ents hE
  obtain ⟨es, e, h3, hall⟩ := hE
  have hU : es.Pairwise (fun p q => p.2 ≠ q.2) := by have := h.uniq; unfold Uniq at this; rw [e] at this; exact this
  have hn : ∀ q ∈ es, q.2 ≠ .held n := fun q hq e2 => by
    obtain ⟨_, _, _, j, hj, h4⟩ := hall q hq
    rw [h4] at e2
    injection e2 with e2
    omega
  refine ⟨?_, ?_⟩
  · show Uniq ((Mov.mk (some n) ⟨#[]⟩ s).on p.seen)
    rw [eOn, e]
    show (DataW.insert _ ((es.filter _).filter _)).Pairwise _
    exact pw_insert sym_ne _ _ ((hU.filter _).filter _) (fun y hy e2 => hn y (List.mem_filter.1 (List.mem_filter.1 hy).1).1 e2.symm)
  · show usedM { changeM p ⟨some n, ⟨#[]⟩, s⟩ with fm := put1 p.fm n m } ≤ p.room
    have e1 : usedM { changeM p ⟨some n, ⟨#[]⟩, s⟩ with fm := put1 p.fm n m } = allL (put1 (szs p) n m.sz) (DataW.insert (.string s.data.toList, .held n) ((es.filter fun p => !p.1.sameKey (.string ([] : List UInt8))).filter fun p => !p.1.sameKey (.string s.data.toList))) := by
      rw [← szs_put]
      unfold usedM
      show (match (Mov.mk (some n) ⟨#[]⟩ s).on p.seen with | .map es => _ | _ => _) = _
      rw [eOn, e]
      rfl
    rw [e1, allL_insert, allL_none _ (fun q hq => hn q (List.mem_filter.1 (List.mem_filter.1 hq).1).1)]
    have a1 := allL_filter (szs p) (fun p => !p.1.sameKey (.string s.data.toList)) (es.filter fun p => !p.1.sameKey (.string ([] : List UInt8)))
    have a2 := allL_filter (szs p) (fun p => !p.1.sameKey (.string ([] : List UInt8))) es
    rw [hu, e] at hm
    have e6 : entsOf (DataW.map es) = es := rfl
    rw [e6] at hm
    show put1 (szs p) n m.sz n + _ ≤ _
    rw [put1_at]
    omega
/-- Every step keeps the room. -/
theorem Kept.stroke {p : DM} (h : Kept p) : Kept (strokeM p) := ⟨h.uniq, h.used⟩
theorem addM_sz (m : FM) (l : List Nat) : (addM m l).sz = m.sz + l.length := by
  unfold addM
  split
  · omega
  · rfl
theorem Kept.step {p : DM} {n T : Nat} (h : Kept p) (hI : Inv p n T) (o : Dp) : Kept (stepM p n o).1 := by
  have hE := hI.ents
  have hs := h.stroke
  unfold stepM
  split
  · show Kept (appD p o.s o.l n).1
    unfold appD
    obtain ⟨q, e, hf⟩ : ∃ q e, findM p.off p.seen o.s = (q, e) := ⟨_, _, rfl⟩
    rw [hf]
    cases q with
    | some i =>
      show Kept (if fullM (strokeM p) o.l.length = true then _ else _ : DM × Nat).1
      by_cases hF : fullM (strokeM p) o.l.length = true
      · rw [if_pos hF]; exact hs
      · rw [if_neg hF]
        have hF : fullM (strokeM p) o.l.length = false := by simpa using hF
        unfold fullM at hF
        rw [Bool.or_eq_false_iff] at hF
        have hr : o.l.length + usedM (strokeM p) ≤ (strokeM p).room := by simpa using hF.2
        refine hs.setF (p := strokeM p) hE ?_
        rw [addM_sz]
        show usedM (strokeM p) + ((p.fm i).sz + o.l.length - (p.fm i).sz) ≤ (strokeM p).room
        omega
    | none =>
      show Kept (if e = 42 then (if 64 ≤ size p.seen then (p, 41) else if fullM (strokeM p) o.l.length = true then _ else _) else _ : DM × Nat).1
      by_cases e42 : e = 42
      · rw [if_pos e42]
        subst e42
        by_cases h64 : 64 ≤ size p.seen
        · rw [if_pos h64]; exact h
        · rw [if_neg h64]
          by_cases hF : fullM (strokeM p) o.l.length = true
          · rw [if_pos hF]; exact hs
          · rw [if_neg hF]
            have hF : fullM (strokeM p) o.l.length = false := by simpa using hF
            unfold fullM at hF
            rw [Bool.or_eq_false_iff] at hF
            have hr : o.l.length + usedM (strokeM p) ≤ (strokeM p).room := by simpa using hF.2
            refine hs.fresh (p := strokeM p) hE (findM_none_ok hf).1 ?_
            rw [addM_sz]
            show 0 + o.l.length + usedM (strokeM p) ≤ (strokeM p).room
            omega
      · rw [if_neg e42]; exact h
  · split
    · show Kept (cutD p o.s o.k).1
      unfold cutD
      obtain ⟨q, e, hf⟩ : ∃ q e, findM p.off p.seen o.s = (q, e) := ⟨_, _, rfl⟩
      rw [hf]
      cases q with
      | none => exact h
      | some i =>
        show Kept (if o.k < 0 ∨ ((p.fm i).sz : Int) < o.k then _ else _ : DM × Nat).1
        by_cases hk : o.k < 0 ∨ ((p.fm i).sz : Int) < o.k
        · rw [if_pos hk]; exact h
        · rw [if_neg hk]
          refine hs.setF (p := strokeM p) hE ?_
          have hu := hs.used
          have : (cutM (p.fm i) o.k.toNat).sz ≤ (p.fm i).sz := by
            unfold cutM
            split
            · exact Nat.le_refl _
            · show o.k.toNat ≤ _
              omega
          show usedM (strokeM p) + ((cutM (p.fm i) o.k.toNat).sz - (p.fm i).sz) ≤ (strokeM p).room
          omega
    · split
      · show Kept (syncM p o.s).1
        unfold syncM
        obtain ⟨q, e, hf⟩ : ∃ q e, findM p.off p.seen o.s = (q, e) := ⟨_, _, rfl⟩
        rw [hf]
        cases q with
        | none => exact h
        | some i =>
          show Kept (if strokeE p = 0 then _ else _ : DM × Nat).1
          split
          · refine hs.setF (p := strokeM p) hE ?_
            have hu := hs.used
            show usedM (strokeM p) + ((p.fm i).sz - (p.fm i).sz) ≤ (strokeM p).room
            omega
          · exact hs
      · split
        · show Kept (syncN p).1
          unfold syncN
          split
          · exact h
          · split
            · exact ⟨h.uniq, h.used⟩
            · exact hs
        · split
          · show Kept (renameD p o.s o.t).1
            unfold renameD
            obtain ⟨q, e, hf⟩ : ∃ q e, findM p.off p.seen o.s = (q, e) := ⟨_, _, rfl⟩
            rw [hf]
            cases q with
            | none => exact h
            | some i =>
              show Kept (if okN o.t = true then _ else _ : DM × Nat).1
              by_cases ht : okN o.t = true
              · rw [if_pos ht]
                show Kept (if o.s.toList = o.t.toList then _ else _)
                split
                · exact hs
                · exact hs.move (p := strokeM p) hE (findM_ok hf).2.2 ht
              · rw [if_neg ht]; exact h
          · split
            · show Kept (removeD p o.s).1
              unfold removeD
              obtain ⟨q, e, hf⟩ : ∃ q e, findM p.off p.seen o.s = (q, e) := ⟨_, _, rfl⟩
              rw [hf]
              cases q with
              | none => exact h
              | some i => exact hs.drop (p := strokeM p) hE o.s
            · exact h
end Go.Proofs.Ytbnlgohaaadgeaa

/- DiskRoom: sums, what is found under a name, what an Append adds; find. -/
namespace Go.Proofs.Ytbnlgohaaadgeaa
open Go.RowKit Go.Maps Go.Sort Go.Joins
set_option maxRecDepth 100000
set_option maxRecDepth 100000

theorem step_same (p : DM) (n : Nat) (o : Dp) : Same p (stepM p n o).1 := by
  unfold stepM
  split
  · show Same p (appD p o.s o.l n).1
    unfold appD
    split
    · split
      · exact ⟨rfl, rfl, rfl, rfl⟩
      · exact ⟨rfl, rfl, rfl, rfl⟩
    · split
      · split
        · exact ⟨rfl, rfl, rfl, rfl⟩
        · split
          · exact ⟨rfl, rfl, rfl, rfl⟩
          · exact ⟨rfl, rfl, rfl, rfl⟩
      · exact ⟨rfl, rfl, rfl, rfl⟩
  · split
    · show Same p (cutD p o.s o.k).1
      unfold cutD
      split
      · split
        · exact ⟨rfl, rfl, rfl, rfl⟩
        · exact ⟨rfl, rfl, rfl, rfl⟩
      · exact ⟨rfl, rfl, rfl, rfl⟩
    · split
      · show Same p (syncM p o.s).1
        unfold syncM
        split
        · split
          · exact ⟨rfl, rfl, rfl, rfl⟩
          · exact ⟨rfl, rfl, rfl, rfl⟩
        · exact ⟨rfl, rfl, rfl, rfl⟩
      · split
        · show Same p (syncN p).1
          unfold syncN
          split
          · exact ⟨rfl, rfl, rfl, rfl⟩
          · split
            · exact ⟨rfl, rfl, rfl, rfl⟩
            · exact ⟨rfl, rfl, rfl, rfl⟩
        · split
          · show Same p (renameD p o.s o.t).1
            unfold renameD
            split
            · split
              · show Same p (if _ then _ else _ : DM)
                split
                · exact ⟨rfl, rfl, rfl, rfl⟩
                · exact ⟨rfl, rfl, rfl, rfl⟩
              · exact ⟨rfl, rfl, rfl, rfl⟩
            · exact ⟨rfl, rfl, rfl, rfl⟩
          · split
            · show Same p (removeD p o.s).1
              unfold removeD
              split
              · exact ⟨rfl, rfl, rfl, rfl⟩
              · exact ⟨rfl, rfl, rfl, rfl⟩
            · exact ⟨rfl, rfl, rfl, rfl⟩

theorem take_sum (sz : Nat → Nat) {es : List (Lit × DataW Nat)} {k : Nat} {q : Lit × DataW Nat} (h : es[k]? = some q) : allL sz (es.take (k + 1)) = allL sz (es.take k) + szD sz q.2 := by
  rw [List.take_add_one, h]
  have app : ∀ a b : List (Lit × DataW Nat), allL sz (a ++ b) = allL sz a + allL sz b := by
    intro a b
    induction a with
    | nil => simp [allL, sumE]
    | cons x a ih =>
      show szD sz x.2 + allL sz (a ++ b) = szD sz x.2 + allL sz a + allL sz b
      rw [ih]; omega
  rw [app]
  show _ + (szD sz q.2 + 0) = _
  omega
theorem used_img {p : DM} {n T : Nat} (h : Inv p n T) : sumL (fun k => (dtI (seenI p) k).length) (seenI p).length = usedM p := by
  have hl : (seenI p).length = (entsOf p.seen).length := by unfold seenI; rw [List.length_map]
  have key : ∀ k, k ≤ (entsOf p.seen).length → sumL (fun k => (dtI (seenI p) k).length) k = allL (szs p) ((entsOf p.seen).take k) := fun k => by
    induction k with
    | zero => intro _; rfl
    | succ k ih =>
      intro hk
      obtain ⟨q, hq⟩ : ∃ q, (entsOf p.seen)[k]? = some q := ⟨_, List.getElem?_eq_getElem (by omega)⟩
      rw [take_sum (szs p) hq, ← ih (by omega)]
      show sumL (fun k => (dtI (seenI p) k).length) k + (dtI (seenI p) k).length = _
      rw [(nmI_at (seenI_at hq)).2]
      congr 1
      obtain ⟨es, e, _, hall⟩ := h.ents
      have hm := List.mem_of_getElem? hq
      rw [e] at hm
      obtain ⟨_, _, _, i, hi, h3⟩ := hall q hm
      rw [h3]
      show (p.fm i).all.length = (p.fm i).sz
      exact (h.fit i hi).2.1.symm
  rw [used_ents h.ents, hl, key _ (Nat.le_refl _), List.take_length]
/-- What is found under a name. -/
def idxI (I : Image) (s : List UInt8) : Option (List Nat) := (I.find? (fun q => q.1 == s)).map (·.2)
theorem idx_seen {p : DM} {n T : Nat} (h : Inv p n T) (hoff : p.off = false) {s : ByteArray} (hs : okN s = true) : idxI (seenI p) s.data.toList = (findM p.off p.seen s).1.map (fun i => (p.fm i).all) := by
  obtain ⟨es, e, _, hall⟩ := h.ents
  have hf : findM p.off p.seen s = (match es.find? (fun p => p.1.sameKey (.string s.data.toList)) with | some q => (match q.2 with | .held b => (some b, 0) | _ => (none, 42)) | none => (none, 42)) := by
    unfold findM
    rw [hoff, hs, e]
    simp only [DataW.atKey, Bool.false_eq_true, if_false, if_true]
    cases es.find? (fun p => p.1.sameKey (.string s.data.toList)) <;> rfl
  rw [hf]
  unfold idxI seenI
  rw [e]
  show (List.find? _ (es.map _)).map _ = _
  rw [List.find?_map]
  have hcong : ∀ l : List (Lit × DataW Nat), (∀ q ∈ l, ∃ t : ByteArray, q.1 = .string t.data.toList) → l.find? ((fun q : List UInt8 × List Nat => q.1 == s.data.toList) ∘ fun q => (keyB q.1, (fileOf p.fm q.2).all)) = l.find? (fun p => p.1.sameKey (.string s.data.toList)) := fun l hl => by
    induction l with
    | nil => rfl
    | cons y r ih =>
      obtain ⟨t, ht⟩ := hl y (by simp)
      have : ((fun q : List UInt8 × List Nat => q.1 == s.data.toList) ∘ fun q => (keyB q.1, (fileOf p.fm q.2).all)) y = y.1.sameKey (.string s.data.toList) := by
        show (keyB y.1 == s.data.toList) = _
        rw [ht]
        rfl
      rw [List.find?_cons, List.find?_cons, this, ih (fun q hq => hl q (by simp [hq]))]
  rw [hcong es (fun q hq => by obtain ⟨t, _, h2, _⟩ := hall q hq; exact ⟨t, h2⟩)]
  cases hq : es.find? (fun p => p.1.sameKey (.string s.data.toList)) with
  | none => rfl
  | some q =>
    obtain ⟨_, _, _, i, _, h3⟩ := hall q (List.mem_of_find?_eq_some hq)
    obtain ⟨k, v⟩ := q
    have h3 : v = .held i := h3
    subst h3
    rfl
theorem addM_all (m : FM) (l : List Nat) : (addM m l).all = m.all ++ l := by
  unfold addM FM.all
  split
  · rename_i e
    rw [List.eq_nil_of_length_eq_zero e, List.append_nil]
  · rename_i e
    exact addC_run m.chs l e m.safe
/-- What an Append that is not refused adds; and that it is refused just where there is no room. -/
theorem app_adds {p : DM} {n T : Nat} (h : Inv p n T) (hc : Calm p) (hpf : p.pf = 0) (s : ByteArray) (l : List Nat) :
    ((appD p s l n).2 = 0 → okN s = true ∧ l.length + usedM p ≤ p.room ∧ (findM (appD p s l n).1.off (appD p s l n).1.seen s).1.map (fun i => ((appD p s l n).1.fm i).all) = some ((((findM p.off p.seen s).1.map (fun i => (p.fm i).all)).getD []) ++ l)) ∧ ((appD p s l n).2 = 44 → ¬ (l.length + usedM p ≤ p.room) ∧ (appD p s l n).1 = strokeM p) := by
  have ea := hc.err
  have hF0 : fullB (p.st + 1) p.ah p.pf p.pt = false := by unfold fullB; rw [hpf]; rfl
  have hfull : fullM (strokeM p) l.length = !decide (l.length + usedM p ≤ p.room) := by
    unfold fullM
    show (fullB (p.st + 1) p.ah p.pf p.pt || !decide (l.length + usedM p ≤ p.room)) = _
    rw [hF0]
    rfl
  have hoffS : (strokeM p).off = false := by rw [hc.str]; exact hc.1
  unfold appD
  rw [hfull, ea]
  obtain ⟨q, e, hf⟩ : ∃ q e, findM p.off p.seen s = (q, e) := ⟨_, _, rfl⟩
  rw [hf]
  cases q with
  | some i =>
    by_cases hr : l.length + usedM p ≤ p.room
    · simp only [decide_eq_true hr, Bool.not_true, Bool.false_eq_true, if_false]
      refine ⟨fun _ => ⟨(findM_ok hf).1, hr, ?_⟩, (fun q => by cases q)⟩
      have hf2 : findM (strokeM p).off p.seen s = (some i, e) := by rw [hoffS, ← hc.1]; exact hf
      show (findM (strokeM p).off p.seen s).1.map (fun j => (put1 p.fm i (addM (p.fm i) l) j).all) = _
      rw [hf2]
      show some ((put1 p.fm i (addM (p.fm i) l) i).all) = some ((p.fm i).all ++ l)
      rw [put1_at, addM_all]
    · simp only [decide_eq_false hr, Bool.not_false, if_true]
      exact ⟨(fun q => by cases q), fun _ => ⟨hr, trivial⟩⟩
  | none =>
    by_cases e42 : e = 42
    · subst e42
      simp only [if_true]
      by_cases h64 : 64 ≤ size p.seen
      · simp only [if_pos h64]
        exact ⟨(fun q => by cases q), (fun q => by cases q)⟩
      · simp only [if_neg h64]
        by_cases hr : l.length + usedM p ≤ p.room
        · simp only [decide_eq_true hr, Bool.not_true, Bool.false_eq_true, if_false]
          have hok := (findM_none_ok hf).1
          refine ⟨fun _ => ⟨hok, hr, ?_⟩, (fun q => by cases q)⟩
          have htz := (okN_size hok).1
          have eOn : (Mov.mk (some n) ⟨#[]⟩ s).on p.seen = (p.seen.del (.string ([] : List UInt8))).put (.string s.data.toList) (.held n) := if_neg (by show ¬ s.size = 0; omega)
          have hf2 : findM (strokeM p).off ((Mov.mk (some n) ⟨#[]⟩ s).on p.seen) s = (some n, 0) := by
            unfold findM
            rw [hoffS, hok, eOn, atKey_put_same (h.ents.del _).tidy.isMap (litS _)]
            rfl
          show (findM (strokeM p).off ((Mov.mk (some n) ⟨#[]⟩ s).on p.seen) s).1.map (fun j => (put1 p.fm n (addM m0 l) j).all) = _
          rw [hf2]
          show some ((put1 p.fm n (addM m0 l) n).all) = some ([] ++ l)
          rw [put1_at, addM_all]
          rfl
        · simp only [decide_eq_false hr, Bool.not_false, if_true]
          exact ⟨(fun q => by cases q), fun _ => ⟨hr, trivial⟩⟩
    · simp only [if_neg e42]
      have := findM_calm hc.1 hf
      exact ⟨(fun q => by have q : e = 0 := q; omega), (fun q => by have q : e = 44 := q; omega)⟩

theorem idx_drop {I : Image} {i : Nat} {s : List UInt8} {x : List UInt8 × List Nat} (h : I[i]? = some x) : idxI (I.drop i) s = if x.1 == s then some x.2 else idxI (I.drop (i + 1)) s := by
  have hlt := (List.getElem?_eq_some_iff.1 h).1
  have e : I.drop i = x :: I.drop (i + 1) := by
    rw [List.drop_eq_getElem_cons hlt]
    congr 1
    have := List.getElem?_eq_getElem hlt
    rw [h] at this
    exact (Option.some.inj this).symm
  unfold idxI
  rw [e, List.find?_cons]
  cases hx : x.1 == s
  · rfl
  · rfl
set_option maxHeartbeats 1600000 in
theorem find_is (a : Option Addr) (c : Nat) (I : Image) (w : World) (hI : ImgI w a I) (hn : I.length ≤ 1000) (s : ByteArray) :
    Calls Try.prog 20 #[.slice a I.length c, .string s] w fun e w' => (∃ da dn dc bb, e = .returned (.tuple #[.slice da dn dc, .bool bb]) ∧ (match idxI I s.data.toList with | some l => dn = l.length ∧ bb = true ∧ BL w da l | none => da = none ∧ dn = 0 ∧ dc = 0 ∧ bb = false)) ∧ w' = w := by
  obtain ⟨S, HS⟩ : ∃ S : Value → Prop, Hid (∀ v, S v ↔ ∃ da dn dc bb, v = .tuple #[.slice da dn dc, .bool bb] ∧ (match idxI I s.data.toList with | some l => dn = l.length ∧ bb = true ∧ BL w da l | none => da = none ∧ dn = 0 ∧ dc = 0 ∧ bb = false)) := ⟨_, fun _ => Iff.rfl⟩
  refine Calls.mono (?_ : Calls _ _ _ _ fun e w' => ∃ v, e = .returned v ∧ S v ∧ w' = w) (fun e w' ⟨v, he, hs, hw⟩ => by
    obtain ⟨da, dn, dc, bb, ev, hm⟩ := (HS.out v).1 hs
    exact ⟨⟨da, dn, dc, bb, by rw [he, ev], hm⟩, hw⟩)
  have HI : Hid (ImgI w a I) := hI
  obtain ⟨N, HN⟩ : ∃ N, Hid (I.length = N) := ⟨_, rfl⟩
  rw [HN.out] at hn ⊢
  clear hI
  go_enter Try.func20, Try.ntmps20
  go_wp2_with fail
  go_loopg [6] N (fun q s6 wx => ∃ (i : Nat), i ≤ N ∧ q = N - i ∧ s6 = .int .i64 i ∧ w = wx ∧ idxI (I.drop i) s.data.toList = idxI I s.data.toList)
  case atStart => exact ⟨0, Nat.zero_le _, rfl, rfl, rfl, rfl⟩
  case round =>
    obtain ⟨i, hi, rfl, rfl, rfl, hix⟩ := hrel
    by_cases hlt : i < N
    · have hz : (i : Int) < (N : Int) := by omega
      have hwi : IntKind.i64.wrap ((i : Int) + 1) = (i : Int) + 1 := by rw [IntKind.wrap_i64]; omega
      obtain ⟨x, hx⟩ : ∃ x, I[i]? = some x := ⟨_, List.getElem?_eq_getElem (by have := HN.out; omega)⟩
      obtain ⟨xs, xl⟩ := x
      obtain ⟨b, o, rfl, h1, da, dc, h2, h3⟩ := HI.out.at (i := i) (by rw [HN.out]; exact hlt)
      obtain ⟨e1, e2⟩ := nmI_at hx
      rw [e1] at h1
      rw [e2] at h2 h3
      have hd := idx_drop (s := s.data.toList) hx
      cases hq : xs == s.data.toList with
      | true =>
        have hd2 : idxI I s.data.toList = some xl := by rw [← hix, hd]; show (if (xs == s.data.toList) = true then _ else _) = _; rw [hq]; rfl
        have HSV : Hid (S (.tuple #[.slice da xl.length dc, .bool true])) := (HS.out _).2 ⟨da, _, dc, true, rfl, by rw [hd2]; exact ⟨rfl, rfl, h3⟩⟩
        have hse : ((⟨xs.toArray⟩ : ByteArray).toList == s.toList) = true := by rw [toList_data, toList_data]; simpa using hq
        clear HS hd hd2 hix h3 e1 e2 hx HI hq
        generalize (⟨xs.toArray⟩ : ByteArray) = nm at *
        generalize xl.length = n at *
        go_wp2_with fail
        go_ret2
        exact ⟨_, rfl, HSV.out, rfl⟩
      | false =>
        have hd2 : idxI (I.drop (i + 1)) s.data.toList = idxI I s.data.toList := by rw [← hix, hd]; show _ = (if (xs == s.data.toList) = true then _ else _); rw [hq]; rfl
        have HD2 : Hid (idxI (I.drop (i + 1)) s.data.toList = idxI I s.data.toList) := hd2
        have hse : ((⟨xs.toArray⟩ : ByteArray).toList == s.toList) = false := by rw [toList_data, toList_data]; simpa using hq
        clear HS hd hd2 hix h3 e1 e2 hx HI hq h2
        generalize (⟨xs.toArray⟩ : ByteArray) = nm at *
        go_wp2_with fail
        go_roundg (N - (i + 1))
        case measure => go_light; omega
        case rel => go_light; exact ⟨i + 1, by omega, rfl, by simp, rfl, HD2.out⟩
    · obtain rfl : i = N := by omega
      have hz : ¬ ((i : Int) < (i : Int)) := by omega
      have hd2 : idxI I s.data.toList = none := by
        rw [← hix, List.drop_eq_nil_of_le (by have := HN.out; omega)]
        rfl
      have HSV : Hid (S (.tuple #[.slice none 0 0, .bool false])) := (HS.out _).2 ⟨none, 0, 0, false, rfl, by rw [hd2]; exact ⟨rfl, rfl, rfl, rfl⟩⟩
      clear HS hd2 hix HI
      go_wp2_with fail
      go_ret2
      exact ⟨_, rfl, HSV.out, rfl⟩
end Go.Proofs.Ytbnlgohaaadgeaa

/- DiskRoom: a copy with bytes behind it, compared. -/
namespace Go.Proofs.Ytbnlgohaaadgeaa
open Go.RowKit Go.Maps Go.Sort Go.Joins
set_option maxRecDepth 100000
set_option maxRecDepth 100000

theorem cpy_is {w3 W : World} (a : Option Addr) (c : Nat) (l : List Nat) (hl : l.length ≤ 2097152) (h : BL w3 a l) (hb : Below w3.heap.size w3 W) :
    Calls Try.prog 22 #[.slice a l.length c] W fun e w' => ∃ g, e = .returned (.slice (some ⟨g, 0, none⟩) l.length l.length) ∧ OwnL w' w3.heap.size (.slice (some ⟨g, 0, none⟩) l.length l.length) l ∧ Below w3.heap.size w3 w' := by
  refine (copy_any a l.length c (fun j => l.getD j 0) W (by omega) (Byt.on h hb)).mono fun e w' ⟨he, hs, _, hr⟩ => ⟨_, he, ?_, hb.trans ((below_of_since hs).mono hb.size)⟩
  exact ownL_row hr hb.size (by omega)

theorem appd_is {w3 W : World} {v : Value} {l m : List Nat} (ho : OwnL W w3.heap.size v l) (hb : Below w3.heap.size w3 W) (a : Option Addr) (c : Nat) (hm : BL w3 a m) (ha : a = none → m.length = 0 ∧ c = 0) (hl : l.length + m.length ≤ 4194304) :
    ∃ va vc w', (Builtin.append_ #[29, 29] 29 #[v, .slice a m.length c]).run Try.prog W = .ok (.slice va (l.length + m.length) vc) w' ∧ BL w' va (l ++ m) ∧ Below w3.heap.size w3 w' := by
  obtain ⟨v', w', hr, h1, h2, _⟩ := app_list W w3.heap.size v l ho a c m (Byt.on hm hb) ha (by omega) hb.size 29
  rw [app_types] at hr
  obtain ⟨va, vc, e, _, hbl, _⟩ := h1.bl
  subst e
  rw [List.length_append] at hr
  exact ⟨va, vc, w', hr, hbl, grown_own hb ho h2⟩

/-- append in a region that draws, under a guard that is met. -/
theorem step_appsG {P : Program} {w w' : World} {ops : Array Oper} {o : Oper} {a : Act} {K : Act → World → Prop} {Q : Exit → Act → World → Prop} {E : Prop} (hw : Region.wanted o (yielded ops a.tmps) = true) (s x : Operand) (t : TypeId)
    (ho : o.op = .call { callee := .builtin .append, args := #[s, x], argTypes := #[t, t] }) (v u v' : Value) (hs : a.eval s = v) (hx : a.eval x = u)
    (hrun : (Builtin.append_ #[t, t] o.type #[v, u]).run P w = .ok v' w') (h : K (a.put o.dst v') w') : if Region.wanted o (yielded ops a.tmps) = true then Oper.wp P o a w K Q else E := by
  rw [if_pos hw]
  unfold Oper.wp
  simp [execOp, ho, resolve, invoke, builtin, hs, hx, hrun, Result.andThen]
  exact h

theorem eql_is {w3 W : World} (l : List Nat) (a b : Option Addr) (c d : Nat) (ha : BL W a l) (hb : BL W b l) (hl : l.length ≤ 4194304) (hB : Below w3.heap.size w3 W) :
    Calls Try.prog 21 #[.slice a l.length c, .slice b l.length d] W fun e w' => e = .returned (.bool true) ∧ Below w3.heap.size w3 w' :=
  (eq_same a b l.length c d (fun j => l.getD j 0) W ha hb (by omega)).mono fun e w' ⟨he, m, hm⟩ => ⟨he, by rw [hm]; exact below_drewN hB m⟩

/-- find, where the name is known to be there, or its bytes none. -/
theorem find_some {a : Option Addr} {c : Nat} {I : Image} {w : World} (hI : ImgI w a I) (hn : I.length ≤ 1000) {s : ByteArray} {l : List Nat} (h : idxI I s.data.toList = some l) :
    Calls Try.prog 20 #[.slice a I.length c, .string s] w fun e w' => (∃ da dc, e = .returned (.tuple #[.slice da l.length dc, .bool true]) ∧ BL w da l) ∧ w' = w :=
  (find_is a c I w hI hn s).mono fun e w' ⟨⟨da, dn, dc, bb, he, hm⟩, hw⟩ => by
    rw [h] at hm
    obtain ⟨rfl, rfl, hbl⟩ := hm
    exact ⟨⟨da, dc, he, hbl⟩, hw⟩
theorem find_getD {a : Option Addr} {c : Nat} {I : Image} {w : World} (hI : ImgI w a I) (hn : I.length ≤ 1000) (s : ByteArray) :
    Calls Try.prog 20 #[.slice a I.length c, .string s] w fun e w' => (∃ da dc bb, e = .returned (.tuple #[.slice da ((idxI I s.data.toList).getD []).length dc, .bool bb]) ∧ BL w da ((idxI I s.data.toList).getD [])) ∧ w' = w :=
  (find_is a c I w hI hn s).mono fun e w' ⟨⟨da, dn, dc, bb, he, hm⟩, hw⟩ => by
    cases hx : idxI I s.data.toList with
    | none =>
      rw [hx] at hm
      obtain ⟨rfl, rfl, rfl, rfl⟩ := hm
      exact ⟨⟨none, 0, false, he, fun j hj => absurd hj (Nat.not_lt_zero _)⟩, hw⟩
    | some l =>
      rw [hx] at hm
      obtain ⟨rfl, rfl, hbl⟩ := hm
      exact ⟨⟨da, dc, true, he, hbl⟩, hw⟩
theorem idx_dt {I : Image} {s : List UInt8} {l : List Nat} (h : idxI I s = some l) : ∃ j, j < I.length ∧ dtI I j = l := by
  unfold idxI at h
  cases hf : I.find? (fun q => q.1 == s) with
  | none => rw [hf] at h; cases h
  | some q =>
    rw [hf] at h
    have e : q.2 = l := by simpa using h
    obtain ⟨j, hj⟩ := List.mem_iff_getElem?.1 (List.mem_of_find?_eq_some hf)
    refine ⟨j, (List.getElem?_eq_some_iff.1 hj).1, ?_⟩
    rw [← e]
    exact (nmI_at (s := q.1) (l := q.2) hj).2
/-- An Append as a step. -/
theorem step_app {p : DM} {n : Nat} {o : OpV} (hk : o.kind = 1) : stepM p n o.dp = ((appD p o.name o.b n).1, appN p n o.name o.b, (appD p o.name o.b n).2) := by
  unfold stepM
  rw [if_pos (show o.dp.kind = 1 from hk)]
  rfl
end Go.Proofs.Ytbnlgohaaadgeaa
