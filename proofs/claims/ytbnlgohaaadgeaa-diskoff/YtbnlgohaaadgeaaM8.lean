/- Own texts, joined: H0, H1, PF, H2, H3, H4, H5, H6. -/
import Derived.Test.YtbnlgohaaadgeaaM7
import Derived.Test.YtbnlgohaaadgeaaRows
import Derived.ProofKit
import Derived.OpenShut
import Derived.Lib.SmallJoins
import Derived.Deep.Slices

/- Stage 4's laws: what their walks share. -/
namespace Go.Proofs.Ytbnlgohaaadgeaa
open Go.RowKit Go.Maps Go.Sort Go.Joins
set_option maxRecDepth 100000
set_option maxRecDepth 100000

/-- Steps, one after the other. -/
def runD : DM × Nat → List Dp → DM × Nat
  | s, [] => s
  | s, o :: os => runD ((stepM s.1 s.2 o).1, (stepM s.1 s.2 o).2.1) os
theorem runD_snoc : ∀ (os : List Dp) (s : DM × Nat) (o : Dp), runD s (os ++ [o]) = ((stepM (runD s os).1 (runD s os).2 o).1, (stepM (runD s os).1 (runD s os).2 o).2.1)
  | [], _, _ => rfl
  | _ :: os, _, o => runD_snoc os _ o
theorem runD_take {os : List Dp} {i : Nat} {o : Dp} (h : os[i]? = some o) (s : DM × Nat) : runD s (os.take (i + 1)) = ((stepM (runD s (os.take i)).1 (runD s (os.take i)).2 o).1, (stepM (runD s (os.take i)).1 (runD s (os.take i)).2 o).2.1) := by
  rw [List.take_add_one, h]
  exact runD_snoc _ s o
def dps (l : List OpV) : List Dp := l.map OpV.dp
theorem dps_at {l : List OpV} {i : Nat} {o : OpV} (h : l[i]? = some o) : (dps l)[i]? = some o.dp := by unfold dps; rw [List.getElem?_map, h]; rfl
theorem few_len (l : List OpV) : (fewL l).length ≤ 200 := by
  unfold fewL
  rw [List.length_map]
  exact Nat.le_trans (List.length_filter_le _ _) (by rw [List.length_take]; omega)
theorem few_mem {l : List OpV} {o : OpV} (h : o ∈ fewL l) : ∃ o0, o0 ∈ l ∧ o = cutO o0 ∧ fewO o0 = true := by
  unfold fewL at h
  obtain ⟨o0, h0, rfl⟩ := List.mem_map.1 h
  exact ⟨o0, List.mem_of_mem_take (List.mem_filter.1 h0).1, rfl, (List.mem_filter.1 h0).2⟩
/-- Steps that were handed in: their bytes lie in memory that is older than m. -/
def OpsOk (w : World) (m : Nat) (l : List OpV) : Prop := ∀ o ∈ l, o.ok w ∧ o.b.length ≤ o.bc ∧ ∀ ad, o.ba = some ad → 0 < o.b.length → ad.block < m
theorem OpsOk.on {w w' : World} {l : List OpV} (h : OpsOk w w.heap.size l) (hb : Below w.heap.size w w') : OpsOk w' w.heap.size l := fun o ho => by
  obtain ⟨⟨h1, h2⟩, h3, h4⟩ := h o ho
  exact ⟨⟨Byt.on h1 hb, h2⟩, h3, h4⟩
theorem OpsOk.few {w : World} {m : Nat} {l : List OpV} (h : OpsOk w m l) {o : OpV} (ho : o ∈ fewL l) : o.ok w ∧ o.b.length ≤ 4096 ∧ ∀ ad, o.ba = some ad → 0 < o.b.length → ad.block < m := by
  obtain ⟨o0, h0, rfl, _⟩ := few_mem ho
  obtain ⟨⟨h1, h2⟩, h3, h4⟩ := h o0 h0
  refine ⟨⟨fun j hj => ?_, fun e => ?_⟩, ?_, fun ad e h0 => h4 ad e (by have h0 : 0 < (o0.b.take 4096).length := h0; rw [List.length_take] at h0; omega)⟩
  · have hj : j < (o0.b.take 4096).length := hj
    rw [List.length_take] at hj
    obtain ⟨b, off, e, hc⟩ := h1 j (by omega)
    refine ⟨b, off, e, ?_⟩
    rw [hc]
    show some (Value.int .u8 ((o0.b.getD j 0 : Nat) : Int)) = some (Value.int .u8 (((o0.b.take 4096).getD j 0 : Nat) : Int))
    have : (o0.b.take 4096).getD j 0 = o0.b.getD j 0 := by simp only [List.getD, List.getElem?_take]; rw [if_pos (by omega)]
    rw [this]
  · obtain ⟨q1, q2⟩ := h2 e
    refine ⟨?_, q2⟩
    show (o0.b.take 4096).length = 0
    rw [List.length_take]; omega
  · show (o0.b.take 4096).length ≤ 4096
    rw [List.length_take]; omega
theorem own_opsIn {w : World} {K c n : Nat} {a : Option Addr} {l : List OpV} (h : w.ownsRow K 33 10 (.slice a n c) l.length (opsCells l)) : Lies K w.heap.size w (fun W => OpsIn W a l) := by
  refine ⟨Nat.le_refl _, fun W hW i o ho => ?_⟩
  have hi := (List.getElem?_eq_some_iff.1 ho).1
  rcases h.2 with ⟨e, h0⟩ | ⟨g, cap, cur, e, hbase, _⟩
  · omega
  · have ea : a = some ⟨g, 0, none⟩ := by injection e
    have hglt : g < w.heap.size := (rows_lt h g (by rw [e]; rfl)).2
    refine ⟨g, 0, ea, fun j v hj => ?_⟩
    have hjl : j < 10 := (List.getElem?_eq_some_iff.1 hj).1
    have h' := h
    rw [e] at h'
    have hcell : w.cell? ⟨g, i * 10 + j, none⟩ = some v := by
      rw [World.ownsRow.cellAt h' (i * 10 + j) (by omega)]
      exact opsCells_at l i o j v ho hj
    rw [Nat.zero_add, World.cell?_of_block (a := ⟨g, i * 10 + j, none⟩) (hW g hbase hglt)]
    exact hcell
theorem own_slice {w : World} {K n s : Nat} {e : TypeId} {v : Value} {xs : List Value} (h : w.ownsRow K e s v n xs) : ∃ a c, v = .slice a n c := by
  rcases h.2 with ⟨e, h0⟩ | ⟨g, c, cur, e, _⟩
  · exact ⟨none, 0, by rw [e, h0]⟩
  · exact ⟨_, c, e⟩
theorem image_is {a b : Option Addr} {I : Image} {w : World} (c d : Nat) (ha : ImgI w a I) (hb : ImgI w b I) (hn : I.length ≤ 1000) (hd : ∀ i, i < I.length → (dtI I i).length ≤ 1048576) :
    Calls Try.prog 16 #[.slice a I.length c, .slice b I.length d] w fun e w' => e = .returned (.bool true) ∧ ∃ m, w' = w.drewN m :=
  image_same a b I.length c d (nmI I) _ _ w ha hb (by omega) hd

/-! What a crash leaves may be loaded. -/
theorem crashI_len {p : DM} {n T : Nat} (h : Inv p n T) (ps : List Int) : (crashI p ps).length = (entsOf (leftM p ps)).length ∧ (crashI p ps).length ≤ 64 := by
  obtain ⟨hE, hs⟩ := h.left ps
  have e : (crashI p ps).length = (entsOf (leftM p ps)).length := List.length_mapIdx
  refine ⟨e, ?_⟩
  rw [e]
  obtain ⟨es, e2, _⟩ := hE
  rw [e2] at hs ⊢
  exact hs
theorem crashI_at {p : DM} {ps : List Int} {i : Nat} {q : Lit × DataW Nat} (h : (entsOf (leftM p ps))[i]? = some q) : (crashI p ps)[i]? = some (keyB q.1, leftB (fileOf p.fm q.2) ps i) := by
  unfold crashI
  rw [List.getElem?_mapIdx, h]
  rfl
theorem Inv.fileLen {p : DM} {n T : Nat} (h : Inv p n T) {D : DataW Nat} (hE : Ents n D) {q : Lit × DataW Nat} (hq : q ∈ entsOf D) (k : Nat) : (aftM (fileOf p.fm q.2).safe (fileOf p.fm q.2).chs k).length ≤ T ∧ (fileOf p.fm q.2).all.length ≤ T := by
  obtain ⟨es, rfl, _, hall⟩ := hE
  obtain ⟨_, _, _, i, hi, h3⟩ := hall q hq
  rw [h3]
  have hf := h.fit i hi
  have h1 := aftM_len (p.fm i).chs (p.fm i).safe k
  have h2 := hf.2.2
  have h4 := runM_len (p.fm i).chs (p.fm i).safe
  show (aftM (p.fm i).safe (p.fm i).chs k).length ≤ T ∧ (runM (p.fm i).safe (p.fm i).chs).length ≤ T
  omega
theorem crashI_dt {p : DM} {n T : Nat} (h : Inv p n T) (ps : List Int) (i : Nat) (hi : i < (crashI p ps).length) : (dtI (crashI p ps) i).length ≤ T := by
  obtain ⟨hE, _⟩ := h.left ps
  obtain ⟨q, hq⟩ : ∃ q, (entsOf (leftM p ps))[i]? = some q := ⟨_, List.getElem?_eq_getElem (by rw [← (crashI_len h ps).1]; exact hi)⟩
  rw [(nmI_at (crashI_at hq)).2]
  exact (h.fileLen hE (List.mem_of_getElem? hq) _).1
theorem seenI_at {p : DM} {i : Nat} {q : Lit × DataW Nat} (h : (entsOf p.seen)[i]? = some q) : (seenI p)[i]? = some (keyB q.1, (fileOf p.fm q.2).all) := by
  unfold seenI
  rw [List.getElem?_map, h]
  rfl
theorem lookI_dt {p : DM} {n T : Nat} (h : Inv p n T) : (lookI p).length ≤ 64 ∧ ∀ i, i < (lookI p).length → (dtI (lookI p) i).length ≤ T := by
  unfold lookI
  split
  · exact ⟨Nat.zero_le _, fun i hi => absurd hi (Nat.not_lt_zero _)⟩
  · have hl : (seenI p).length = (entsOf p.seen).length := by unfold seenI; rw [List.length_map]
    refine ⟨?_, fun i hi => ?_⟩
    · rw [hl]
      have := h.cnt
      obtain ⟨es, e, _⟩ := h.ents
      rw [e] at this ⊢
      exact this
    · obtain ⟨q, hq⟩ : ∃ q, (entsOf p.seen)[i]? = some q := ⟨_, List.getElem?_eq_getElem (by rw [← hl]; exact hi)⟩
      rw [(nmI_at (seenI_at hq)).2]
      exact (h.fileLen h.ents (List.mem_of_getElem? hq) 0).2
theorem toArr (s : List UInt8) : (⟨s.toArray⟩ : ByteArray).data.toList = s := by simp
theorem crashI_img {p : DM} {n T : Nat} (h : Inv p n T) (ps : List Int) : imgB (crashI p ps).length (nmI (crashI p ps)) = true := by
  obtain ⟨hE, _⟩ := h.left ps
  have hN := hE.names.1
  obtain ⟨hl, h64⟩ := crashI_len h ps
  have key : ∀ i, i < (crashI p ps).length → ∃ q, (entsOf (leftM p ps))[i]? = some q ∧ nmI (crashI p ps) i = nameB q := fun i hi => by
    obtain ⟨q, hq⟩ : ∃ q, (entsOf (leftM p ps))[i]? = some q := ⟨_, List.getElem?_eq_getElem (by rw [← hl]; exact hi)⟩
    exact ⟨q, hq, (nmI_at (crashI_at hq)).1⟩
  unfold imgB
  rw [decide_eq_true h64, Bool.true_and, List.all_eq_true]
  intro i hi
  rw [List.mem_range] at hi
  obtain ⟨q, hq, e⟩ := key i hi
  unfold stepB
  rw [e, (hN.name (List.mem_of_getElem? hq)).1, Bool.true_and, Bool.or_eq_true]
  by_cases h0 : i = 0
  · exact .inl (decide_eq_true h0)
  · refine .inr ?_
    obtain ⟨q', hq', e'⟩ := key (i - 1) (by omega)
    rw [e', bytesLess_eq, toList_data, toList_data]
    refine decide_eq_true ?_
    have hp := hN.lt
    rw [List.pairwise_iff_getElem] at hp
    have l1 : i - 1 < (entsOf (leftM p ps)).length := by omega
    have l2 : i < (entsOf (leftM p ps)).length := by omega
    have := hp (i - 1) i (by rw [List.length_map]; exact l1) (by rw [List.length_map]; exact l2) (by omega)
    rw [List.getElem_map, List.getElem_map] at this
    have g1 : (entsOf (leftM p ps))[i - 1] = q' := by
      have := List.getElem?_eq_getElem l1
      rw [hq'] at this
      exact (Option.some.inj this).symm
    have g2 : (entsOf (leftM p ps))[i] = q := by
      have := List.getElem?_eq_getElem l2
      rw [hq] at this
      exact (Option.some.inj this).symm
    rw [g1, g2] at this
    have n1 := (hN.name (List.mem_of_getElem? hq')).2.1
    have n2 := (hN.name (List.mem_of_getElem? hq)).2.1
    rw [n1, n2] at this
    exact this
theorem sumL_le (f : Nat → Nat) {T : Nat} : ∀ n, (∀ i, i < n → f i ≤ T) → sumL f n ≤ n * T
  | 0, _ => Nat.zero_le _
  | n + 1, h => by
    have := sumL_le f (T := T) n (fun i hi => h i (by omega))
    have := h n (by omega)
    show sumL f n + f n ≤ (n + 1) * T
    rw [Nat.succ_mul]
    omega
theorem insert_last (x : Lit × DataW Nat) : ∀ l : List (Lit × DataW Nat), (∀ y ∈ l, x.1.before y.1 = false) → DataW.insert x l = l ++ [x]
  | [], _ => rfl
  | y :: r, h => by
    show (if x.1.before y.1 then x :: y :: r else y :: DataW.insert x r) = _
    rw [h y (by simp), if_neg (by simp), insert_last x r (fun z hz => h z (by simp [hz]))]
    rfl
theorem bytes_asym : ∀ a b : List UInt8, a < b → bytesBefore b a = false := fun a b h => by
  cases hb : bytesBefore b a with
  | false => rfl
  | true => exact absurd (List.lt_trans h (before_lt b a hb)) (List.lt_irrefl _)
/-- The map of an image's names, in their order. -/
theorem nmD_list {nm : Nat → ByteArray} : ∀ n, (∀ a b, a < b → b < n → (nm a).data.toList < (nm b).data.toList) → nmD nm (fun j => j) n = .map ((List.range n).map (fun i => (.string (nm i).data.toList, .held i)))
  | 0, _ => rfl
  | n + 1, h => by
    show (nmD nm (fun j => j) n).put _ _ = _
    rw [nmD_list n (fun a b h1 h2 => h a b h1 (by omega)), List.range_succ, List.map_append]
    show DataW.map (DataW.insert _ (List.filter _ _)) = DataW.map _
    have ef : (((List.range n).map (fun i => ((Lit.string (nm i).data.toList, DataW.held i) : Lit × DataW Nat))).filter fun p => !p.1.sameKey (.string (nm n).data.toList)) = (List.range n).map (fun i => (.string (nm i).data.toList, .held i)) := by
      rw [List.filter_eq_self]
      intro q hq
      obtain ⟨i, hi, rfl⟩ := List.mem_map.1 hq
      have := h i n (List.mem_range.1 hi) (by omega)
      show (!(nm i).data.toList == (nm n).data.toList) = true
      rw [Bool.not_eq_true', beq_eq_false_iff_ne]
      intro e
      rw [e] at this
      exact absurd this (List.lt_irrefl _)
    rw [ef, insert_last _ _ (fun y hy => by
      obtain ⟨i, hi, rfl⟩ := List.mem_map.1 hy
      exact bytes_asym _ _ (h i n (List.mem_range.1 hi) (by omega)))]
    rfl
theorem load_ents {I : Image} {room : Nat} (hi : imgB I.length (nmI I) = true) : entsOf (loadP room (nmI I) (dtI I) I.length).seen = (List.range I.length).map (fun i => (.string (nmI I i).data.toList, .held i)) := by
  show entsOf (nmD (nmI I) (fun j => j) I.length) = _
  rw [nmD_list I.length (fun a b h1 h2 => img_lt hi a b h1 h2)]
  rfl
theorem image_ext {I J : Image} (hl : J.length = I.length) (h : ∀ i, i < I.length → J[i]? = some ((nmI I i).data.toList, dtI I i)) : J = I := by
  apply List.ext_getElem?
  intro i
  by_cases hi : i < I.length
  · rw [h i hi]
    obtain ⟨q, hq⟩ : ∃ q, I[i]? = some q := ⟨_, List.getElem?_eq_getElem hi⟩
    obtain ⟨s, l⟩ := q
    obtain ⟨e1, e2⟩ := nmI_at hq
    rw [hq, e1, e2, toArr]
  · rw [List.getElem?_eq_none (by omega), List.getElem?_eq_none (by omega)]
theorem load_look {I : Image} {room : Nat} (hi : imgB I.length (nmI I) = true) : lookI (loadP room (nmI I) (dtI I) I.length) = I := by
  have e : lookI (loadP room (nmI I) (dtI I) I.length) = seenI (loadP room (nmI I) (dtI I) I.length) := if_neg (by show ¬ (false = true); simp)
  rw [e]
  unfold seenI
  rw [load_ents hi, List.map_map]
  refine image_ext (by rw [List.length_map, List.length_range]) (fun i h => ?_)
  rw [List.getElem?_map, List.getElem?_range h]
  rfl
theorem load_crash {I : Image} {room : Nat} (hi : imgB I.length (nmI I) = true) (ps : List Int) : crashI (loadP room (nmI I) (dtI I) I.length) ps = I := by
  have e : leftM (loadP room (nmI I) (dtI I) I.length) ps = (loadP room (nmI I) (dtI I) I.length).seen := by
    show movesOn _ (([] : List Mov).take _) = _
    rw [List.take_nil]
    rfl
  unfold crashI
  rw [e, load_ents hi]
  refine image_ext (by rw [List.length_mapIdx, List.length_map, List.length_range]) (fun i h => ?_)
  rw [List.getElem?_mapIdx, List.getElem?_map, List.getElem?_range h]
  rfl
end Go.Proofs.Ytbnlgohaaadgeaa

/- DiskAgain. -/
namespace Go.Proofs.Ytbnlgohaaadgeaa
open Go.RowKit Go.Maps Go.Sort Go.Joins
set_option maxRecDepth 100000
set_option maxRecDepth 100000

/-- What the laws of a power are handed. -/
structure PowA where
  oa : Option Addr
  oc : Nat
  ops : List OpV
  off : Int
  pa : Option Addr
  pc : Nat
  ps : List Int
  ma : Option Addr
  mc : Nat
  more : List OpV
  na : Option Addr
  nc : Nat
  nx : List Int
structure PowIn (w : World) (m : Nat) (A : PowA) : Prop where
  ops : OpsIn w A.oa A.ops
  ok : OpsOk w m A.ops
  ps : PicksL w A.pa A.ps
  more : OpsIn w A.ma A.more
  mok : OpsOk w m A.more
  nx : PicksL w A.na A.nx
theorem PowIn.on {w w' : World} {A : PowA} (h : PowIn w w.heap.size A) (hb : Below w.heap.size w w') : PowIn w' w.heap.size A :=
  ⟨h.ops.on hb, h.ok.on hb, h.ps.on hb, h.more.on hb, h.mok.on hb, h.nx.on hb⟩
theorem OpsOk.up {w : World} {m m' : Nat} {l : List OpV} (h : OpsOk w m l) (hm : m ≤ m') : OpsOk w m' l := fun o ho => by
  obtain ⟨h1, h2, h3⟩ := h o ho
  exact ⟨h1, h2, fun ad e h0 => Nat.lt_of_lt_of_le (h3 ad e h0) hm⟩
theorem PowIn.up {w : World} {m m' : Nat} {A : PowA} (h : PowIn w m A) (hm : m ≤ m') : PowIn w m' A := ⟨h.ops, h.ok.up hm, h.ps, h.more, h.mok.up hm, h.nx⟩
/-- A step of a disk that is newer than what was handed in. -/
theorem play_step {w1 W : World} {db : Nat} {p : DM} {n T : Nat} {F : Nat → Prop} (hD : DK W w1.heap.size db p n T F) (hb : Below w1.heap.size w1 W) (hT : T ≤ 17179869184) (o : OpV) (ho : o.ok w1) (hl : o.b.length ≤ 4096) (hm : ∀ ad, o.ba = some ad → 0 < o.b.length → ad.block < w1.heap.size) :
    Calls Try.prog 9 #[.pointer (some ⟨db, 0, none⟩), o.v] W fun e w' => e = .returned (.int .i64 ((stepM p n o.dp).2.2 : Nat)) ∧ ∃ F', DK w' w1.heap.size db (stepM p n o.dp).1 (stepM p n o.dp).2.1 (T + 4098) F' ∧ Mv F F' W w' ∧ Below w1.heap.size w1 w' := by
  refine (play_is hD hT o (by omega) ⟨Byt.on ho.1 hb, ho.2⟩ (fun ad e h0 => ⟨Nat.lt_of_lt_of_le (hm ad e h0) hb.size, fun hf => ?_⟩)).mono fun e w' ⟨he, F', hD', hM⟩ => ⟨he, F', hD'.mono (by omega), hM, Mv.below hb hb.size (fun k hk => (hD.lt k hk).1) hM⟩
  have := (hD.lt _ hf).1
  have := hm ad e h0
  omega
theorem few_run (a : Option Addr) (c : Nat) (l : List OpV) (W : World) (h : OpsIn W a l) {w1 : World} (hok : OpsOk w1 w1.heap.size l) :
    Calls Try.prog 10 #[.slice a l.length c] W fun e w' => ∃ va vc, e = .returned (.slice va (fewL l).length vc) ∧ Lies W.heap.size w'.heap.size w' (fun W => OpsIn W va (fewL l)) ∧ Below W.heap.size W w' := by
  refine (few_is a c l W h (fun o ho => (hok o ho).2.1)).mono fun e w' ⟨v, he, ho, hb⟩ => ?_
  obtain ⟨va, vc, rfl⟩ := own_slice ho
  exact ⟨va, vc, he, own_opsIn ho, hb⟩
def firstO (g : Nat) : OpV := ⟨1, 0, 0, ⟨#[102, 105, 114, 115, 116]⟩, ⟨#[]⟩, some ⟨g, 0, none⟩, 1, [49], 0, 0, 0, none, 0, 0⟩
def firstP : DM × Nat := ((stepM (emptyP 67108864) 0 (firstO 0).dp).1, (stepM (emptyP 67108864) 0 (firstO 0).dp).2.1)
theorem first_dp (g : Nat) : (firstO g).dp = (firstO 0).dp := rfl
theorem first_one : (lookI firstP.1).length = 1 := by decide +kernel

set_option maxHeartbeats 6400000 in
theorem again_any (A : PowA) (w : World) (h : PowIn w w.heap.size A) :
    Calls Try.prog 3 #[.agg #[.slice A.oa A.ops.length A.oc, .int .i64 A.off, .slice A.pa A.ps.length A.pc, .slice A.ma A.more.length A.mc, .slice A.na A.nx.length A.nc]] w fun e w' => e = .returned (.bool true) ∧ Below w.heap.size w w' := by
  have HNUM : Hid (∀ (e : Int) W, Calls Try.prog 15 #[.int .i64 e] W fun r w' => r = .returned (.int .i64 e) ∧ w' = W) := num_is
  have bA : Below w.heap.size w (w.alloc (.cells #[.slice A.oa A.ops.length A.oc, .int .i64 A.off, .slice A.pa A.ps.length A.pc, .slice A.ma A.more.length A.mc, .slice A.na A.nx.length A.nc] 25)) := (Below.refl _ _).alloc (Nat.le_refl _) _
  have y0 : (w.alloc (.cells #[.slice A.oa A.ops.length A.oc, .int .i64 A.off, .slice A.pa A.ps.length A.pc, .slice A.ma A.more.length A.mc, .slice A.na A.nx.length A.nc] 25)).cell? ⟨w.heap.size, 0, none⟩ = some (.slice A.oa A.ops.length A.oc) := World.cell?_alloc_at (w := w) _ _ _ 0 rfl
  have y2 : (w.alloc (.cells #[.slice A.oa A.ops.length A.oc, .int .i64 A.off, .slice A.pa A.ps.length A.pc, .slice A.ma A.more.length A.mc, .slice A.na A.nx.length A.nc] 25)).cell? ⟨w.heap.size, 2, none⟩ = some (.slice A.pa A.ps.length A.pc) := World.cell?_alloc_at (w := w) _ _ _ 2 rfl
  have y3 : (w.alloc (.cells #[.slice A.oa A.ops.length A.oc, .int .i64 A.off, .slice A.pa A.ps.length A.pc, .slice A.ma A.more.length A.mc, .slice A.na A.nx.length A.nc] 25)).cell? ⟨w.heap.size, 3, none⟩ = some (.slice A.ma A.more.length A.mc) := World.cell?_alloc_at (w := w) _ _ _ 3 rfl
  have y4 : (w.alloc (.cells #[.slice A.oa A.ops.length A.oc, .int .i64 A.off, .slice A.pa A.ps.length A.pc, .slice A.ma A.more.length A.mc, .slice A.na A.nx.length A.nc] 25)).cell? ⟨w.heap.size, 4, none⟩ = some (.slice A.na A.nx.length A.nc) := World.cell?_alloc_at (w := w) _ _ _ 4 rfl
  have hPI : PowIn (w.alloc (.cells #[.slice A.oa A.ops.length A.oc, .int .i64 A.off, .slice A.pa A.ps.length A.pc, .slice A.ma A.more.length A.mc, .slice A.na A.nx.length A.nc] 25)) w.heap.size A := h.on bA
  obtain ⟨w1, HW⟩ : ∃ W, Hid (w.alloc (.cells #[.slice A.oa A.ops.length A.oc, .int .i64 A.off, .slice A.pa A.ps.length A.pc, .slice A.ma A.more.length A.mc, .slice A.na A.nx.length A.nc] 25) = W) := ⟨_, rfl⟩
  rw [HW.out] at bA y0 y2 y3 y4 hPI
  have HP : Hid (PowIn w1 w1.heap.size A) := hPI.up bA.size
  have HEND : Hid (∀ W, Below w1.heap.size w1 W → Below w.heap.size w W) := fun W hb => bA.trans (hb.mono bA.size)
  have HBX : Hid (∀ W, Below w1.heap.size w1 W → W.cell? ⟨w.heap.size, 0, none⟩ = some (.slice A.oa A.ops.length A.oc) ∧ W.cell? ⟨w.heap.size, 2, none⟩ = some (.slice A.pa A.ps.length A.pc) ∧ W.cell? ⟨w.heap.size, 3, none⟩ = some (.slice A.ma A.more.length A.mc) ∧ W.cell? ⟨w.heap.size, 4, none⟩ = some (.slice A.na A.nx.length A.nc)) := fun W hb => ⟨cel_on hb y0, cel_on hb y2, cel_on hb y3, cel_on hb y4⟩
  clear h hPI bA y0 y2 y3 y4
  go_enter Try.func3, Try.ntmps3
  go_upto_region 1 with fail
  rw [HW.out]
  go_wp2_with fail
  refine (open_is w1).mono ?_
  rintro e w2 ⟨db, F, rfl, hD2, hb2⟩
  have kc := Lib.run_convert_bytes_const (P := Try.prog) w2 29 5 #[.int .u8 49] 1 1 Try.underlying29 Try.underlying5
  have HPL : Hid (Calls Try.prog 9 #[.pointer (some ⟨db, 0, none⟩), (firstO w2.heap.size).v] (w2.alloc (.cells #[.int .u8 49] 5 (1, 2))) fun e w' => ∃ E : Int, e = .returned (.int .i64 E) ∧ ∃ F', DK w' w1.heap.size db firstP.1 firstP.2 67 F' ∧ Below w1.heap.size w1 w') := by
    have bq : Below w2.heap.size w2 (w2.alloc (.cells #[.int .u8 49] 5 (1, 2))) := (Below.refl _ _).alloc (Nat.le_refl _) _
    have hbl : BL (w2.alloc (.cells #[.int .u8 49] 5 (1, 2))) (some ⟨w2.heap.size, 0, none⟩) [49] := lit_bl w2 _ _ _ (fun j hj => by
      match j, hj with
      | 0, _ => rfl)
    refine (play_is (hD2.on bq) (by decide) (firstO w2.heap.size) (by show 1 ≤ _; decide) ⟨hbl, fun e => by cases e⟩ (fun ad e _ => ?_)).mono fun e w' ⟨he, F', hD', hM⟩ => ⟨_, he, F', hD', ?_⟩
    · have : ad.block = w2.heap.size := by
        have := Option.some.inj e
        rw [← this]
      rw [this]
      refine ⟨by simp, fun hf => ?_⟩
      have := (hD2.lt _ hf).2
      omega
    · exact Mv.below (hb2.trans (bq.mono hb2.size)) (Nat.le_trans hb2.size bq.size) (fun k hk => (hD2.lt k hk).1) hM
  unfold firstO OpV.v at HPL
  clear hD2 hb2
  go_wp2_with fail
  refine HPL.out.mono ?_
  rintro e w3 ⟨E3, rfl, F3, hD3, hb3⟩
  clear HPL kc
  obtain ⟨b0, b2, b3, b4⟩ := HBX.out w3 hb3
  have HFW : Hid (Calls Try.prog 10 #[.slice A.oa A.ops.length A.oc] w3 fun e w' => ∃ va vc, e = .returned (.slice va (fewL A.ops).length vc) ∧ Lies w3.heap.size w'.heap.size w' (fun W => OpsIn W va (fewL A.ops)) ∧ Below w3.heap.size w3 w') := few_run A.oa A.oc A.ops w3 (HP.out.ops.on hb3) HP.out.ok
  go_wp2_with fail
  refine HFW.out.mono ?_
  rintro e w4 ⟨va, vc, rfl, hfl, hb4⟩
  clear HFW b0 b2 b3 b4
  have hb14 := hb3.trans (hb4.mono hb3.size)
  have hlen := few_len A.ops
  have HOK : Hid (∀ (i : Nat) (o : OpV), (fewL A.ops)[i]? = some o → o.ok w1 ∧ o.b.length ≤ 4096 ∧ ∀ ad, o.ba = some ad → 0 < o.b.length → ad.block < w1.heap.size) := fun i o ho => HP.out.ok.few (List.mem_of_getElem? ho)
  have HE0 : Hid ((fewL A.ops).length = 0 → (runD firstP (dps (fewL A.ops))).1 = firstP.1) := fun e => by
    have : fewL A.ops = [] := List.eq_nil_of_length_eq_zero e
    rw [this]
    rfl
  obtain ⟨fl, hflE⟩ : ∃ fl, fewL A.ops = fl := ⟨_, rfl⟩
  rw [hflE] at hfl hlen HOK HE0
  rw [hflE]
  obtain ⟨N, hN⟩ : ∃ N, fl.length = N := ⟨_, rfl⟩
  rw [hN] at hlen HE0
  rw [hN]
  obtain ⟨S1, HS1⟩ : ∃ S1 : Nat → World → Prop, Hid (∀ i W, S1 i W ↔ ∃ F, DK W w1.heap.size db (runD firstP ((dps fl).take i)).1 (runD firstP ((dps fl).take i)).2 (67 + 4098 * i) F ∧ Below w1.heap.size w1 W ∧ Lies w3.heap.size w4.heap.size W (fun W => OpsIn W va fl) ∧ Spare w3.heap.size w4.heap.size F) := ⟨_, fun _ _ => Iff.rfl⟩
  have hS0 : S1 0 w4 := (HS1.out 0 w4).2 ⟨F3, hD3.on hb4, hb14, hfl, fun k hk => .inl (hD3.lt k hk).2⟩
  have HN : Hid (fl.length = N) := hN
  clear hD3 hb3 hb4 hb14 hfl hflE hN
  go_wp2_with fail
  go_loopg [5] N (fun q s5 wx => ∃ (i : Nat), i ≤ N ∧ q = N - i ∧ s5 = .int .i64 i ∧ S1 i wx)
  case atStart => exact ⟨0, Nat.zero_le _, rfl, rfl, hS0⟩
  case round =>
    obtain ⟨i, hi, rfl, rfl, hS⟩ := hrel
    clear hS0
    by_cases hlt : i < N
    · have hz : (i : Int) < (N : Int) := by omega
      have hwi : IntKind.i64.wrap ((i : Int) + 1) = (i : Int) + 1 := by rw [IntKind.wrap_i64]; omega
      obtain ⟨F, hD, hb, hL, hSp⟩ := (HS1.out i wr).1 hS
      obtain ⟨o, ho⟩ : ∃ o, fl[i]? = some o := ⟨_, List.getElem?_eq_getElem (by have := HN.out; omega)⟩
      obtain ⟨b, off, rfl, hc⟩ := hL.now i o ho
      have q0 : wr.cell? ⟨b, off + i * 10, none⟩ = some (.int .i64 o.kind) := hc 0 _ rfl
      have q1 : wr.cell? ⟨b, off + i * 10 + 1, none⟩ = some (.int .i64 o.on) := hc 1 _ rfl
      have q2 : wr.cell? ⟨b, off + i * 10 + 2, none⟩ = some (.int .i64 o.n) := hc 2 _ rfl
      have q3 : wr.cell? ⟨b, off + i * 10 + 3, none⟩ = some (.string o.name) := hc 3 _ rfl
      have q4 : wr.cell? ⟨b, off + i * 10 + 4, none⟩ = some (.string o.tt) := hc 4 _ rfl
      have q5 : wr.cell? ⟨b, off + i * 10 + 5, none⟩ = some (.slice o.ba o.b.length o.bc) := hc 5 _ rfl
      have q6 : wr.cell? ⟨b, off + i * 10 + 6, none⟩ = some (.int .i64 o.p0) := hc 6 _ rfl
      have q7 : wr.cell? ⟨b, off + i * 10 + 7, none⟩ = some (.int .i64 o.p1) := hc 7 _ rfl
      have q8 : wr.cell? ⟨b, off + i * 10 + 8, none⟩ = some (.int .i64 o.p2) := hc 8 _ rfl
      have q9 : wr.cell? ⟨b, off + i * 10 + 9, none⟩ = some (.slice o.pa o.pn o.pc) := hc 9 _ rfl
      have HPL : Hid (Calls Try.prog 9 #[.pointer (some ⟨db, 0, none⟩), .agg #[.int .i64 o.kind, .int .i64 o.on, .int .i64 o.n, .string o.name, .string o.tt, .slice o.ba o.b.length o.bc, .int .i64 o.p0, .int .i64 o.p1, .int .i64 o.p2, .slice o.pa o.pn o.pc]] wr fun e w' => ∃ E : Int, e = .returned (.int .i64 E) ∧ S1 (i + 1) w') := by
        obtain ⟨o1, o2, o3⟩ := HOK.out i o ho
        refine (play_step hD hb (by omega) o o1 o2 o3).mono fun e w' ⟨he, F', hD', hM, hb'⟩ => ⟨_, he, (HS1.out _ _).2 ⟨F', ?_, hb', (hL.mv hSp hM).1, (hL.mv hSp hM).2⟩⟩
        rw [runD_take (dps_at ho)]
        exact hD'.mono (by omega)
      clear hS hD hb hL hSp hc HS1 HOK ho HN HE0
      go_wp2_with fail
      refine HPL.out.mono ?_
      rintro e w5 ⟨E5, rfl, hS5⟩
      clear HPL q0 q1 q2 q3 q4 q5 q6 q7 q8 q9
      go_wp2_with fail
      go_roundg (N - (i + 1))
      case measure => go_light; omega
      case rel => go_light; exact ⟨i + 1, by omega, rfl, by simp, hS5⟩
    · obtain rfl : i = N := by omega
      obtain ⟨wA, hwA⟩ : ∃ x, x = wr := ⟨_, rfl⟩
      subst hwA
      have hz : ¬ ((i : Int) < (i : Int)) := by omega
      obtain ⟨F, hD, hb5, hL, hSp⟩ := (HS1.out i wA).1 hS
      have ed : (dps fl).take i = dps fl := List.take_of_length_le (by unfold dps; rw [List.length_map]; have := HN.out; omega)
      rw [ed] at hD
      have hD := hD.mono (T' := 819667) (by omega)
      clear hS HS1 hL hSp HOK ed HN
      generalize runD firstP (dps fl) = pn at *
      obtain ⟨p1, n1⟩ := pn
      have HI1 : Hid (Inv p1 n1 819667) := hD.inv
      have HD5 : Hid (DK wA w1.heap.size db p1 n1 819667 F) := hD
      have HB5 : Hid (Below w1.heap.size w1 wA) := hb5
      have HB1R : Hid (w1.heap.size ≤ wA.heap.size) := hb5.size
      have HFR : Hid (∀ k, F k → k < wA.heap.size) := fun k hk => (hD.lt k hk).2
      have HSE : Hid (Calls Try.prog 11 #[.pointer (some ⟨db, 0, none⟩)] wA fun e w' => ∃ a c, e = .returned (.slice a (lookI p1).length c) ∧ Lies wA.heap.size w'.heap.size w' (fun W => ImgI W a (lookI p1)) ∧ Below wA.heap.size wA w') := seen_is hD (by decide)
      clear hD hb5
      go_wp2_with fail
      refine HSE.out.mono ?_
      rintro e w6 ⟨sa, sc, rfl, hsee, hb6⟩
      clear HSE
      have HB6 : Hid (Below w1.heap.size w1 w6) := HB5.out.trans (hb6.mono HB5.out.size)
      have HD6 : Hid (DK w6 w1.heap.size db p1 n1 819667 F) := HD5.out.on hb6
      obtain ⟨b0, b2, b3, b4⟩ := HBX.out w6 HB6.out
      have HCR : Hid (Calls Try.prog 12 #[.pointer (some ⟨db, 0, none⟩), .slice A.pa A.ps.length A.pc] w6 fun e w' => ∃ g, e = .returned (.slice (some ⟨g, 0, none⟩) (crashI p1 A.ps).length (crashI p1 A.ps).length) ∧ Lies w6.heap.size w'.heap.size w' (fun W => ImgI W (some ⟨g, 0, none⟩) (crashI p1 A.ps)) ∧ Below w6.heap.size w6 w') := HD6.out.crash (by decide) A.ps A.pa A.pc (HP.out.ps.on HB6.out)
      go_wp2_with fail
      refine HCR.out.mono ?_
      rintro e w7 ⟨lg, rfl, hcra, hb7⟩
      clear HCR b0 b2 b3 b4
      -- what was seen, and what was left
      have HWAS : Hid (Lies wA.heap.size w6.heap.size w7 (fun W => ImgI W sa (lookI p1))) := hsee.on hb7
      have HLEF : Hid (Lies w6.heap.size w7.heap.size w7 (fun W => ImgI W (some ⟨lg, 0, none⟩) (crashI p1 A.ps))) := hcra
      have HB7 : Hid (Below w1.heap.size w1 w7) := HB6.out.trans (hb7.mono HB6.out.size)
      have HD7 : Hid (DK w7 w1.heap.size db p1 n1 819667 F) := HD6.out.on hb7
      have HSZ : Hid (wA.heap.size ≤ w6.heap.size ∧ w6.heap.size ≤ w7.heap.size) := ⟨hb6.size, hb7.size⟩
      have HIMG : Hid (imgB (crashI p1 A.ps).length (nmI (crashI p1 A.ps)) = true) := crashI_img HI1.out A.ps
      have hcl : (crashI p1 A.ps).length ≤ 64 := (crashI_len HI1.out A.ps).2
      have HCD : Hid (∀ i, i < (crashI p1 A.ps).length → (dtI (crashI p1 A.ps) i).length ≤ 819667) := fun i hi => crashI_dt HI1.out A.ps i hi
      have HCP : Hid (Calls Try.prog 14 #[.slice (some ⟨lg, 0, none⟩) (crashI p1 A.ps).length (crashI p1 A.ps).length] w7 fun e w' => ∃ a' c', e = .returned (.slice a' (crashI p1 A.ps).length c') ∧ ImgI w' a' (crashI p1 A.ps) ∧ Below w7.heap.size w7 w') := (copied_is (some ⟨lg, 0, none⟩) _ (crashI p1 A.ps) w7 HLEF.out.now (by omega) (fun i hi => by have := HCD.out i hi; omega)).mono fun e w' ⟨v, he, ⟨a', c', ev, hl⟩, hb⟩ => ⟨a', c', by rw [he, ev], hl.now, hb⟩
      have HLD : Hid (∀ W a' c', ImgI W a' (crashI p1 A.ps) → Calls Try.prog 13 #[.slice a' (crashI p1 A.ps).length c', .int .i64 67108864] W fun e w' => ∃ rb G, e = .returned (.tuple #[.pointer (some ⟨rb, 0, none⟩), .int .i64 0]) ∧ DK w' W.heap.size rb (loadP 67108864 (nmI (crashI p1 A.ps)) (dtI (crashI p1 A.ps)) (crashI p1 A.ps).length) (crashI p1 A.ps).length 819667 G ∧ Below W.heap.size W w') := fun W a' c' hI => load_is a' _ c' (nmI (crashI p1 A.ps)) (dtI (crashI p1 A.ps)) 67108864 819667 W hI (by decide) HIMG.out (by
        have := sumL_le (fun i => (dtI (crashI p1 A.ps) i).length) (T := 819667) (crashI p1 A.ps).length HCD.out
        have := Nat.mul_le_mul_right 819667 hcl
        omega) (by decide) HCD.out
      have HLL : Hid (lookI (loadP 67108864 (nmI (crashI p1 A.ps)) (dtI (crashI p1 A.ps)) (crashI p1 A.ps).length) = crashI p1 A.ps ∧ ∀ ps, crashI (loadP 67108864 (nmI (crashI p1 A.ps)) (dtI (crashI p1 A.ps)) (crashI p1 A.ps).length) ps = crashI p1 A.ps) := ⟨load_look HIMG.out, load_crash HIMG.out⟩
      clear hsee hcra hb6 hb7 HD5 HD6 HB5 HB6 HIMG
      obtain ⟨CI, HCI⟩ : ∃ CI, Hid (crashI p1 A.ps = CI) := ⟨_, rfl⟩
      rw [HCI.out] at HLEF hcl HCD HCP HLD HLL
      rw [HCI.out]
      obtain ⟨rP, HRP⟩ : ∃ rP, Hid (loadP 67108864 (nmI CI) (dtI CI) CI.length = rP) := ⟨_, rfl⟩
      rw [HRP.out] at HLD HLL
      clear HRP
      obtain ⟨wasL, HWL⟩ : ∃ n, Hid ((lookI p1).length = n) := ⟨_, rfl⟩
      obtain ⟨hwl1, hwl2⟩ := lookI_dt HI1.out
      have HWD : Hid (∀ i, i < (lookI p1).length → (dtI (lookI p1) i).length ≤ 1048576) := fun i hi => by have := hwl2 i hi; omega
      have HW64 : Hid ((lookI p1).length ≤ 64) := hwl1
      have HW1 : Hid (i = 0 → wasL = 1) := fun e => by
        rw [← HWL.out]
        have : p1 = firstP.1 := HE0.out e
        rw [this]
        exact first_one
      have HCD2 : Hid (∀ i, i < CI.length → (dtI CI i).length ≤ 1048576) := fun i hi => by have := HCD.out i hi; omega
      rw [HWL.out]
      obtain ⟨CL, HCL⟩ : ∃ CL, Hid (CI.length = CL) := ⟨_, rfl⟩
      rw [HCL.out] at HCP HLD hcl
      rw [HCL.out]
      clear hwl1 hwl2 HE0 HCD
      go_wp2_with fail
      refine HCP.out.mono ?_
      rintro e w8 ⟨ca, cc, rfl, hci8, hb8⟩
      have HLD8 : Hid _ := HLD.out w8 ca cc hci8
      clear HCP HLD hci8
      go_wp2_with fail
      refine Calls.mono HLD8.out ?_
      rintro e w9 ⟨rb, G, rfl, hG9, hb9⟩
      clear HLD8
      have hb79 := hb8.trans (hb9.mono hb8.size)
      have HB9 : Hid (Below w1.heap.size w1 w9) := HB7.out.trans (hb79.mono HB7.out.size)
      have HG9 : Hid (DK w9 w8.heap.size rb rP CL 819667 G) := hG9
      have HD9 : Hid (DK w9 w1.heap.size db p1 n1 819667 F) := HD7.out.on hb79
      have HWA9 : Hid (Lies wA.heap.size w6.heap.size w9 (fun W => ImgI W sa (lookI p1))) := HWAS.out.on hb79
      have HLE9 : Hid (Lies w6.heap.size w7.heap.size w9 (fun W => ImgI W (some ⟨lg, 0, none⟩) CI)) := HLEF.out.on hb79
      have HSZ9 : Hid (w7.heap.size ≤ w8.heap.size ∧ w8.heap.size ≤ w9.heap.size) := ⟨hb8.size, hb9.size⟩
      have HSER : Hid (Calls Try.prog 11 #[.pointer (some ⟨rb, 0, none⟩)] w9 fun e w' => ∃ a c, e = .returned (.slice a CL c) ∧ ImgI w' a CI ∧ Below w9.heap.size w9 w') := by
        have := seen_is hG9 (by decide)
        rw [HLL.out.1, HCL.out] at this
        exact this.mono fun e w' ⟨a, c, he, hl, hb⟩ => ⟨a, c, he, hl.now, hb⟩
      have HIMR : Hid (∀ W a c, ImgI W a CI → Below w9.heap.size w9 W → Calls Try.prog 16 #[.slice a CL c, .slice (some ⟨lg, 0, none⟩) CL CL] W fun e w' => e = .returned (.bool true) ∧ Below w9.heap.size w9 w') := fun W a c h1 hb => by
        have := image_is c CL h1 ((HLE9.out.on hb).now) (by rw [HCL.out]; omega) HCD2.out
        rw [HCL.out] at this
        exact this.mono fun e w' ⟨he, m, hm⟩ => ⟨he, by rw [hm]; exact below_drewN hb m⟩
      have HCRR : Hid (∀ W, Below w9.heap.size w9 W → Calls Try.prog 12 #[.pointer (some ⟨rb, 0, none⟩), .slice A.na A.nx.length A.nc] W fun e w' => ∃ g, e = .returned (.slice (some ⟨g, 0, none⟩) CL CL) ∧ ImgI w' (some ⟨g, 0, none⟩) CI ∧ Below w9.heap.size w9 w') := fun W hb => by
        have := (hG9.on hb).crash (by decide) A.nx A.na A.nc (HP.out.nx.on (HB9.out.trans (hb.mono HB9.out.size)))
        rw [HLL.out.2, HCL.out] at this
        exact this.mono fun e w' ⟨g, he, hl, hb'⟩ => ⟨g, he, hl.now, hb.trans (hb'.mono hb.size)⟩
      have HBX9 : Hid (∀ W, Below w9.heap.size w9 W → W.cell? ⟨w.heap.size, 0, none⟩ = some (.slice A.oa A.ops.length A.oc) ∧ W.cell? ⟨w.heap.size, 2, none⟩ = some (.slice A.pa A.ps.length A.pc) ∧ W.cell? ⟨w.heap.size, 3, none⟩ = some (.slice A.ma A.more.length A.mc) ∧ W.cell? ⟨w.heap.size, 4, none⟩ = some (.slice A.na A.nx.length A.nc)) := fun W hb => HBX.out W (HB9.out.trans (hb.mono HB9.out.size))
      clear hG9 hb8 hb9 hb79 HD7 HB7 HWAS HLEF HLL
      go_wp2_with (go_at_call 15; refine (HNUM.out _ _).mono ?_; rintro e w9 ⟨rfl, rfl⟩)
      refine HSER.out.mono ?_
      rintro e w10 ⟨ra, rc, rfl, hi10, hb10⟩
      go_wp2_with fail
      refine (HIMR.out w10 ra rc hi10 hb10).mono ?_
      rintro e w11 ⟨rfl, hb11⟩
      obtain ⟨b0, b2, b3, b4⟩ := HBX9.out w11 hb11
      go_wp2_with fail
      refine (HCRR.out w11 hb11).mono ?_
      rintro e w12 ⟨rg, rfl, hi12, hb12⟩
      clear b0 b2 b3 b4
      go_wp2_with fail
      refine (HIMR.out w12 _ _ hi12 hb12).mono ?_
      rintro e w13 ⟨rfl, hb13⟩
      clear HSER HCRR hi10 hi12 hb10 hb11 hb12
      have HB13 : Hid (Below w9.heap.size w9 w13) := hb13
      obtain ⟨b0, b2, b3, b4⟩ := HBX9.out w13 hb13
      have hB113 : Below w1.heap.size w1 w13 := HB9.out.trans (hb13.mono HB9.out.size)
      have HFW : Hid (Calls Try.prog 10 #[.slice A.ma A.more.length A.mc] w13 fun e w' => ∃ va vc, e = .returned (.slice va (fewL A.more).length vc) ∧ Lies w13.heap.size w'.heap.size w' (fun W => OpsIn W va (fewL A.more)) ∧ Below w13.heap.size w13 w') := few_run A.ma A.mc A.more w13 (HP.out.more.on hB113) HP.out.mok
      clear hb13 HIMR HBX9
      go_wp2_with fail
      refine HFW.out.mono ?_
      rintro e w14 ⟨ua, uc, rfl, hfl, hb14⟩
      clear HFW b0 b2 b3 b4
      have hlen2 := few_len A.more
      have HOK2 : Hid (∀ (i : Nat) (o : OpV), (fewL A.more)[i]? = some o → o.ok w1 ∧ o.b.length ≤ 4096 ∧ ∀ ad, o.ba = some ad → 0 < o.b.length → ad.block < w1.heap.size) := fun i o ho => HP.out.mok.few (List.mem_of_getElem? ho)
      obtain ⟨gl, hgE⟩ : ∃ gl, fewL A.more = gl := ⟨_, rfl⟩
      rw [hgE] at hfl hlen2 HOK2
      rw [hgE]
      obtain ⟨M, hM⟩ : ∃ M, gl.length = M := ⟨_, rfl⟩
      rw [hM] at hlen2
      rw [hM]
      obtain ⟨S2, HS2⟩ : ∃ S2 : Nat → World → Prop, Hid (∀ j W, S2 j W ↔ ∃ G q m, DK W w1.heap.size rb q m (819667 + 4098 * j) G ∧ DK W w1.heap.size db p1 n1 819667 F ∧ (∀ k, F k → ¬ G k) ∧ Below w1.heap.size w1 W ∧ Lies w13.heap.size w14.heap.size W (fun W => OpsIn W ua gl) ∧ Spare w13.heap.size w14.heap.size G ∧ Lies wA.heap.size w6.heap.size W (fun W => ImgI W sa (lookI p1)) ∧ Spare wA.heap.size w6.heap.size G ∧ Lies w6.heap.size w7.heap.size W (fun W => ImgI W (some ⟨lg, 0, none⟩) CI) ∧ Spare w6.heap.size w7.heap.size G) := ⟨_, fun _ _ => Iff.rfl⟩
      have hS20 : S2 0 w14 := by
        have hb914 := HB13.out.trans (hb14.mono HB13.out.size)
        have hG14 := HG9.out.on hb914
        have hsz := HSZ.out
        have hsz9 := HSZ9.out
        have hlow : w1.heap.size ≤ w8.heap.size := by
          have := HD9.out.base
          have := HB9.out.size
          have q := hB113.size
          exact Nat.le_trans (Nat.le_trans HB1R.out hsz.1) (by omega)
        refine (HS2.out 0 w14).2 ⟨G, rP, CL, hG14.low hlow, HD9.out.on hb914, fun k hk hg => ?_, hB113.trans (hb14.mono hB113.size), hfl, fun k hk => .inl ?_, HWA9.out.on hb914, fun k hk => .inr ?_, HLE9.out.on hb914, fun k hk => .inr ?_⟩
        · have := (HG9.out.lt k hg).1
          have := HFR.out k hk
          omega
        · have := (HG9.out.lt k hk).2
          have := HB13.out.size
          omega
        · have := (HG9.out.lt k hk).1
          omega
        · have := (HG9.out.lt k hk).1
          omega
      have HMN : Hid (gl.length = M) := hM
      clear hgE hM hfl hb14 hB113 HB13 HG9 HD9 HB9 HWA9 HLE9 HSZ HSZ9
      go_wp2_with fail
      go_loopg [11] M (fun q s11 wx => ∃ (j : Nat), j ≤ M ∧ q = M - j ∧ s11 = .int .i64 j ∧ S2 j wx)
      case atStart => exact ⟨0, Nat.zero_le _, rfl, rfl, hS20⟩
      case round =>
        obtain ⟨j, hj, rfl, rfl, hS⟩ := hrel
        clear hS20
        by_cases hlt2 : j < M
        · have hz2 : (j : Int) < (M : Int) := by omega
          have hwj : IntKind.i64.wrap ((j : Int) + 1) = (j : Int) + 1 := by rw [IntKind.wrap_i64]; omega
          obtain ⟨G2, q2, m2, hDr, hDd, hFG, hbx, hL, hSp, hLw, hSw, hLl, hSl⟩ := (HS2.out j wr).1 hS
          obtain ⟨o, ho⟩ : ∃ o, gl[j]? = some o := ⟨_, List.getElem?_eq_getElem (by have := HMN.out; omega)⟩
          obtain ⟨b, off, rfl, hc⟩ := hL.now j o ho
          have q0 : wr.cell? ⟨b, off + j * 10, none⟩ = some (.int .i64 o.kind) := hc 0 _ rfl
          have q1 : wr.cell? ⟨b, off + j * 10 + 1, none⟩ = some (.int .i64 o.on) := hc 1 _ rfl
          have q2 : wr.cell? ⟨b, off + j * 10 + 2, none⟩ = some (.int .i64 o.n) := hc 2 _ rfl
          have q3 : wr.cell? ⟨b, off + j * 10 + 3, none⟩ = some (.string o.name) := hc 3 _ rfl
          have q4 : wr.cell? ⟨b, off + j * 10 + 4, none⟩ = some (.string o.tt) := hc 4 _ rfl
          have q5 : wr.cell? ⟨b, off + j * 10 + 5, none⟩ = some (.slice o.ba o.b.length o.bc) := hc 5 _ rfl
          have q6 : wr.cell? ⟨b, off + j * 10 + 6, none⟩ = some (.int .i64 o.p0) := hc 6 _ rfl
          have q7 : wr.cell? ⟨b, off + j * 10 + 7, none⟩ = some (.int .i64 o.p1) := hc 7 _ rfl
          have q8 : wr.cell? ⟨b, off + j * 10 + 8, none⟩ = some (.int .i64 o.p2) := hc 8 _ rfl
          have q9 : wr.cell? ⟨b, off + j * 10 + 9, none⟩ = some (.slice o.pa o.pn o.pc) := hc 9 _ rfl
          have HPL : Hid (Calls Try.prog 9 #[.pointer (some ⟨rb, 0, none⟩), .agg #[.int .i64 o.kind, .int .i64 o.on, .int .i64 o.n, .string o.name, .string o.tt, .slice o.ba o.b.length o.bc, .int .i64 o.p0, .int .i64 o.p1, .int .i64 o.p2, .slice o.pa o.pn o.pc]] wr fun e w' => ∃ E : Int, e = .returned (.int .i64 E) ∧ S2 (j + 1) w') := by
            obtain ⟨o1, o2, o3⟩ := HOK2.out j o ho
            refine (play_step hDr hbx (by omega) o o1 o2 o3).mono fun e w' ⟨he, G', hD', hMv, hb'⟩ => ⟨_, he, (HS2.out _ _).2 ⟨G', _, _, hD'.mono (by omega), (hDd.other hFG hMv).1, (hDd.other hFG hMv).2, hb', (hL.mv hSp hMv).1, (hL.mv hSp hMv).2, (hLw.mv hSw hMv).1, (hLw.mv hSw hMv).2, (hLl.mv hSl hMv).1, (hLl.mv hSl hMv).2⟩⟩
          clear hS hDr hDd hFG hbx hL hSp hLw hSw hLl hSl hc HS2 HOK2 ho HMN
          go_wp2_with fail
          refine HPL.out.mono ?_
          rintro e w15 ⟨E15, rfl, hS15⟩
          clear HPL q0 q1 q2 q3 q4 q5 q6 q7 q8 q9
          go_wp2_with fail
          go_roundg (M - (j + 1))
          case measure => go_light; omega
          case rel => go_light; exact ⟨j + 1, by omega, rfl, by simp, hS15⟩
        · obtain rfl : j = M := by omega
          have hz2 : ¬ ((j : Int) < (j : Int)) := by omega
          obtain ⟨G2, q2, m2, hDr, hDd, hFG, hbx, hL, hSp, hLw, hSw, hLl, hSl⟩ := (HS2.out j wr).1 hS
          have HBF : Hid (Below w1.heap.size w1 wr) := hbx
          have HSF : Hid (Calls Try.prog 11 #[.pointer (some ⟨db, 0, none⟩)] wr fun e w' => ∃ a c, e = .returned (.slice a wasL c) ∧ ImgI w' a (lookI p1) ∧ Below wr.heap.size wr w') := by
            have := seen_is hDd (by decide)
            rw [HWL.out] at this
            exact this.mono fun e w' ⟨a, c, he, hl, hb⟩ => ⟨a, c, he, hl.now, hb⟩
          have HIF : Hid (∀ W a c, ImgI W a (lookI p1) → Below wr.heap.size wr W → Calls Try.prog 16 #[.slice a wasL c, .slice sa wasL sc] W fun e w' => e = .returned (.bool true) ∧ Below wr.heap.size wr w') := fun W a c h1 hb => by
            have := image_is c sc h1 ((hLw.on hb).now) (by have := HW64.out; omega) HWD.out
            rw [HWL.out] at this
            exact this.mono fun e w' ⟨he, m, hm⟩ => ⟨he, by rw [hm]; exact below_drewN hb m⟩
          have HCF : Hid (∀ W, Below wr.heap.size wr W → Calls Try.prog 12 #[.pointer (some ⟨db, 0, none⟩), .slice A.pa A.ps.length A.pc] W fun e w' => ∃ g, e = .returned (.slice (some ⟨g, 0, none⟩) CL CL) ∧ ImgI w' (some ⟨g, 0, none⟩) CI ∧ Below wr.heap.size wr w') := fun W hb => by
            have := (hDd.on hb).crash (by decide) A.ps A.pa A.pc (HP.out.ps.on (hbx.trans (hb.mono hbx.size)))
            rw [HCI.out, HCL.out] at this
            exact this.mono fun e w' ⟨g, he, hl, hb'⟩ => ⟨g, he, hl.now, hb.trans (hb'.mono hb.size)⟩
          have HJF : Hid (∀ W a c, ImgI W a CI → Below wr.heap.size wr W → Calls Try.prog 16 #[.slice a CL c, .slice (some ⟨lg, 0, none⟩) CL CL] W fun e w' => e = .returned (.bool true) ∧ Below wr.heap.size wr w') := fun W a c h1 hb => by
            have := image_is c CL h1 ((hLl.on hb).now) (by rw [HCL.out]; omega) HCD2.out
            rw [HCL.out] at this
            exact this.mono fun e w' ⟨he, m, hm⟩ => ⟨he, by rw [hm]; exact below_drewN hb m⟩
          have HBXF : Hid (∀ W, Below wr.heap.size wr W → W.cell? ⟨w.heap.size, 2, none⟩ = some (.slice A.pa A.ps.length A.pc)) := fun W hb => (HBX.out W (hbx.trans (hb.mono hbx.size))).2.1
          have HENF : Hid (∀ W, Below wr.heap.size wr W → Below w.heap.size w W) := fun W hb => HEND.out W (hbx.trans (hb.mono hbx.size))
          clear hS HS2 HOK2 HMN hDr hDd hFG hbx hL hSp hLw hSw hLl hSl HBX HEND HP HWD HCD2 HW64 HCI HI1 HNUM HFR HB1R HBF
          go_wp2_with fail
          refine HSF.out.mono ?_
          rintro e w16 ⟨fa, fc, rfl, hi16, hb16⟩
          go_wp2_with fail
          refine (HIF.out w16 fa fc hi16 hb16).mono ?_
          rintro e w17 ⟨rfl, hb17⟩
          have b2 := HBXF.out w17 hb17
          go_wp2_with fail
          refine (HCF.out w17 hb17).mono ?_
          rintro e w18 ⟨fg, rfl, hi18, hb18⟩
          clear b2
          go_wp2_with fail
          refine (HJF.out w18 _ _ hi18 hb18).mono ?_
          rintro e w19 ⟨rfl, hb19⟩
          clear HSF HIF HCF HJF hi16 hi18 hb16 hb17 hb18
          by_cases h0 : i = 0
          · have hw1 := HW1.out h0
            subst hw1
            have hz0 : ¬ (0 : Int) < (i : Int) := by omega
            go_wp2_with fail
            go_ret
            exact ⟨rfl, HENF.out _ hb19⟩
          · have hz0 : (0 : Int) < (i : Int) := by omega
            go_wp2_with fail
            go_ret
            exact ⟨rfl, HENF.out _ hb19⟩
end Go.Proofs.Ytbnlgohaaadgeaa

/- What the laws of stage 4 are handed, read out of memory. -/
namespace Go.Proofs.Ytbnlgohaaadgeaa
open Go.ChangeShapes Go.WideShapes Go.ChangeAt Go.RowKit Go.Deep Go.Joins
set_option maxRecDepth 100000

theorem cellsI : Try.prog.cellsOf 3 = 1 := by kernel_rfl
theorem cells8 : Try.prog.cellsOf 5 = 1 := by kernel_rfl
theorem cellsS : Try.prog.cellsOf 9 = 1 := by kernel_rfl
theorem cellsB : Try.prog.cellsOf 29 = 1 := by kernel_rfl
theorem cellsP : Try.prog.cellsOf 23 = 1 := by kernel_rfl
theorem cellsPl : Try.prog.cellsOf 31 = 3 := by kernel_rfl
theorem cellsO : Try.prog.cellsOf 33 = 10 := by kernel_rfl
theorem cellsOs : Try.prog.cellsOf 22 = 1 := by kernel_rfl
theorem add_at (b o : Nat) (r : Nat) : (⟨b, o, none⟩ : Addr).add r = ⟨b, o + r, none⟩ := by simp [Addr.add]
theorem byte_of {n : Int} (h : (Lit.int .u8 n).wf = true) : ∃ m : Nat, n = m ∧ m < 256 := by
  have := bounds_u8 h
  exact ⟨n.toNat, by omega, by omega⟩
theorem open_bytesL {H : Type} {enc : TypeId × Value → H} {W : World} {fuel : Nat} {v : Value} {y : DataW H × List MemPlace} (h : DataW.trod enc Try.prog W 0 (fun _ => true) true fuel 29 [v] = some y) :
    ∃ (a : Option Addr) (cap : Nat) (l : List Nat), v = .slice a l.length cap ∧ (a = none → l.length = 0 ∧ cap = 0) ∧ l.length ≤ cap ∧ BL W a l := by
  rcases open_ints Try.underlying29 Try.underlying5 cells8 h with ⟨hcs, _⟩ | ⟨a, len, cap, zs, hcs, _, hl, hm, hz, hx, hcell, hwf⟩
  · exact ⟨none, 0, [], by simpa using hcs, fun _ => ⟨rfl, rfl⟩, Nat.le_refl _, fun j hj => absurd hj (Nat.not_lt_zero _)⟩
  · simp only [if_true] at hz
    have hlen : ((List.range len).map (fun j => (zs.getD j 0).toNat % 256)).length = len := by simp
    refine ⟨some a, cap, (List.range len).map (fun j => (zs.getD j 0).toNat % 256), by rw [hlen]; simpa using hcs, fun e => (by cases e), by rw [hlen]; exact hl, fun j hj => ?_⟩
    rw [hlen] at hj
    obtain ⟨b, off, sp⟩ := a
    have h5 := hcell j (by omega)
    obtain rfl : sp = none := by simpa [Addr.add] using World.cell?_spot (hcell 0 (by omega))
    rw [add_at] at h5
    refine ⟨b, off, rfl, ?_⟩
    have hmem : zs.getD j 0 ∈ zs := by
      rw [List.getD_eq_getElem?_getD, List.getElem?_eq_getElem (by omega)]; exact List.getElem_mem _
    obtain ⟨m, hm1, hm2⟩ := byte_of (hwf _ hmem)
    have e : ((List.range len).map (fun j => (zs.getD j 0).toNat % 256)).getD j 0 = (zs.getD j 0).toNat % 256 := by simp [List.getD, hj]
    show W.cell? _ = some (.int .u8 ((((List.range len).map (fun j => (zs.getD j 0).toNat % 256)).getD j 0 : Nat) : Int))
    rw [e]
    rw [hm1] at h5 ⊢
    rw [Int.toNat_natCast, Nat.mod_eq_of_lt hm2]
    exact h5
theorem open_picksL {H : Type} {enc : TypeId × Value → H} {W : World} {fuel : Nat} {v : Value} {y : DataW H × List MemPlace} (h : DataW.trod enc Try.prog W 0 (fun _ => true) true fuel 23 [v] = some y) :
    ∃ (pa : Option Addr) (pc : Nat) (ps : List Int), v = .slice pa ps.length pc ∧ PicksL W pa ps := by
  rcases open_ints Try.underlying23 Try.underlying3 cellsI h with ⟨hcs, _⟩ | ⟨a, len, cap, zs, hcs, _, hl, hm, hz, hx, hcell, hwf⟩
  · exact ⟨none, 0, [], by simpa using hcs, fun j hj => absurd hj (Nat.not_lt_zero _)⟩
  · simp only [if_true] at hz
    have hlen : (zs.take len).length = len := by rw [List.length_take]; omega
    obtain ⟨b, o, sp⟩ := a
    refine ⟨some ⟨b, o, sp⟩, cap, zs.take len, by rw [hlen]; simpa using hcs, fun j hj => ?_⟩
    rw [hlen] at hj
    have h5 := hcell j (by omega)
    obtain rfl : sp = none := by simpa [Addr.add] using World.cell?_spot (hcell 0 (by omega))
    rw [add_at] at h5
    refine ⟨b, o, rfl, ?_⟩
    have e : (zs.take len).getD j 0 = zs.getD j 0 := by simp only [List.getD, List.getElem?_take]; rw [if_pos hj]
    rw [e]
    exact h5
theorem cells10_of {w : World} {a : Addr} {cs : List Value} (h : w.cells? 0 a 10 = some cs) : ∃ v0 v1 v2 v3 v4 v5 v6 v7 v8 v9, cs = [v0, v1, v2, v3, v4, v5, v6, v7, v8, v9] ∧ ∀ j v, cs[j]? = some v → w.cell? (a.add j) = some v := by
  obtain ⟨_, hl, hc⟩ := World.cells?_some h
  match cs, hl with
  | [v0, v1, v2, v3, v4, v5, v6, v7, v8, v9], _ =>
    refine ⟨v0, v1, v2, v3, v4, v5, v6, v7, v8, v9, rfl, fun j v hj => ?_⟩
    have hj' : j < 10 := (List.getElem?_eq_some_iff.1 hj).1
    have := hc j hj'
    rw [this]
    rw [← hj, List.getElem?_eq_getElem hj']
theorem open_op {H : Type} {enc : TypeId × Value → H} {W : World} {fuel b o : Nat} {cs : List Value} {y : DataW H × List MemPlace} (hc : W.cells? 0 ⟨b, o, none⟩ 10 = some cs) (h : DataW.trod enc Try.prog W 0 (fun _ => true) true fuel 33 cs = some y) :
    ∃ q : OpV, (∀ (j : Nat) (v : Value), q.cells[j]? = some v → W.cell? ⟨b, o + j, none⟩ = some v) ∧ q.ok W ∧ q.b.length ≤ q.bc := by
  obtain ⟨v0, v1, v2, v3, v4, v5, v6, v7, v8, v9, rfl, hcell⟩ := cells10_of hc
  obtain ⟨xs, m, _, hx, _, hlen, hfs⟩ := DataW.trod_struct Try.underlying33 h
  obtain ⟨y0, y1, y2, y3, y4, y5, y6, y7, rfl⟩ : ∃ y0 y1 y2 y3 y4 y5 y6 y7, xs = [y0, y1, y2, y3, y4, y5, y6, y7] := by
    match xs, hlen with
    | [a, b, c, d, e, f, g, h], _ => exact ⟨a, b, c, d, e, f, g, h, rfl⟩
  have f0 := hfs 0 _ rfl
  have f1 := hfs 1 _ rfl
  have f2 := hfs 2 _ rfl
  have f3 := hfs 3 _ rfl
  have f4 := hfs 4 _ rfl
  have f5 := hfs 5 _ rfl
  have f6 := hfs 6 _ rfl
  have f7 := hfs 7 _ rfl
  simp [cellsI] at f0 f1 f2
  simp [cellsS] at f3 f4
  simp [cellsB] at f5
  simp [cellsPl] at f6
  simp [cellsP] at f7
  obtain ⟨k0, e0, _, _⟩ := DataW.trod_int Try.underlying3 f0
  obtain ⟨k1, e1, _, _⟩ := DataW.trod_int Try.underlying3 f1
  obtain ⟨k2, e2, _, _⟩ := DataW.trod_int Try.underlying3 f2
  obtain ⟨s3, e3, _, _⟩ := DataW.trod_string Try.underlying9 f3
  obtain ⟨s4, e4, _, _⟩ := DataW.trod_string Try.underlying9 f4
  obtain ⟨ba, bc, l, e5, hn5, hl5, hb5⟩ := open_bytesL f5
  obtain ⟨zs, m6, _, _, _, hlen6, hfs6⟩ := DataW.trod_struct Try.underlying31 f6
  obtain ⟨z0, z1, z2, rfl⟩ : ∃ z0 z1 z2, zs = [z0, z1, z2] := by
    match zs, hlen6 with
    | [a, b, c], _ => exact ⟨a, b, c, rfl⟩
  have g0 := hfs6 0 _ rfl
  have g1 := hfs6 1 _ rfl
  have g2 := hfs6 2 _ rfl
  simp [cellsI] at g0 g1 g2
  obtain ⟨p0, e6, _, _⟩ := DataW.trod_int Try.underlying3 g0
  obtain ⟨p1, e7, _, _⟩ := DataW.trod_int Try.underlying3 g1
  obtain ⟨p2, e8, _, _⟩ := DataW.trod_int Try.underlying3 g2
  obtain ⟨pa, pc, ps, e9, _⟩ := open_picksL f7
  obtain rfl : v0 = .int .i64 k0 := by simpa using e0
  obtain rfl : v1 = .int .i64 k1 := by simpa using e1
  obtain rfl : v2 = .int .i64 k2 := by simpa using e2
  obtain rfl : v3 = .string s3 := by simpa using e3
  obtain rfl : v4 = .string s4 := by simpa using e4
  subst e5
  obtain rfl : v6 = .int .i64 p0 := by simpa using e6
  obtain rfl : v7 = .int .i64 p1 := by simpa using e7
  obtain rfl : v8 = .int .i64 p2 := by simpa using e8
  subst e9
  refine ⟨⟨k0, k1, k2, s3, s4, ba, bc, l, p0, p1, p2, pa, ps.length, pc⟩, fun j v hj => ?_, ⟨hb5, hn5⟩, hl5⟩
  have := hcell j v hj
  rwa [add_at] at this
theorem open_ops {H : Type} {enc : TypeId × Value → H} {W : World} {fuel : Nat} {v : Value} {y : DataW H × List MemPlace} (h : DataW.trod enc Try.prog W 0 (fun _ => true) true fuel 22 [v] = some y) :
    ∃ (a : Option Addr) (c : Nat) (l : List OpV), v = .slice a l.length c ∧ OpsIn W a l ∧ OpsOk W W.heap.size l := by
  rcases open_slice Try.underlying22 h with ⟨hcs, _⟩ | ⟨a, len, cap, m, n, D, Pl, hcs, _, hl, _, hm, hx, hel⟩
  · exact ⟨none, 0, [], by simpa using hcs, fun i o ho => by simp at ho, fun o ho => by simp at ho⟩
  · simp only [if_true] at hm
    subst hm
    obtain ⟨b, o, sp⟩ := a
    have hsp : 0 < len → sp = none := fun h0 => by
      obtain ⟨cs', hc, _⟩ := hel 0 (by omega)
      rw [cellsO] at hc
      obtain ⟨v0, v1, v2, v3, v4, v5, v6, v7, v8, v9, rfl, hcell⟩ := cells10_of hc
      have := hcell 0 v0 rfl
      simpa [Addr.add] using World.cell?_spot this
    have hall : ∀ i, ∃ q : OpV, i < len → ((∀ (j : Nat) (v : Value), q.cells[j]? = some v → W.cell? ⟨b, o + i * 10 + j, none⟩ = some v) ∧ q.ok W ∧ q.b.length ≤ q.bc) := fun i => by
      by_cases hi : i < len
      · obtain rfl := hsp (by omega)
        obtain ⟨cs', hc, ht⟩ := hel i (by omega)
        rw [cellsO, add_at] at hc
        obtain ⟨q, hq⟩ := open_op hc ht
        exact ⟨q, fun _ => hq⟩
      · exact ⟨⟨0, 0, 0, ⟨#[]⟩, ⟨#[]⟩, none, 0, [], 0, 0, 0, none, 0, 0⟩, fun h => absurd h hi⟩
    obtain ⟨Q, hQ⟩ := Classical.axiomOfChoice hall
    have hlen : ((List.range len).map Q).length = len := by simp
    have hat : ∀ i q, ((List.range len).map Q)[i]? = some q → i < len ∧ q = Q i := fun i q hq => by
      have hi : i < len := by have := (List.getElem?_eq_some_iff.1 hq).1; rwa [hlen] at this
      rw [List.getElem?_map, List.getElem?_range hi] at hq
      exact ⟨hi, (Option.some.inj hq).symm⟩
    refine ⟨some ⟨b, o, sp⟩, m, (List.range len).map Q, by rw [hlen]; simpa using hcs, fun i q hq => ?_, fun q hq => ?_⟩
    · obtain ⟨hi, rfl⟩ := hat i q hq
      obtain rfl := hsp (by omega)
      exact ⟨b, o, rfl, (hQ i hi).1⟩
    · obtain ⟨i, hi, rfl⟩ := List.mem_map.1 hq
      obtain ⟨_, h2, h3⟩ := hQ i (List.mem_range.1 hi)
      refine ⟨h2, h3, fun ad e h0 => ?_⟩
      obtain ⟨b', o', e', hc⟩ := h2.1 0 h0
      rw [e] at e'
      have : ad = ⟨b', o', none⟩ := Option.some.inj e'
      rw [this]
      exact World.block_lt_of_cell? _ _ hc
theorem open_power {H : Type} {enc : TypeId × Value → H} {W : World} {fuel : Nat} {u0 u1 u2 u3 u4 : Value} {y : DataW H × List MemPlace} (h : DataW.trod enc Try.prog W 0 (fun _ => true) true fuel 25 [u0, u1, u2, u3, u4] = some y) :
    ∃ A : PowA, u0 = .slice A.oa A.ops.length A.oc ∧ u1 = .int .i64 A.off ∧ u2 = .slice A.pa A.ps.length A.pc ∧ u3 = .slice A.ma A.more.length A.mc ∧ u4 = .slice A.na A.nx.length A.nc ∧ PowIn W W.heap.size A := by
  obtain ⟨xs, m, _, hx, _, hlen, hfs⟩ := DataW.trod_struct Try.underlying25 h
  obtain ⟨y0, y1, y2, y3, y4, rfl⟩ : ∃ y0 y1 y2 y3 y4, xs = [y0, y1, y2, y3, y4] := by
    match xs, hlen with
    | [a, b, c, d, e], _ => exact ⟨a, b, c, d, e, rfl⟩
  have f0 := hfs 0 _ rfl
  have f1 := hfs 1 _ rfl
  have f2 := hfs 2 _ rfl
  have f3 := hfs 3 _ rfl
  have f4 := hfs 4 _ rfl
  simp [cellsOs] at f0 f3
  simp [cellsI] at f1
  simp [cellsP] at f2 f4
  obtain ⟨oa, oc, ops, e0, h1, h2⟩ := open_ops f0
  obtain ⟨off, e1, _, _⟩ := DataW.trod_int Try.underlying3 f1
  obtain ⟨pa, pc, ps, e2, h3⟩ := open_picksL f2
  obtain ⟨ma, mc, more, e3, h4, h5⟩ := open_ops f3
  obtain ⟨na, nc, nx, e4, h6⟩ := open_picksL f4
  exact ⟨⟨oa, oc, ops, off, pa, pc, ps, ma, mc, more, na, nc, nx⟩, e0, by simpa using e1, e2, e3, e4, ⟨h1, h2, h3, h4, h5, h6⟩⟩
end Go.Proofs.Ytbnlgohaaadgeaa

/- Two disks alike but for what their plans refuse; one step of both. -/
namespace Go.Proofs.Ytbnlgohaaadgeaa
open Go.RowKit Go.Maps Go.Sort Go.Joins
set_option maxRecDepth 100000
set_option maxRecDepth 100000

/-- No power goes off. -/
def Calm (p : DM) : Prop := p.off = false ∧ p.po = 0 ∧ p.ah ≤ p.st
theorem Calm.hit {p : DM} (h : Calm p) : hitB p.st p.ah p.po = false := by
  unfold hitB
  rw [h.2.1, beq_eq_false_iff_ne]
  have := h.2.2
  omega
theorem Calm.err {p : DM} (h : Calm p) : strokeE p = 0 := by
  unfold strokeE
  rw [h.hit]
  rfl
theorem Calm.str {p : DM} (h : Calm p) : strokeM p = { p with st := p.st + 1 } := by
  unfold strokeM
  rw [h.hit]
  rfl
theorem Calm.stroke {p : DM} (h : Calm p) : Calm (strokeM p) := by
  rw [h.str]
  exact ⟨h.1, h.2.1, by show p.ah ≤ p.st + 1; have := h.2.2; omega⟩
/-- Alike but for strokes and plans. -/
structure Sim (a b : DM) : Prop where
  room : a.room = b.room
  safe : a.safe = b.safe
  seen : a.seen = b.seen
  ms : a.ms = b.ms
  fm : a.fm = b.fm
  off : a.off = b.off
theorem Sim.stroke {a b : DM} (h : Sim a b) (ha : Calm a) (hb : Calm b) : Sim (strokeM a) (strokeM b) := by
  rw [ha.str, hb.str]
  exact ⟨h.room, h.safe, h.seen, h.ms, h.fm, h.off⟩
theorem Sim.fnd {a b : DM} (h : Sim a b) (s : ByteArray) : findM a.off a.seen s = findM b.off b.seen s := by rw [h.off, h.seen]
theorem Sim.used {a b : DM} (h : Sim a b) : usedM a = usedM b := by unfold usedM; rw [h.seen, h.fm]
theorem Sim.crash {a b : DM} (h : Sim a b) (ps : List Int) : crashI a ps = crashI b ps := by
  unfold crashI leftM
  rw [h.safe, h.ms, h.fm]
theorem Sim.look {a b : DM} (h : Sim a b) : lookI a = lookI b := by
  unfold lookI seenI
  rw [h.off, h.seen, h.fm]
theorem Sim.setF {a b : DM} (h : Sim a b) (i : Nat) (m : FM) : Sim { a with fm := put1 a.fm i m } { b with fm := put1 b.fm i m } := ⟨h.room, h.safe, h.seen, h.ms, by show put1 a.fm i m = put1 b.fm i m; rw [h.fm], h.off⟩
theorem Sim.change {a b : DM} (h : Sim a b) (m : Mov) : Sim (changeM a m) (changeM b m) := ⟨h.room, h.safe, by show m.on a.seen = m.on b.seen; rw [h.seen], by show a.ms ++ [m] = b.ms ++ [m]; rw [h.ms], h.fm, h.off⟩
theorem Sim.safeN {a b : DM} (h : Sim a b) : Sim (safeN a) (safeN b) := ⟨h.room, by show movesOn a.safe a.ms = movesOn b.safe b.ms; rw [h.safe, h.ms], h.seen, rfl, h.fm, h.off⟩
/-- What a step leaves of the power. -/
structure Same (p q : DM) : Prop where
  ah : q.ah = p.ah
  po : q.po = p.po
  pf : q.pf = p.pf
  pt : q.pt = p.pt
theorem Same.refl (p : DM) : Same p p := ⟨rfl, rfl, rfl, rfl⟩
theorem same_stroke (p : DM) : Same p (strokeM p) := ⟨rfl, rfl, rfl, rfl⟩
/-- A step that the plan does not refuse, on both. -/
structure Both (a b : DM) (n : Nat) (ra rb : DM × Nat × Nat) : Prop where
  err : ra.2.2 = rb.2.2
  num : ra.2.1 = rb.2.1
  sim : Sim ra.1 rb.1
  e44 : ra.2.2 ≠ 44
  e45 : ra.2.2 ≠ 45
  yes : ra.2.2 = 0 → ra.1.st = a.st + 1 ∧ rb.1.st = b.st + 1
  no : ra.2.2 ≠ 0 → ra.1.st = a.st ∧ rb.1.st = b.st
  sa : Same a ra.1
  sb : Same b rb.1
theorem both_same {a b : DM} {n e : Nat} (h : Sim a b) (he : e ≠ 0) (h44 : e ≠ 44) (h45 : e ≠ 45) : Both a b n (a, n, e) (b, n, e) := ⟨rfl, rfl, h, h44, h45, fun q => absurd q he, fun _ => ⟨rfl, rfl⟩, Same.refl _, Same.refl _⟩
theorem both_zero {a b A B : DM} {n m : Nat} (h : Sim A B) (h1 : A.st = a.st + 1) (h2 : B.st = b.st + 1) (sa : Same a A) (sb : Same b B) : Both a b n (A, m, 0) (B, m, 0) := ⟨rfl, rfl, h, by show (0 : Nat) ≠ 44; decide, by show (0 : Nat) ≠ 45; decide, fun _ => ⟨h1, h2⟩, fun q => absurd rfl q, sa, sb⟩
theorem findM_calm {off : Bool} {D : DataW Nat} {s : ByteArray} {e : Nat} (ho : off = false) (h : findM off D s = (none, e)) : e = 41 ∨ e = 42 := by
  rcases findM_none h with q | q | q
  · exact .inl q
  · exact .inr q
  · unfold findM at h
    rw [ho] at h
    simp only [Bool.false_eq_true, if_false] at h
    split at h
    · split at h
      · cases h
      · injection h with _ q2; omega
    · injection h with _ q2; omega
theorem app_both {a b : DM} (h : Sim a b) (ha : Calm a) (hb : Calm b) (hpf : b.pf = 0) (n : Nat) (s : ByteArray) (l : List Nat) (hroom : l.length + usedM a ≤ a.room) :
    ((appD a s l n).2 = 44 ∧ (appD a s l n).1 = strokeM a ∧ appN a n s l = n ∧ fullB (a.st + 1) a.ah a.pf a.pt = true) ∨
    (Both a b n ((appD a s l n).1, appN a n s l, (appD a s l n).2) ((appD b s l n).1, appN b n s l, (appD b s l n).2) ∧ ((appD a s l n).2 = 0 → fullB (a.st + 1) a.ah a.pf a.pt = false)) := by
  have ea := ha.err
  have eb := hb.err
  have hS := h.stroke ha hb
  have fa : fullM (strokeM a) l.length = fullB (a.st + 1) a.ah a.pf a.pt := by
    have : decide (l.length + usedM (strokeM a) ≤ (strokeM a).room) = true := decide_eq_true hroom
    unfold fullM
    rw [this]
    show (fullB (a.st + 1) a.ah a.pf a.pt || !true) = _
    simp
  have fb : fullM (strokeM b) l.length = false := by
    have hr : l.length + usedM b ≤ b.room := by rw [← h.used, ← h.room]; exact hroom
    have : decide (l.length + usedM (strokeM b) ≤ (strokeM b).room) = true := decide_eq_true hr
    unfold fullM
    rw [this]
    show (fullB (b.st + 1) b.ah b.pf b.pt || !true) = _
    unfold fullB
    rw [hpf]
    rfl
  have hsz : size a.seen = size b.seen := by rw [h.seen]
  unfold appN appD madeM
  rw [fa, fb, ← h.fnd s, ← hsz, ea, eb]
  obtain ⟨q, e, hf⟩ : ∃ q e, findM a.off a.seen s = (q, e) := ⟨_, _, rfl⟩
  rw [hf]
  cases q with
  | some i =>
    have e1 : (decide ((some i, e) = ((none : Option Nat), 42))) = false := decide_eq_false (by simp)
    rw [e1]
    cases hF : fullB (a.st + 1) a.ah a.pf a.pt with
    | true => exact .inl ⟨rfl, rfl, rfl, rfl⟩
    | false =>
      refine .inr ⟨both_zero (A := { strokeM a with fm := put1 a.fm i (addM (a.fm i) l) }) (B := { strokeM b with fm := put1 b.fm i (addM (b.fm i) l) }) ?_ rfl rfl ⟨rfl, rfl, rfl, rfl⟩ ⟨rfl, rfl, rfl, rfl⟩, fun _ => rfl⟩
      exact ⟨hS.room, hS.safe, hS.seen, hS.ms, by show put1 a.fm i (addM (a.fm i) l) = put1 b.fm i (addM (b.fm i) l); rw [h.fm], hS.off⟩
  | none =>
    by_cases e42 : e = 42
    · subst e42
      have e1 : (decide (((none : Option Nat), 42) = ((none : Option Nat), 42))) = true := decide_eq_true rfl
      rw [e1]
      simp only [if_true, Bool.true_and]
      by_cases h64 : 64 ≤ size a.seen
      · simp only [if_pos h64, decide_eq_true h64, Bool.not_true, Bool.false_and, Bool.false_eq_true, if_false]
        exact .inr ⟨both_same h (by decide) (by decide) (by decide), fun q => by cases q⟩
      · simp only [if_neg h64, decide_eq_false h64, Bool.not_false, Bool.true_and]
        cases hF : fullB (a.st + 1) a.ah a.pf a.pt with
        | true =>
          simp only [if_true, Bool.not_true, Bool.false_eq_true, if_false]
          exact .inl ⟨rfl, trivial, trivial, trivial⟩
        | false =>
          simp only [Bool.false_eq_true, if_false, Bool.not_false, if_true]
          refine .inr ⟨both_zero ?_ rfl rfl ⟨rfl, rfl, rfl, rfl⟩ ⟨rfl, rfl, rfl, rfl⟩, fun _ => trivial⟩
          have := hS.change ⟨some n, ⟨#[]⟩, s⟩
          exact ⟨this.room, this.safe, this.seen, this.ms, by show put1 a.fm n _ = put1 b.fm n _; rw [h.fm], this.off⟩
    · have e1 : (decide (((none : Option Nat), e) = ((none : Option Nat), 42))) = false := decide_eq_false (by simp [e42])
      rw [e1]
      simp only [if_neg e42, Bool.false_and, Bool.false_eq_true, if_false]
      have := findM_calm ha.1 hf
      exact .inr ⟨both_same h (by omega) (by omega) (by omega), fun q => by omega⟩
theorem cut_both {a b : DM} (h : Sim a b) (ha : Calm a) (hb : Calm b) (n : Nat) (s : ByteArray) (k : Int) : Both a b n ((cutD a s k).1, n, (cutD a s k).2) ((cutD b s k).1, n, (cutD b s k).2) := by
  unfold cutD
  rw [← h.fnd s, ha.err, hb.err]
  obtain ⟨q, e, hf⟩ : ∃ q e, findM a.off a.seen s = (q, e) := ⟨_, _, rfl⟩
  rw [hf]
  cases q with
  | none =>
    have := findM_calm ha.1 hf
    exact both_same (e := e) h (by omega) (by omega) (by omega)
  | some i =>
    show Both a b n ((if k < 0 ∨ ((a.fm i).sz : Int) < k then _ else _ : DM × Nat).1, n, (if k < 0 ∨ ((a.fm i).sz : Int) < k then _ else _ : DM × Nat).2) ((if k < 0 ∨ ((b.fm i).sz : Int) < k then _ else _ : DM × Nat).1, n, (if k < 0 ∨ ((b.fm i).sz : Int) < k then _ else _ : DM × Nat).2)
    rw [← h.fm]
    by_cases hk : k < 0 ∨ ((a.fm i).sz : Int) < k
    · rw [if_pos hk, if_pos hk]; exact both_same (e := 43) h (by decide) (by decide) (by decide)
    · rw [if_neg hk, if_neg hk]
      refine both_zero ?_ rfl rfl ⟨rfl, rfl, rfl, rfl⟩ ⟨rfl, rfl, rfl, rfl⟩
      have := h.stroke ha hb
      exact ⟨this.room, this.safe, this.seen, this.ms, rfl, this.off⟩
theorem sync_both {a b : DM} (h : Sim a b) (ha : Calm a) (hb : Calm b) (n : Nat) (s : ByteArray) : Both a b n ((syncM a s).1, n, (syncM a s).2) ((syncM b s).1, n, (syncM b s).2) := by
  unfold syncM
  rw [← h.fnd s, ha.err, hb.err]
  obtain ⟨q, e, hf⟩ : ∃ q e, findM a.off a.seen s = (q, e) := ⟨_, _, rfl⟩
  rw [hf]
  cases q with
  | none =>
    have := findM_calm ha.1 hf
    exact both_same (e := e) h (by omega) (by omega) (by omega)
  | some i =>
    refine both_zero (A := { strokeM a with fm := put1 a.fm i (safeM (a.fm i)) }) (B := { strokeM b with fm := put1 b.fm i (safeM (b.fm i)) }) ?_ rfl rfl ⟨rfl, rfl, rfl, rfl⟩ ⟨rfl, rfl, rfl, rfl⟩
    have := h.stroke ha hb
    exact ⟨this.room, this.safe, this.seen, this.ms, by show put1 a.fm i (safeM (a.fm i)) = put1 b.fm i (safeM (b.fm i)); rw [h.fm], this.off⟩
theorem names_both {a b : DM} (h : Sim a b) (ha : Calm a) (hb : Calm b) (n : Nat) : Both a b n ((syncN a).1, n, (syncN a).2) ((syncN b).1, n, (syncN b).2) := by
  unfold syncN
  rw [ha.err, hb.err, ha.1, hb.1]
  exact both_zero (h.stroke ha hb).safeN rfl rfl ⟨rfl, rfl, rfl, rfl⟩ ⟨rfl, rfl, rfl, rfl⟩
theorem ren_both {a b : DM} (h : Sim a b) (ha : Calm a) (hb : Calm b) (n : Nat) (s t : ByteArray) : Both a b n ((renameD a s t).1, n, (renameD a s t).2) ((renameD b s t).1, n, (renameD b s t).2) := by
  unfold renameD
  rw [← h.fnd s, ha.err, hb.err]
  obtain ⟨q, e, hf⟩ : ∃ q e, findM a.off a.seen s = (q, e) := ⟨_, _, rfl⟩
  rw [hf]
  cases q with
  | none =>
    have := findM_calm ha.1 hf
    show Both a b n (a, n, if e ≠ 45 ∧ okN t = false then 41 else e) (b, n, if e ≠ 45 ∧ okN t = false then 41 else e)
    split
    · exact both_same h (by decide) (by decide) (by decide)
    · exact both_same h (by omega) (by omega) (by omega)
  | some i =>
    by_cases ht : okN t = true
    · simp only [if_pos ht]
      by_cases hst : s.toList = t.toList
      · simp only [if_pos hst]
        exact both_zero (h.stroke ha hb) rfl rfl ⟨rfl, rfl, rfl, rfl⟩ ⟨rfl, rfl, rfl, rfl⟩
      · simp only [if_neg hst]
        exact both_zero ((h.stroke ha hb).change _) rfl rfl ⟨rfl, rfl, rfl, rfl⟩ ⟨rfl, rfl, rfl, rfl⟩
    · simp only [if_neg ht]
      exact both_same h (by decide) (by decide) (by decide)
theorem rem_both {a b : DM} (h : Sim a b) (ha : Calm a) (hb : Calm b) (n : Nat) (s : ByteArray) : Both a b n ((removeD a s).1, n, (removeD a s).2) ((removeD b s).1, n, (removeD b s).2) := by
  unfold removeD
  rw [← h.fnd s, ha.err, hb.err]
  obtain ⟨q, e, hf⟩ : ∃ q e, findM a.off a.seen s = (q, e) := ⟨_, _, rfl⟩
  rw [hf]
  cases q with
  | none =>
    have := findM_calm ha.1 hf
    exact both_same (e := e) h (by omega) (by omega) (by omega)
  | some i => exact both_zero ((h.stroke ha hb).change _) rfl rfl ⟨rfl, rfl, rfl, rfl⟩ ⟨rfl, rfl, rfl, rfl⟩
theorem step_both {a b : DM} (h : Sim a b) (ha : Calm a) (hb : Calm b) (hpf : b.pf = 0) (n : Nat) (o : Dp) (hk : 1 ≤ o.kind ∧ o.kind ≤ 6) (hroom : o.l.length + usedM a ≤ a.room) :
    ((stepM a n o).2.2 = 44 ∧ (stepM a n o).1 = strokeM a ∧ (stepM a n o).2.1 = n ∧ o.kind = 1 ∧ fullB (a.st + 1) a.ah a.pf a.pt = true) ∨
    (Both a b n (stepM a n o) (stepM b n o) ∧ (o.kind = 1 → (stepM a n o).2.2 = 0 → fullB (a.st + 1) a.ah a.pf a.pt = false)) := by
  unfold stepM
  by_cases h1 : o.kind = 1
  · rw [if_pos h1, if_pos h1]
    rcases app_both h ha hb hpf n o.s o.l hroom with ⟨q1, q2, q3, q4⟩ | ⟨q1, q2⟩
    · exact .inl ⟨q1, q2, q3, h1, q4⟩
    · exact .inr ⟨q1, fun _ => q2⟩
  · rw [if_neg h1, if_neg h1]
    refine .inr ⟨?_, fun q => absurd q h1⟩
    by_cases h2 : o.kind = 2
    · rw [if_pos h2, if_pos h2]; exact cut_both h ha hb n o.s o.k
    · rw [if_neg h2, if_neg h2]
      by_cases h3 : o.kind = 3
      · rw [if_pos h3, if_pos h3]; exact sync_both h ha hb n o.s
      · rw [if_neg h3, if_neg h3]
        by_cases h4 : o.kind = 4
        · rw [if_pos h4, if_pos h4]; exact names_both h ha hb n
        · rw [if_neg h4, if_neg h4]
          by_cases h5 : o.kind = 5
          · rw [if_pos h5, if_pos h5]; exact ren_both h ha hb n o.s o.t
          · rw [if_neg h5, if_neg h5, if_pos (by omega), if_pos (by omega)]
            exact rem_both h ha hb n o.s
end Go.Proofs.Ytbnlgohaaadgeaa

/- Small calls of the laws: counted, within; a step of one of two disks. -/
namespace Go.Proofs.Ytbnlgohaaadgeaa
open Go.RowKit Go.Maps Go.Sort Go.Joins
set_option maxRecDepth 100000
set_option maxRecDepth 100000

theorem counted_yes (E : Nat) (h : E = 0 ∨ E = 44 ∨ E = 45) (W : World) : Calls Try.prog 26 #[.int .i64 (E : Nat)] W fun r w' => r = .returned (.bool true) ∧ w' = W := by
  rcases h with h | h | h
  all_goals
    subst h
    go_enter Try.func26, Try.ntmps26
    go_wp2_with fail
    go_ret
    exact ⟨rfl, rfl⟩
theorem counted_no (E : Nat) (h0 : E ≠ 0) (h1 : E ≠ 44) (h2 : E ≠ 45) (W : World) : Calls Try.prog 26 #[.int .i64 (E : Nat)] W fun r w' => r = .returned (.bool false) ∧ w' = W := by
  have k0 : (((E : Nat) : Int) == 0) = false := beq_eq_false_iff_ne.2 (by omega)
  have k1 : (((E : Nat) : Int) == 44) = false := beq_eq_false_iff_ne.2 (by omega)
  have k2 : (((E : Nat) : Int) == 45) = false := beq_eq_false_iff_ne.2 (by omega)
  clear h0 h1 h2
  go_enter Try.func26, Try.ntmps26
  go_wp2_with fail
  go_ret
  exact ⟨rfl, rfl⟩
theorem within_is (x : Int) (m : Nat) (hm : 1 ≤ m) (hm2 : m ≤ 1000) (W : World) : Calls Try.prog 17 #[.int .i64 x, .int .i64 (m : Nat)] W fun r w' => ∃ k : Nat, k < m ∧ r = .returned (.int .i64 (k : Nat)) ∧ w' = W := by
  obtain ⟨u, hu⟩ : ∃ u : Int, ((m : Nat) : Int) = u := ⟨_, rfl⟩
  rw [hu]
  have hu0 : (0 : Int) < u := by omega
  have hune : (u == 0) = false := beq_eq_false_iff_ne.2 (by omega)
  have hun1 : (u == -1) = false := beq_eq_false_iff_ne.2 (by omega)
  obtain ⟨r, hr⟩ : ∃ r, x.tmod u = r := ⟨_, rfl⟩
  have r1 := Int.tmod_lt_of_pos x hu0
  have r2 := Int.lt_tmod_of_pos x hu0
  rw [hr] at r1 r2
  have hwr : IntKind.i64.wrap r = r := by rw [IntKind.wrap_i64]; omega
  obtain ⟨s, hs⟩ : ∃ s : Int, r + u = s := ⟨_, rfl⟩
  have hws : IntKind.i64.wrap s = s := by rw [IntKind.wrap_i64]; omega
  obtain ⟨t, ht⟩ : ∃ t, s.tmod u = t := ⟨_, rfl⟩
  have t1 := Int.tmod_lt_of_pos s hu0
  have t2 : 0 ≤ s.tmod u := Int.tmod_nonneg u (by omega)
  rw [ht] at t1 t2
  have hwt : IntKind.i64.wrap t = t := by rw [IntKind.wrap_i64]; omega
  have hne : u ≠ 0 := by omega
  have HK : Hid (∃ k : Nat, k < m ∧ t = (k : Int)) := ⟨t.toNat, by omega, by omega⟩
  refine Calls.mono (?_ : Calls _ _ _ _ fun e w' => e = .returned (.int .i64 t) ∧ w' = W) (fun e w' ⟨he, hw⟩ => by
    obtain ⟨k, hk, e2⟩ := HK.out
    exact ⟨k, hk, by rw [he, e2], hw⟩)
  clear HK r1 r2 t1 t2 hm hm2 hu0 hu
  go_enter Try.func17, Try.ntmps17
  go_wp2_with fail
  go_ret
  exact ⟨rfl, rfl⟩
/-- A step whose bytes are apart from the disk. -/
theorem play_free {w1 W : World} {db : Nat} {p : DM} {n T : Nat} {F : Nat → Prop} (hD : DK W w1.heap.size db p n T F) (hb : Below w1.heap.size w1 W) (hT : T ≤ 17179869184) (o : OpV) (ho : o.ok W) (hl : o.b.length ≤ 4096) (hm : ∀ ad, o.ba = some ad → 0 < o.b.length → ad.block < W.heap.size ∧ ¬ F ad.block) :
    Calls Try.prog 9 #[.pointer (some ⟨db, 0, none⟩), o.v] W fun e w' => e = .returned (.int .i64 ((stepM p n o.dp).2.2 : Nat)) ∧ ∃ F', DK w' w1.heap.size db (stepM p n o.dp).1 (stepM p n o.dp).2.1 (T + 4098) F' ∧ Mv F F' W w' ∧ Below w1.heap.size w1 w' :=
  (play_is hD hT o (by omega) ho hm).mono fun e w' ⟨he, F', hD', hM⟩ => ⟨he, F', hD'.mono (by omega), hM, Mv.below hb hb.size (fun k hk => (hD.lt k hk).1) hM⟩
theorem few_own (a : Option Addr) (c : Nat) (l : List OpV) (W : World) (h : OpsIn W a l) {w1 : World} (hok : OpsOk w1 w1.heap.size l) :
    Calls Try.prog 10 #[.slice a l.length c] W fun e w' => ∃ va vc, e = .returned (.slice va (fewL l).length vc) ∧ w'.ownsRow W.heap.size 33 10 (.slice va (fewL l).length vc) (fewL l).length (opsCells (fewL l)) ∧ Below W.heap.size W w' := by
  refine (few_is a c l W h (fun o ho => (hok o ho).2.1)).mono fun e w' ⟨v, he, ho, hb⟩ => ?_
  obtain ⟨va, vc, rfl⟩ := own_slice ho
  exact ⟨va, vc, he, ho, hb⟩
theorem few_kind {l : List OpV} {o : OpV} (h : o ∈ fewL l) : fewO o = true := by
  obtain ⟨o0, _, rfl, h2⟩ := few_mem h
  exact h2
theorem step_off (p : DM) (n : Nat) (o : Dp) : ((stepM p n o).1.off = p.off ∨ (stepM p n o).1.off = (strokeM p).off) ∧ (stepM p n o).1.room = p.room := by
  unfold stepM
  split
  · show ((appD p o.s o.l n).1.off = _ ∨ (appD p o.s o.l n).1.off = _) ∧ (appD p o.s o.l n).1.room = _
    unfold appD
    split
    · split
      · exact ⟨.inr rfl, rfl⟩
      · exact ⟨.inr rfl, rfl⟩
    · split
      · split
        · exact ⟨.inl rfl, rfl⟩
        · split
          · exact ⟨.inr rfl, rfl⟩
          · exact ⟨.inr rfl, rfl⟩
      · exact ⟨.inl rfl, rfl⟩
  · split
    · show ((cutD p o.s o.k).1.off = _ ∨ (cutD p o.s o.k).1.off = _) ∧ (cutD p o.s o.k).1.room = _
      unfold cutD
      split
      · split
        · exact ⟨.inl rfl, rfl⟩
        · exact ⟨.inr rfl, rfl⟩
      · exact ⟨.inl rfl, rfl⟩
    · split
      · show ((syncM p o.s).1.off = _ ∨ (syncM p o.s).1.off = _) ∧ (syncM p o.s).1.room = _
        unfold syncM
        split
        · split
          · exact ⟨.inr rfl, rfl⟩
          · exact ⟨.inr rfl, rfl⟩
        · exact ⟨.inl rfl, rfl⟩
      · split
        · show ((syncN p).1.off = _ ∨ (syncN p).1.off = _) ∧ (syncN p).1.room = _
          unfold syncN
          split
          · exact ⟨.inl rfl, rfl⟩
          · split
            · exact ⟨.inr rfl, rfl⟩
            · exact ⟨.inr rfl, rfl⟩
        · split
          · show ((renameD p o.s o.t).1.off = _ ∨ (renameD p o.s o.t).1.off = _) ∧ (renameD p o.s o.t).1.room = _
            unfold renameD
            split
            · split
              · show ((if _ then _ else _ : DM).off = _ ∨ (if _ then _ else _ : DM).off = _) ∧ (if _ then _ else _ : DM).room = _
                split
                · exact ⟨.inr rfl, rfl⟩
                · exact ⟨.inr rfl, rfl⟩
              · exact ⟨.inl rfl, rfl⟩
            · exact ⟨.inl rfl, rfl⟩
          · split
            · show ((removeD p o.s).1.off = _ ∨ (removeD p o.s).1.off = _) ∧ (removeD p o.s).1.room = _
              unfold removeD
              split
              · exact ⟨.inr rfl, rfl⟩
              · exact ⟨.inl rfl, rfl⟩
            · exact ⟨.inl rfl, rfl⟩
theorem step_calm {p : DM} {n T : Nat} {o : Dp} (h : Calm p) (hs : Same p (stepM p n o).1) (hI : Inv (stepM p n o).1 (stepM p n o).2.1 T) : Calm (stepM p n o).1 := by
  refine ⟨?_, by rw [hs.po]; exact h.2.1, hI.ah⟩
  rcases (step_off p n o).1 with e | e
  · rw [e]; exact h.1
  · rw [e, h.str]; exact h.1
def endO (g : Nat) : OpV := ⟨1, 0, 0, ⟨#[122]⟩, ⟨#[]⟩, some ⟨g, 0, none⟩, 3, [101, 110, 100], 0, 0, 0, none, 0, 0⟩
end Go.Proofs.Ytbnlgohaaadgeaa

/- DiskFull. -/
namespace Go.Proofs.Ytbnlgohaaadgeaa
open Go.RowKit Go.Maps Go.Sort Go.Joins
set_option maxRecDepth 100000
set_option maxRecDepth 100000

/-- The two disks while the law plays. -/
structure FullS (w1 : World) (da db lo hi : Nat) (va : Option Addr) (L : List OpV) (g f t i c : Nat) (W : World) : Prop where
  mem : ∃ Fa Fb pa pb n, DK W w1.heap.size da pa n (64 + 4098 * i) Fa ∧ DK W w1.heap.size db pb n (64 + 4098 * i) Fb ∧ (∀ k, Fa k → ¬ Fb k) ∧ Sim pa pb ∧ Calm pa ∧ Calm pb ∧ pb.pf = 0 ∧ pa.st = c ∧ pa.ah = 0 ∧ pa.pf = (f : Nat) ∧ pa.pt = (t : Nat) ∧ pa.room = 67108864 ∧ Lies lo hi W (fun W => OpsIn W va L ∧ BL W (some ⟨g, 0, none⟩) [101, 110, 100]) ∧ Spare lo hi Fa ∧ Spare lo hi Fb
  below : Below w1.heap.size w1 W
set_option maxHeartbeats 6400000 in
theorem full_any (A : PowA) (w : World) (h : PowIn w w.heap.size A) :
    Calls Try.prog 6 #[.agg #[.slice A.oa A.ops.length A.oc, .int .i64 A.off, .slice A.pa A.ps.length A.pc, .slice A.ma A.more.length A.mc, .slice A.na A.nx.length A.nc]] w fun e w' => e = .returned (.bool true) ∧ Below w.heap.size w w' := by
  have bA : Below w.heap.size w (w.alloc (.cells #[.slice A.oa A.ops.length A.oc, .int .i64 A.off, .slice A.pa A.ps.length A.pc, .slice A.ma A.more.length A.mc, .slice A.na A.nx.length A.nc] 25)) := (Below.refl _ _).alloc (Nat.le_refl _) _
  have y0 : (w.alloc (.cells #[.slice A.oa A.ops.length A.oc, .int .i64 A.off, .slice A.pa A.ps.length A.pc, .slice A.ma A.more.length A.mc, .slice A.na A.nx.length A.nc] 25)).cell? ⟨w.heap.size, 0, none⟩ = some (.slice A.oa A.ops.length A.oc) := World.cell?_alloc_at (w := w) _ _ _ 0 rfl
  have y1 : (w.alloc (.cells #[.slice A.oa A.ops.length A.oc, .int .i64 A.off, .slice A.pa A.ps.length A.pc, .slice A.ma A.more.length A.mc, .slice A.na A.nx.length A.nc] 25)).cell? ⟨w.heap.size, 1, none⟩ = some (.int .i64 A.off) := World.cell?_alloc_at (w := w) _ _ _ 1 rfl
  have y2 : (w.alloc (.cells #[.slice A.oa A.ops.length A.oc, .int .i64 A.off, .slice A.pa A.ps.length A.pc, .slice A.ma A.more.length A.mc, .slice A.na A.nx.length A.nc] 25)).cell? ⟨w.heap.size, 2, none⟩ = some (.slice A.pa A.ps.length A.pc) := World.cell?_alloc_at (w := w) _ _ _ 2 rfl
  have y4 : (w.alloc (.cells #[.slice A.oa A.ops.length A.oc, .int .i64 A.off, .slice A.pa A.ps.length A.pc, .slice A.ma A.more.length A.mc, .slice A.na A.nx.length A.nc] 25)).cell? ⟨w.heap.size, 4, none⟩ = some (.slice A.na A.nx.length A.nc) := World.cell?_alloc_at (w := w) _ _ _ 4 rfl
  have hPI : PowIn (w.alloc (.cells #[.slice A.oa A.ops.length A.oc, .int .i64 A.off, .slice A.pa A.ps.length A.pc, .slice A.ma A.more.length A.mc, .slice A.na A.nx.length A.nc] 25)) w.heap.size A := h.on bA
  obtain ⟨w1, HW⟩ : ∃ W, Hid (w.alloc (.cells #[.slice A.oa A.ops.length A.oc, .int .i64 A.off, .slice A.pa A.ps.length A.pc, .slice A.ma A.more.length A.mc, .slice A.na A.nx.length A.nc] 25) = W) := ⟨_, rfl⟩
  rw [HW.out] at bA y0 y1 y2 y4 hPI
  have HP : Hid (PowIn w1 w1.heap.size A) := hPI.up bA.size
  have HEND : Hid (∀ W, Below w1.heap.size w1 W → Below w.heap.size w W) := fun W hb => bA.trans (hb.mono bA.size)
  have HBX : Hid (∀ W, Below w1.heap.size w1 W → W.cell? ⟨w.heap.size, 0, none⟩ = some (.slice A.oa A.ops.length A.oc) ∧ W.cell? ⟨w.heap.size, 1, none⟩ = some (.int .i64 A.off) ∧ W.cell? ⟨w.heap.size, 2, none⟩ = some (.slice A.pa A.ps.length A.pc) ∧ W.cell? ⟨w.heap.size, 4, none⟩ = some (.slice A.na A.nx.length A.nc)) := fun W hb => ⟨cel_on hb y0, cel_on hb y1, cel_on hb y2, cel_on hb y4⟩
  clear h hPI bA y0 y1 y2 y4
  go_enter Try.func6, Try.ntmps6
  go_upto_region 1 with fail
  rw [HW.out]
  go_wp2_with fail
  refine (open_is w1).mono ?_
  rintro e w2 ⟨da, Fa, rfl, hA2, hb2⟩
  go_wp2_with fail
  refine (open_is w2).mono ?_
  rintro e w3 ⟨db, Fb, rfl, hB3, hb3⟩
  have hA3 := hA2.on hb3
  have hb13 := hb2.trans (hb3.mono hb2.size)
  have hBl := hB3.low hb2.size
  have hdis : ∀ k, Fa k → ¬ Fb k := fun k h1 h2 => by
    have := (hA2.lt k h1).2
    have := (hB3.lt k h2).1
    omega
  obtain ⟨b0, b1, b2, b4⟩ := HBX.out w3 hb13
  have HWI : Hid (∀ (x : Int) (m : Nat) W, 1 ≤ m → m ≤ 1000 → Calls Try.prog 17 #[.int .i64 x, .int .i64 (m : Nat)] W fun r w' => ∃ k : Nat, k < m ∧ r = .returned (.int .i64 (k : Nat)) ∧ w' = W) := fun x m W h1 h2 => within_is x m h1 h2 W
  clear hA2 hb2 hB3
  go_wp2_with fail
  refine (HWI.out A.off 20 w3 (by decide) (by decide)).mono ?_
  rintro e w3' ⟨k1, hk1, rfl, hw3⟩
  subst hw3
  obtain ⟨f, hf1, hf2⟩ : ∃ f : Nat, (1 : Int) + (k1 : Int) = (f : Int) ∧ Hid (f = 1 + k1) := ⟨1 + k1, by omega, rfl⟩
  have hwf : IntKind.i64.wrap (f : Int) = (f : Int) := by rw [IntKind.wrap_i64]; omega
  go_wp2_with fail
  refine (HWI.out A.nx.length 5 _ (by decide) (by decide)).mono ?_
  rintro e w3'' ⟨k2, hk2, rfl, hw3⟩
  subst hw3
  obtain ⟨t, ht1, ht2⟩ : ∃ t : Nat, (f : Int) + (k2 : Int) = (t : Int) ∧ Hid (t = f + k2) := ⟨f + k2, by omega, rfl⟩
  have hwt : IntKind.i64.wrap (t : Int) = (t : Int) := by rw [IntKind.wrap_i64]; omega
  have HTF : Hid (f ≤ t ∧ 1 ≤ f ∧ t ≤ 1000) := by
    have q1 := hf2.out
    have q2 := ht2.out
    exact ⟨by omega, by omega, by omega⟩
  clear hf2 ht2 HWI
  obtain ⟨w4, hw4⟩ : ∃ x, x = w3'' := ⟨_, rfl⟩
  subst hw4
  have HPLN : Hid (Calls Try.prog 25 #[.pointer (some ⟨da, 0, none⟩), .agg #[.int .i64 0, .int .i64 (f : Int), .int .i64 (t : Int)]] w4 fun e w' => e = .returned (.tuple #[]) ∧ ∃ F', DK w' w1.heap.size da (planM (emptyP 67108864) 0 (f : Int) (t : Int)) 0 64 F' ∧ DK w' w1.heap.size db (emptyP 67108864) 0 64 Fb ∧ (∀ k, F' k → ¬ Fb k) ∧ Below w1.heap.size w1 w') := (hA3.plan 0 f t).mono fun e w' ⟨he, F', hD', hM⟩ => by
    refine ⟨he, F', hD', (hBl.other (fun k h1 h2 => hdis k h2 h1) hM).1, fun k h1 h2 => (hBl.other (fun k h1 h2 => hdis k h2 h1) hM).2 k h2 h1, Mv.below hb13 hb13.size (fun k hk => (hA3.lt k hk).1) hM⟩
  clear hA3 hBl hdis hb13 hb3
  go_wp2_with fail
  refine HPLN.out.mono ?_
  rintro e w5 ⟨rfl, Fa5, hA5, hB5, hdis5, hb5⟩
  clear HPLN b0 b1 b2 b4
  obtain ⟨b0, b1, b2, b4⟩ := HBX.out w5 hb5
  have HFW : Hid (Calls Try.prog 10 #[.slice A.oa A.ops.length A.oc] w5 fun e w' => ∃ va vc, e = .returned (.slice va (fewL A.ops).length vc) ∧ w'.ownsRow w5.heap.size 33 10 (.slice va (fewL A.ops).length vc) (fewL A.ops).length (opsCells (fewL A.ops)) ∧ Below w5.heap.size w5 w') := few_own A.oa A.oc A.ops w5 (HP.out.ops.on hb5) HP.out.ok
  have hlen := few_len A.ops
  have HOK : Hid (∀ (o : OpV), o ∈ fewL A.ops → fewO o = true ∧ o.ok w1 ∧ o.b.length ≤ 4096 ∧ ∀ ad, o.ba = some ad → 0 < o.b.length → ad.block < w1.heap.size) := fun o ho => ⟨few_kind ho, HP.out.ok.few ho⟩
  obtain ⟨fl, hflE⟩ : ∃ fl, fewL A.ops = fl := ⟨_, rfl⟩
  rw [hflE] at HFW hlen HOK
  obtain ⟨N0, hN0⟩ : ∃ N, fl.length = N := ⟨_, rfl⟩
  rw [hN0] at HFW hlen
  clear hflE
  go_wp2_with fail
  refine HFW.out.mono ?_
  rintro e w6 ⟨va, vc, rfl, hown, hb6⟩
  clear HFW b0 b1 b2 b4
  have kc := Lib.run_convert_bytes_const (P := Try.prog) w6 29 5 #[.int .u8 101, .int .u8 110, .int .u8 100] 3 3 Try.underlying29 Try.underlying5
  have bq : Below w6.heap.size w6 (w6.alloc (.cells #[.int .u8 101, .int .u8 110, .int .u8 100] 5 (3, 4))) := (Below.refl _ _).alloc (Nat.le_refl _) _
  have hbl : BL (w6.alloc (.cells #[.int .u8 101, .int .u8 110, .int .u8 100] 5 (3, 4))) (some ⟨w6.heap.size, 0, none⟩) [101, 110, 100] := lit_bl w6 _ _ _ (fun j hj => by
    match j, hj with
    | 0, _ => rfl
    | 1, _ => rfl
    | 2, _ => rfl)
  have own7 := own_on hown bq
  have hb57 := hb6.trans (bq.mono hb6.size)
  obtain ⟨w7, HW7⟩ : ∃ W, Hid (w6.alloc (.cells #[.int .u8 101, .int .u8 110, .int .u8 100] 5 (3, 4)) = W) := ⟨_, rfl⟩
  rw [HW7.out] at bq hbl own7 hb57
  obtain ⟨ua, uc, w8, hrun, hown8, hg8⟩ := app_op own7 (endO w6.heap.size) (by omega) hb57.size
  unfold endO at hrun
  have HRUN : Hid _ := hrun
  have hb58 : Below w5.heap.size w5 w8 := grown_own hb57 own7 hg8
  have hgl : w6.heap.size < w7.heap.size := by rw [← HW7.out]; simp
  have hbl8 : BL w8 (some ⟨w6.heap.size, 0, none⟩) [101, 110, 100] := fun j hj => by
    obtain ⟨b', o', e', hc'⟩ := hbl j hj
    cases e'
    refine ⟨w6.heap.size, 0, rfl, ?_⟩
    rw [World.cell?_of_block (a := ⟨w6.heap.size, 0 + j, none⟩) (hg8.block _ hgl (fun e => ?_))]
    · exact hc'
    · have := (rows_lt hown w6.heap.size e.symm).2
      omega
  have eapp : opsCells fl ++ (endO w6.heap.size).cells = opsCells (fl ++ [endO w6.heap.size]) := (opsCells_snoc _ _).symm
  have elen : fl.length + 1 = (fl ++ [endO w6.heap.size]).length := by rw [List.length_append]; rfl
  rw [eapp, ← hN0, elen] at hown8
  have hS0 : FullS w1 da db w5.heap.size w8.heap.size ua (fl ++ [endO w6.heap.size]) w6.heap.size f t 0 0 w8 := by
    have hLo := own_opsIn hown8
    refine ⟨⟨Fa5, Fb, _, _, 0, hA5.on hb58, hB5.on hb58, hdis5, ⟨rfl, rfl, rfl, rfl, rfl, rfl⟩, ⟨rfl, rfl, Nat.le_refl _⟩, ⟨rfl, rfl, Nat.le_refl _⟩, rfl, rfl, rfl, rfl, rfl, rfl, ⟨Nat.le_refl _, fun W hW => ⟨hLo.2 W hW, fun j hj => ?_⟩⟩, fun k hk => .inl (hA5.lt k hk).2, fun k hk => .inl (hB5.lt k hk).2⟩, hb5.trans (hb58.mono hb5.size)⟩
    obtain ⟨b', o', e', hc'⟩ := hbl8 j hj
    cases e'
    refine ⟨w6.heap.size, 0, rfl, ?_⟩
    rw [World.cell?_of_block (a := ⟨w6.heap.size, 0 + j, none⟩) (hW _ hb6.size (World.block_lt_of_cell? _ _ hc'))]
    exact hc'
  have HLH : Hid (w5.heap.size ≤ w6.heap.size ∧ w6.heap.size < w8.heap.size) := ⟨hb6.size, by have := hg8.size; omega⟩
  obtain ⟨L, HL⟩ : ∃ L, Hid (fl ++ [endO w6.heap.size] = L) := ⟨_, rfl⟩
  rw [HL.out] at hS0
  have HOKL : Hid (∀ (i : Nat) (o : OpV), L[i]? = some o → (1 ≤ o.kind ∧ o.kind ≤ 6) ∧ o.b.length ≤ 4096 ∧ ∀ W F, Below w1.heap.size w1 W → (∀ k, F k → w1.heap.size ≤ k) → Lies w5.heap.size w8.heap.size W (fun W => OpsIn W ua L ∧ BL W (some ⟨w6.heap.size, 0, none⟩) [101, 110, 100]) → Spare w5.heap.size w8.heap.size F → o.ok W ∧ ∀ ad, o.ba = some ad → 0 < o.b.length → ad.block < W.heap.size ∧ ¬ F ad.block) := fun i o ho => by
    have hm := List.mem_of_getElem? ho
    rw [← HL.out] at hm
    rcases List.mem_append.1 hm with h1 | h1
    · obtain ⟨q1, ⟨q2, q3⟩, q4, q5⟩ := HOK.out o h1
      unfold fewO at q1
      simp only [Bool.and_eq_true, decide_eq_true_eq] at q1
      refine ⟨q1, q4, fun W F hb hF _ _ => ⟨⟨Byt.on q2 hb, q3⟩, fun ad e h0 => ⟨Nat.lt_of_lt_of_le (q5 ad e h0) hb.size, fun hf => ?_⟩⟩⟩
      have := hF _ hf
      have := q5 ad e h0
      omega
    · rw [List.mem_singleton.1 h1]
      refine ⟨⟨by show (1 : Int) ≤ 1; decide, by show (1 : Int) ≤ 6; decide⟩, by show 3 ≤ 4096; decide, fun W F hb hF hL hSp => ⟨⟨hL.now.2, fun e => by cases e⟩, fun ad e _ => ?_⟩⟩
      have e2 : ad.block = w6.heap.size := by
        have e3 : (some ⟨w6.heap.size, 0, none⟩ : Option Addr) = some ad := e
        rw [← Option.some.inj e3]
      rw [e2]
      obtain ⟨l1, l2⟩ := HLH.out
      refine ⟨Nat.lt_of_lt_of_le l2 hL.1, fun hf => ?_⟩
      rcases hSp _ hf with q | q <;> omega
  obtain ⟨N, hN⟩ : ∃ N, N0 + 1 = N := ⟨_, rfl⟩
  rw [hN] at HRUN
  have hNl : N ≤ 201 := by omega
  have HLN : Hid (L.length = N) := by rw [← HL.out, List.length_append, hN0, ← hN]; rfl
  have hz7 : (w6.alloc (.cells #[.int .u8 101, .int .u8 110, .int .u8 100] 5 (3, 4))).heap.size = w6.heap.size + 1 := by simp
  rw [← HW7.out, hz7] at HRUN
  clear hown own7 hown8 hg8 hb57 hb58 hbl hbl8 bq hgl eapp elen hA5 hB5 hdis5 hb5 hb6 HOK HL HLH hN hN0 hrun hlen hz7 HW7
  go_wp2_with (at_builtin; refine wpList_append_eq rfl _ _ 22 rfl _ _ _ (by rfl) (by rfl) HRUN.out ?_)
  clear HRUN kc
  generalize w6.heap.size = g0 at *
  generalize w5.heap.size = lo at *
  generalize w8.heap.size = hi at *
  go_loopg [7, 9] N (fun q s7 s9 wx => ∃ (i c : Nat), i ≤ N ∧ c ≤ i ∧ q = N - i ∧ s9 = .int .i64 i ∧ s7 = .int .i64 c ∧ FullS w1 da db lo hi ua L g0 f t i c wx)
  case atStart => exact ⟨0, 0, Nat.zero_le _, Nat.le_refl _, rfl, rfl, rfl, hS0⟩
  case round =>
    obtain ⟨i, c, hi0, hci, rfl, rfl, rfl, hS⟩ := hrel
    clear hS0
    by_cases hlt : i < N
    · have hz : (i : Int) < (N : Int) := by omega
      have hwi : IntKind.i64.wrap ((i : Int) + 1) = (i : Int) + 1 := by rw [IntKind.wrap_i64]; omega
      obtain ⟨C1, hC1, HC1⟩ : ∃ C1 : Nat, (c : Int) + 1 = (C1 : Int) ∧ Hid (C1 = c + 1) := ⟨c + 1, by omega, rfl⟩
      have hwc : IntKind.i64.wrap (C1 : Int) = (C1 : Int) := by rw [IntKind.wrap_i64]; omega
      obtain ⟨⟨Fa, Fb, pa, pb, n, hDa, hDb, hFF, hsim, hca, hcb, hpf, hst, hah, hf', ht', hro, hL, hSa, hSb⟩, hb⟩ := hS
      obtain ⟨o, ho⟩ : ∃ o, L[i]? = some o := ⟨_, List.getElem?_eq_getElem (by have := HLN.out; omega)⟩
      obtain ⟨b, off, rfl, hc⟩ := hL.now.1 i o ho
      have q0 : wr.cell? ⟨b, off + i * 10, none⟩ = some (.int .i64 o.kind) := hc 0 _ rfl
      have q1 : wr.cell? ⟨b, off + i * 10 + 1, none⟩ = some (.int .i64 o.on) := hc 1 _ rfl
      have q2 : wr.cell? ⟨b, off + i * 10 + 2, none⟩ = some (.int .i64 o.n) := hc 2 _ rfl
      have q3 : wr.cell? ⟨b, off + i * 10 + 3, none⟩ = some (.string o.name) := hc 3 _ rfl
      have q4 : wr.cell? ⟨b, off + i * 10 + 4, none⟩ = some (.string o.tt) := hc 4 _ rfl
      have q5 : wr.cell? ⟨b, off + i * 10 + 5, none⟩ = some (.slice o.ba o.b.length o.bc) := hc 5 _ rfl
      have q6 : wr.cell? ⟨b, off + i * 10 + 6, none⟩ = some (.int .i64 o.p0) := hc 6 _ rfl
      have q7 : wr.cell? ⟨b, off + i * 10 + 7, none⟩ = some (.int .i64 o.p1) := hc 7 _ rfl
      have q8 : wr.cell? ⟨b, off + i * 10 + 8, none⟩ = some (.int .i64 o.p2) := hc 8 _ rfl
      have q9 : wr.cell? ⟨b, off + i * 10 + 9, none⟩ = some (.slice o.pa o.pn o.pc) := hc 9 _ rfl
      have bq : Below wr.heap.size wr (wr.alloc (.cells #[.int .i64 o.kind, .int .i64 o.on, .int .i64 o.n, .string o.name, .string o.tt, .slice o.ba o.b.length o.bc, .int .i64 o.p0, .int .i64 o.p1, .int .i64 o.p2, .slice o.pa o.pn o.pc] 33)) := (Below.refl _ _).alloc (Nat.le_refl _) _
      have rq : (wr.alloc (.cells #[.int .i64 o.kind, .int .i64 o.on, .int .i64 o.n, .string o.name, .string o.tt, .slice o.ba o.b.length o.bc, .int .i64 o.p0, .int .i64 o.p1, .int .i64 o.p2, .slice o.pa o.pn o.pc] 33)).rowIs wr.heap.size 33 10 (fun j => (o.cells[j]?).getD undef) := World.rowIs_alloc wr #[.int .i64 o.kind, .int .i64 o.on, .int .i64 o.n, .string o.name, .string o.tt, .slice o.ba o.b.length o.bc, .int .i64 o.p0, .int .i64 o.p1, .int .i64 o.p2, .slice o.pa o.pn o.pc] 33 (fun j => (o.cells[j]?).getD undef) (fun j hj => by
        show (o.cells.toArray)[j]? = some ((o.cells[j]?).getD undef)
        have hj' : j < o.cells.length := hj
        rw [List.getElem?_toArray, List.getElem?_eq_getElem hj']
        rfl)
      have hg1n : ∀ k, Fa k → k ≠ wr.heap.size := fun k hk e => by have := (hDa.lt k hk).2; omega
      go_upto_region 13 with fail
      clear q0 q1 q2 q3 q4 q5 q6 q7 q8 q9
      obtain ⟨W1, HW1⟩ : ∃ W, Hid (wr.alloc (.cells #[.int .i64 o.kind, .int .i64 o.on, .int .i64 o.n, .string o.name, .string o.tt, .slice o.ba o.b.length o.bc, .int .i64 o.p0, .int .i64 o.p1, .int .i64 o.p2, .slice o.pa o.pn o.pc] 33) = W) := ⟨_, rfl⟩
      rw [HW1.out]
      rw [HW1.out] at bq rq
      obtain ⟨g1, hg1⟩ : ∃ g, g = wr.heap.size := ⟨_, rfl⟩
      rw [← hg1]
      rw [← hg1] at rq hg1n
      have HG1 : Hid (g1 = wr.heap.size) := hg1
      clear hg1
      have x0 : W1.cell? ⟨g1, 0, none⟩ = some (.int .i64 o.kind) := rq.cell (i := 0) (by decide)
      have x1 : W1.cell? ⟨g1, 1, none⟩ = some (.int .i64 o.on) := rq.cell (i := 1) (by decide)
      have x2 : W1.cell? ⟨g1, 2, none⟩ = some (.int .i64 o.n) := rq.cell (i := 2) (by decide)
      have x3 : W1.cell? ⟨g1, 3, none⟩ = some (.string o.name) := rq.cell (i := 3) (by decide)
      have x4 : W1.cell? ⟨g1, 4, none⟩ = some (.string o.tt) := rq.cell (i := 4) (by decide)
      have x5 : W1.cell? ⟨g1, 5, none⟩ = some (.slice o.ba o.b.length o.bc) := rq.cell (i := 5) (by decide)
      have x6 : W1.cell? ⟨g1, 6, none⟩ = some (.int .i64 o.p0) := rq.cell (i := 6) (by decide)
      have x7 : W1.cell? ⟨g1, 7, none⟩ = some (.int .i64 o.p1) := rq.cell (i := 7) (by decide)
      have x8 : W1.cell? ⟨g1, 8, none⟩ = some (.int .i64 o.p2) := rq.cell (i := 8) (by decide)
      have x9 : W1.cell? ⟨g1, 9, none⟩ = some (.slice o.pa o.pn o.pc) := rq.cell (i := 9) (by decide)
      have hb1 := hb.trans (bq.mono hb.size)
      have hDa1 := hDa.on bq
      have hDb1 := hDb.on bq
      have hL1 := hL.on bq
      obtain ⟨b0, b1, b2, b4⟩ := HBX.out W1 hb1
      clear b0 b1 b4
      have HCR : Hid (Calls Try.prog 12 #[.pointer (some ⟨da, 0, none⟩), .slice A.pa A.ps.length A.pc] W1 fun e w' => ∃ g, e = .returned (.slice (some ⟨g, 0, none⟩) (crashI pa A.ps).length (crashI pa A.ps).length) ∧ Lies W1.heap.size w'.heap.size w' (fun W => ImgI W (some ⟨g, 0, none⟩) (crashI pa A.ps)) ∧ Below W1.heap.size W1 w') := hDa1.crash (by omega) A.ps A.pa A.pc (HP.out.ps.on hb1)
      have hroom : o.dp.l.length + usedM pa ≤ pa.room := by
        have q1 := hDa.inv.used
        have q2 := (HOKL.out i o ho).2.1
        show o.b.length + usedM pa ≤ pa.room
        rw [hro]
        omega
      obtain ⟨hkind, hl4, hokf⟩ := HOKL.out i o ho
      have hstep := step_both hsim hca hcb hpf n o.dp hkind hroom
      have hcl : (crashI pa A.ps).length ≤ 64 := (crashI_len hDa.inv A.ps).2
      have HCD : Hid (∀ i, i < (crashI pa A.ps).length → (dtI (crashI pa A.ps) i).length ≤ 1048576) := fun j hj => by have := crashI_dt hDa.inv A.ps j hj; omega
      have hsc : ∀ ps, crashI (strokeM pa) ps = crashI pa ps := fun ps => by rw [hca.str]; rfl
      have HCI : Hid (∀ ps, crashI (strokeM pa) ps = crashI pa ps) := hsc
      clear hsc
      obtain ⟨CI, HCX⟩ : ∃ CI, Hid (crashI pa A.ps = CI) := ⟨_, rfl⟩
      rw [HCX.out] at HCR hcl HCD
      obtain ⟨CL, HCL⟩ : ∃ CL, Hid (CI.length = CL) := ⟨_, rfl⟩
      rw [HCL.out] at HCR hcl
      have HALL : Hid (DK W1 w1.heap.size da pa n (64 + 4098 * i) Fa ∧ DK W1 w1.heap.size db pb n (64 + 4098 * i) Fb ∧ (∀ k, Fa k → ¬ Fb k) ∧ Sim pa pb ∧ Calm pa ∧ Calm pb ∧ pb.pf = 0 ∧ pa.st = c ∧ pa.ah = 0 ∧ pa.pf = (f : Nat) ∧ pa.pt = (t : Nat) ∧ pa.room = 67108864 ∧ Lies lo hi W1 (fun W => OpsIn W (some ⟨b, off, none⟩) L ∧ BL W (some ⟨g0, 0, none⟩) [101, 110, 100]) ∧ Spare lo hi Fa ∧ Spare lo hi Fb ∧ Below w1.heap.size w1 W1) := ⟨hDa1, hDb1, hFF, hsim, hca, hcb, hpf, hst, hah, hf', ht', hro, hL1, hSa, hSb, hb1⟩
      have HGN : Hid ((∀ k, Fa k → k ≠ g1) ∧ g1 < W1.heap.size) := ⟨hg1n, rq.lt⟩
      have HKF : Hid (∀ W F, Below w1.heap.size w1 W → (∀ k, F k → w1.heap.size ≤ k) → Lies lo hi W (fun W => OpsIn W (some ⟨b, off, none⟩) L ∧ BL W (some ⟨g0, 0, none⟩) [101, 110, 100]) → Spare lo hi F → o.ok W ∧ ∀ ad, o.ba = some ad → 0 < o.b.length → ad.block < W.heap.size ∧ ¬ F ad.block) := hokf
      clear hDa hDb hDa1 hDb1 hFF hca hcb hpf hsim hL hL1 hSa hSb hb hb1 bq rq hg1n hokf hc HW1 hroom
      go_wp2_with fail
      refine HCR.out.mono ?_
      rintro e w2 ⟨cg, rfl, hwas, hb2⟩
      clear HCR b2
      have z0 : w2.cell? ⟨g1, 0, none⟩ = some (.int .i64 o.kind) := cel_on hb2 x0
      have z1 : w2.cell? ⟨g1, 1, none⟩ = some (.int .i64 o.on) := cel_on hb2 x1
      have z2 : w2.cell? ⟨g1, 2, none⟩ = some (.int .i64 o.n) := cel_on hb2 x2
      have z3 : w2.cell? ⟨g1, 3, none⟩ = some (.string o.name) := cel_on hb2 x3
      have z4 : w2.cell? ⟨g1, 4, none⟩ = some (.string o.tt) := cel_on hb2 x4
      have z5 : w2.cell? ⟨g1, 5, none⟩ = some (.slice o.ba o.b.length o.bc) := cel_on hb2 x5
      have z6 : w2.cell? ⟨g1, 6, none⟩ = some (.int .i64 o.p0) := cel_on hb2 x6
      have z7 : w2.cell? ⟨g1, 7, none⟩ = some (.int .i64 o.p1) := cel_on hb2 x7
      have z8 : w2.cell? ⟨g1, 8, none⟩ = some (.int .i64 o.p2) := cel_on hb2 x8
      have z9 : w2.cell? ⟨g1, 9, none⟩ = some (.slice o.pa o.pn o.pc) := cel_on hb2 x9
      clear x0 x1 x2 x3 x4 x5 x6 x7 x8 x9
      have HALL2 : Hid (DK w2 w1.heap.size da pa n (64 + 4098 * i) Fa ∧ DK w2 w1.heap.size db pb n (64 + 4098 * i) Fb ∧ (∀ k, Fa k → ¬ Fb k) ∧ Sim pa pb ∧ Calm pa ∧ Calm pb ∧ pb.pf = 0 ∧ pa.st = c ∧ pa.ah = 0 ∧ pa.pf = (f : Nat) ∧ pa.pt = (t : Nat) ∧ pa.room = 67108864 ∧ Lies lo hi w2 (fun W => OpsIn W (some ⟨b, off, none⟩) L ∧ BL W (some ⟨g0, 0, none⟩) [101, 110, 100]) ∧ Spare lo hi Fa ∧ Spare lo hi Fb ∧ Below w1.heap.size w1 w2 ∧ Lies W1.heap.size w2.heap.size w2 (fun W => ImgI W (some ⟨cg, 0, none⟩) CI) ∧ Spare W1.heap.size w2.heap.size Fa ∧ (∀ k, Fa k → k ≠ g1) ∧ g1 < w2.heap.size) := by
        obtain ⟨a1, a2, a3, a4, a5, a6, a7, a8, a9, a10, a11, a12, a13, a14, a15, a16⟩ := HALL.out
        exact ⟨a1.on hb2, a2.on hb2, a3, a4, a5, a6, a7, a8, a9, a10, a11, a12, a13.on hb2, a14, a15, a16.trans (hb2.mono a16.size), hwas, fun k hk => .inl (a1.lt k hk).2, HGN.out.1, Nat.lt_of_lt_of_le HGN.out.2 hb2.size⟩
      clear HALL HGN hwas hb2
      obtain ⟨E, hE⟩ : ∃ E, (stepM pa n o.dp).2.2 = E := ⟨_, rfl⟩
      have HPA : Hid (Calls Try.prog 9 #[.pointer (some ⟨da, 0, none⟩), .agg #[.int .i64 o.kind, .int .i64 o.on, .int .i64 o.n, .string o.name, .string o.tt, .slice o.ba o.b.length o.bc, .int .i64 o.p0, .int .i64 o.p1, .int .i64 o.p2, .slice o.pa o.pn o.pc]] w2 fun e w' => e = .returned (.int .i64 (E : Nat)) ∧ ∃ Fa', DK w' w1.heap.size da (stepM pa n o.dp).1 (stepM pa n o.dp).2.1 (64 + 4098 * (i + 1)) Fa' ∧ DK w' w1.heap.size db pb n (64 + 4098 * i) Fb ∧ (∀ k, Fa' k → ¬ Fb k) ∧ Lies lo hi w' (fun W => OpsIn W (some ⟨b, off, none⟩) L ∧ BL W (some ⟨g0, 0, none⟩) [101, 110, 100]) ∧ Spare lo hi Fa' ∧ Spare lo hi Fb ∧ Below w1.heap.size w1 w' ∧ ImgI w' (some ⟨cg, 0, none⟩) CI ∧ w'.heap[g1]? = w2.heap[g1]?) := by
        obtain ⟨a1, a2, a3, a4, a5, a6, a7, a8, a9, a10, a11, a12, a13, a14, a15, a16, a17, a18, a19, a20⟩ := HALL2.out
        obtain ⟨k1, k2⟩ := HKF.out w2 Fa a16 (fun k hk => (a1.lt k hk).1) a13 a14
        refine (play_free a1 a16 (by omega) o k1 hl4 k2).mono fun e w' ⟨he, Fa', hD', hM, hb'⟩ => ⟨by rw [he, hE], Fa', hD'.mono (by omega), (a2.other (fun k h1 h2 => a3 k h2 h1) hM).1, fun k h1 h2 => (a2.other (fun k h1 h2 => a3 k h2 h1) hM).2 k h2 h1, (a13.mv a14 hM).1, (a13.mv a14 hM).2, a15, hb', (a17.mv a18 hM).1.now, hM.block g1 a20 (fun hf => a19 g1 hf rfl)⟩
      rcases hstep with ⟨r1, r2, r3, r4, r5⟩ | ⟨hB, hnf⟩
      · have HK1 : Hid (o.kind = 1) := r4
        rw [r1] at hE
        subst hE
        rw [r2, r3] at HPA
        have hF1 : f ≤ c + 1 ∧ c + 1 ≤ t := by
          unfold fullB at r5
          rw [hst, hah, hf', ht'] at r5
          simp only [Bool.and_eq_true, decide_eq_true_eq] at r5
          omega
        have n1 : ¬ (C1 : Int) < (f : Int) := by have := HC1.out; omega
        have n2 : ¬ (t : Int) < (C1 : Int) := by have := HC1.out; omega
        have HCY : Hid (∀ W, Calls Try.prog 26 #[.int .i64 44] W fun r w' => r = .returned (.bool true) ∧ w' = W) := fun W => counted_yes 44 (by omega) W
        clear r1 r2 r3 r4 r5 hF1
        go_wp2_with fail
        refine HPA.out.mono ?_
        rintro e w3 ⟨rfl, Fa', d1, d2, d3, d4, d5, d6, d7, d8, hg3⟩
        rw [HK1.out] at z0
        have v0 : w3.cell? ⟨g1, 0, none⟩ = some (.int .i64 1) := by rw [World.cell?_of_block (a := ⟨g1, 0, none⟩) hg3]; exact z0
        have v1 : w3.cell? ⟨g1, 1, none⟩ = some (.int .i64 o.on) := by rw [World.cell?_of_block (a := ⟨g1, 1, none⟩) hg3]; exact z1
        have v2 : w3.cell? ⟨g1, 2, none⟩ = some (.int .i64 o.n) := by rw [World.cell?_of_block (a := ⟨g1, 2, none⟩) hg3]; exact z2
        have v3 : w3.cell? ⟨g1, 3, none⟩ = some (.string o.name) := by rw [World.cell?_of_block (a := ⟨g1, 3, none⟩) hg3]; exact z3
        have v4 : w3.cell? ⟨g1, 4, none⟩ = some (.string o.tt) := by rw [World.cell?_of_block (a := ⟨g1, 4, none⟩) hg3]; exact z4
        have v5 : w3.cell? ⟨g1, 5, none⟩ = some (.slice o.ba o.b.length o.bc) := by rw [World.cell?_of_block (a := ⟨g1, 5, none⟩) hg3]; exact z5
        have v6 : w3.cell? ⟨g1, 6, none⟩ = some (.int .i64 o.p0) := by rw [World.cell?_of_block (a := ⟨g1, 6, none⟩) hg3]; exact z6
        have v7 : w3.cell? ⟨g1, 7, none⟩ = some (.int .i64 o.p1) := by rw [World.cell?_of_block (a := ⟨g1, 7, none⟩) hg3]; exact z7
        have v8 : w3.cell? ⟨g1, 8, none⟩ = some (.int .i64 o.p2) := by rw [World.cell?_of_block (a := ⟨g1, 8, none⟩) hg3]; exact z8
        have v9 : w3.cell? ⟨g1, 9, none⟩ = some (.slice o.pa o.pn o.pc) := by rw [World.cell?_of_block (a := ⟨g1, 9, none⟩) hg3]; exact z9
        have HD3 : Hid (DK w3 w1.heap.size da (strokeM pa) n (64 + 4098 * (i + 1)) Fa' ∧ Below w1.heap.size w1 w3 ∧ ImgI w3 (some ⟨cg, 0, none⟩) CI) := ⟨d1, d7, d8⟩
        have HST : Hid (∀ W, Below w3.heap.size w3 W → FullS w1 da db lo hi (some ⟨b, off, none⟩) L g0 f t (i + 1) (c + 1) W) := fun W hb => by
          obtain ⟨a1, a2, a3, a4, a5, a6, a7, a8, a9, a10, a11, a12, a13, a14, a15, a16, a17, a18, a19, a20⟩ := HALL2.out
          have hs : Sim (strokeM pa) pb := by rw [a5.str]; exact ⟨a4.room, a4.safe, a4.seen, a4.ms, a4.fm, a4.off⟩
          exact ⟨⟨Fa', Fb, _, pb, n, d1.on hb, (d2.mono (by omega)).on hb, d3, hs, a5.stroke, a6, a7, by show pa.st + 1 = c + 1; rw [a8], a9, a10, a11, a12, d4.on hb, d5, d6⟩, d7.trans (hb.mono d7.size)⟩
        have HCR3 : Hid (Calls Try.prog 12 #[.pointer (some ⟨da, 0, none⟩), .slice A.pa A.ps.length A.pc] w3 fun e w' => ∃ g, e = .returned (.slice (some ⟨g, 0, none⟩) CL CL) ∧ ImgI w' (some ⟨g, 0, none⟩) CI ∧ Below w3.heap.size w3 w') := by
          have := d1.crash (by omega) A.ps A.pa A.pc (HP.out.ps.on d7)
          rw [HCI.out, HCX.out, HCL.out] at this
          exact this.mono fun e w' ⟨g, he, hl, hb'⟩ => ⟨g, he, hl.now, hb'⟩
        have HIM3 : Hid (∀ W a c', ImgI W a CI → Below w3.heap.size w3 W → Calls Try.prog 16 #[.slice a CL c', .slice (some ⟨cg, 0, none⟩) CL CL] W fun e w' => e = .returned (.bool true) ∧ Below w3.heap.size w3 w') := fun W a c' h1 hb => by
          have := image_is c' CL h1 (d8.on hb) (by rw [HCL.out]; omega) HCD.out
          rw [HCL.out] at this
          exact this.mono fun e w' ⟨he, m, hm⟩ => ⟨he, by rw [hm]; exact below_drewN hb m⟩
        obtain ⟨b0, b1, b2, b4⟩ := HBX.out w3 d7
        clear b0 b1 b4 HPA d1 d2 d3 d4 d5 d6 d7 d8 hg3 z0 z1 z2 z3 z4 z5 z6 z7 z8 z9 HALL2 HKF
        go_wp2_with (go_at_call 26; refine (HCY.out _).mono ?_; rintro e w3 ⟨rfl, rfl⟩)
        refine HCR3.out.mono ?_
        rintro e w4 ⟨dg, rfl, hi4, hb4⟩
        go_wp2_with fail
        refine (HIM3.out w4 _ _ hi4 hb4).mono ?_
        rintro e w5 ⟨rfl, hb5⟩
        have hS5 := HST.out w5 hb5
        clear HCR3 HIM3 HST v0 v1 v2 v3 v4 v5 v6 v7 v8 v9 b2 hi4 hb4 hb5
        go_wp2_with fail
        go_roundg (N - (i + 1))
        case measure => go_light; omega
        case rel => go_light; exact ⟨i + 1, c + 1, by omega, by omega, rfl, by simp, by have := HC1.out; simp [this], hS5⟩
      · obtain ⟨e1, e2, e3, e4, e5, e6, e7, e8, e9⟩ := hB
        rw [hE] at e1 e4 e5 e6 e7 hnf
        obtain ⟨c', HC'⟩ : ∃ c', Hid (c' = (stepM pa n o.dp).1.st) := ⟨_, rfl⟩
        have HPB : Hid (∀ w3 Fa', DK w3 w1.heap.size da (stepM pa n o.dp).1 (stepM pa n o.dp).2.1 (64 + 4098 * (i + 1)) Fa' → DK w3 w1.heap.size db pb n (64 + 4098 * i) Fb → (∀ k, Fa' k → ¬ Fb k) → Lies lo hi w3 (fun W => OpsIn W (some ⟨b, off, none⟩) L ∧ BL W (some ⟨g0, 0, none⟩) [101, 110, 100]) → Spare lo hi Fa' → Spare lo hi Fb → Below w1.heap.size w1 w3 → Calls Try.prog 9 #[.pointer (some ⟨db, 0, none⟩), .agg #[.int .i64 o.kind, .int .i64 o.on, .int .i64 o.n, .string o.name, .string o.tt, .slice o.ba o.b.length o.bc, .int .i64 o.p0, .int .i64 o.p1, .int .i64 o.p2, .slice o.pa o.pn o.pc]] w3 fun e w' => e = .returned (.int .i64 (E : Nat)) ∧ FullS w1 da db lo hi (some ⟨b, off, none⟩) L g0 f t (i + 1) c' w') := fun w3 Fa' d1 d2 d3 d4 d5 d6 d7 => by
          obtain ⟨a1, a2, a3, a4, a5, a6, a7, a8, a9, a10, a11, a12, a13, a14, a15, a16, a17, a18, a19, a20⟩ := HALL2.out
          obtain ⟨k1, k2⟩ := HKF.out w3 Fb d7 (fun k hk => (d2.lt k hk).1) d4 d6
          refine (play_free d2 d7 (by omega) o k1 hl4 k2).mono fun e w' ⟨he, Fb', hD', hM, hb'⟩ => ⟨by rw [he, ← e1], ⟨⟨Fa', Fb', _, _, _, (d1.other d3 hM).1, ?_, (d1.other d3 hM).2, e3, step_calm a5 e8 d1.inv, step_calm a6 e9 hD'.inv, by rw [e9.pf]; exact a7, HC'.out.symm, by rw [e8.ah]; exact a9, by rw [e8.pf]; exact a10, by rw [e8.pt]; exact a11, by rw [(step_off pa n o.dp).2]; exact a12, (d4.mv d6 hM).1, d5, (d4.mv d6 hM).2⟩, hb'⟩⟩
          rw [e2]
          exact hD'.mono (by omega)
        by_cases hE0 : E = 0
        · subst hE0
          have HCC : Hid (c' = c + 1) := by show c' = c + 1; rw [HC'.out, (e6 rfl).1, hst]
          have HCY : Hid (∀ W, Calls Try.prog 26 #[.int .i64 0] W fun r w' => r = .returned (.bool true) ∧ w' = W) := fun W => counted_yes 0 (by omega) W
          by_cases hk : o.kind = 1
          · have hF1 : C1 < f ∨ t < C1 := by
              have r5 := hnf hk rfl
              unfold fullB at r5
              rw [hst, hah, hf', ht'] at r5
              simp only [Bool.and_eq_false_iff, decide_eq_false_iff_not] at r5
              have := HC1.out
              have := HTF.out
              omega
            have HK1 : Hid (o.kind = 1) := hk
            clear e1 e2 e3 e4 e5 e6 e7 e8 e9 hnf hE hk hkind
            rcases hF1 with hF1 | hF1
            · have n1 : ¬ (f : Int) ≤ (C1 : Int) := by omega
              go_wp2_with fail
              refine HPA.out.mono ?_
              rintro e w3 ⟨rfl, Fa', d1, d2, d3, d4, d5, d6, d7, d8, hg3⟩
              rw [HK1.out] at z0
              rw [HK1.out] at HPB
              have v0 : w3.cell? ⟨g1, 0, none⟩ = some (.int .i64 1) := by rw [World.cell?_of_block (a := ⟨g1, 0, none⟩) hg3]; exact z0
              have v1 : w3.cell? ⟨g1, 1, none⟩ = some (.int .i64 o.on) := by rw [World.cell?_of_block (a := ⟨g1, 1, none⟩) hg3]; exact z1
              have v2 : w3.cell? ⟨g1, 2, none⟩ = some (.int .i64 o.n) := by rw [World.cell?_of_block (a := ⟨g1, 2, none⟩) hg3]; exact z2
              have v3 : w3.cell? ⟨g1, 3, none⟩ = some (.string o.name) := by rw [World.cell?_of_block (a := ⟨g1, 3, none⟩) hg3]; exact z3
              have v4 : w3.cell? ⟨g1, 4, none⟩ = some (.string o.tt) := by rw [World.cell?_of_block (a := ⟨g1, 4, none⟩) hg3]; exact z4
              have v5 : w3.cell? ⟨g1, 5, none⟩ = some (.slice o.ba o.b.length o.bc) := by rw [World.cell?_of_block (a := ⟨g1, 5, none⟩) hg3]; exact z5
              have v6 : w3.cell? ⟨g1, 6, none⟩ = some (.int .i64 o.p0) := by rw [World.cell?_of_block (a := ⟨g1, 6, none⟩) hg3]; exact z6
              have v7 : w3.cell? ⟨g1, 7, none⟩ = some (.int .i64 o.p1) := by rw [World.cell?_of_block (a := ⟨g1, 7, none⟩) hg3]; exact z7
              have v8 : w3.cell? ⟨g1, 8, none⟩ = some (.int .i64 o.p2) := by rw [World.cell?_of_block (a := ⟨g1, 8, none⟩) hg3]; exact z8
              have v9 : w3.cell? ⟨g1, 9, none⟩ = some (.slice o.pa o.pn o.pc) := by rw [World.cell?_of_block (a := ⟨g1, 9, none⟩) hg3]; exact z9
              have HPB3 : Hid _ := HPB.out w3 Fa' d1 d2 d3 d4 d5 d6 d7
              clear HPA HPB d1 d2 d3 d4 d5 d6 d7 d8 hg3 z0 z1 z2 z3 z4 z5 z6 z7 z8 z9 HALL2 HKF HCI HCX HCL HCD HBX HP
              go_wp2_with (go_at_call 26; refine (HCY.out _).mono ?_; rintro e w3 ⟨rfl, rfl⟩)
              refine Calls.mono HPB3.out ?_
              rintro e w4 ⟨rfl, hS4⟩
              clear HPB3 v0 v1 v2 v3 v4 v5 v6 v7 v8 v9
              go_wp2_with fail
              go_roundg (N - (i + 1))
              case measure => go_light; omega
              case rel => go_light; exact ⟨i + 1, c', by omega, by have := HCC.out; omega, rfl, by simp, by have e1 := HCC.out; have e2 := HC1.out; rw [e1, ← e2], hS4⟩
            · have n1 : (f : Int) ≤ (C1 : Int) := by have := HTF.out; omega
              have n2 : ¬ (C1 : Int) ≤ (t : Int) := by omega
              go_wp2_with fail
              refine HPA.out.mono ?_
              rintro e w3 ⟨rfl, Fa', d1, d2, d3, d4, d5, d6, d7, d8, hg3⟩
              rw [HK1.out] at z0
              rw [HK1.out] at HPB
              have v0 : w3.cell? ⟨g1, 0, none⟩ = some (.int .i64 1) := by rw [World.cell?_of_block (a := ⟨g1, 0, none⟩) hg3]; exact z0
              have v1 : w3.cell? ⟨g1, 1, none⟩ = some (.int .i64 o.on) := by rw [World.cell?_of_block (a := ⟨g1, 1, none⟩) hg3]; exact z1
              have v2 : w3.cell? ⟨g1, 2, none⟩ = some (.int .i64 o.n) := by rw [World.cell?_of_block (a := ⟨g1, 2, none⟩) hg3]; exact z2
              have v3 : w3.cell? ⟨g1, 3, none⟩ = some (.string o.name) := by rw [World.cell?_of_block (a := ⟨g1, 3, none⟩) hg3]; exact z3
              have v4 : w3.cell? ⟨g1, 4, none⟩ = some (.string o.tt) := by rw [World.cell?_of_block (a := ⟨g1, 4, none⟩) hg3]; exact z4
              have v5 : w3.cell? ⟨g1, 5, none⟩ = some (.slice o.ba o.b.length o.bc) := by rw [World.cell?_of_block (a := ⟨g1, 5, none⟩) hg3]; exact z5
              have v6 : w3.cell? ⟨g1, 6, none⟩ = some (.int .i64 o.p0) := by rw [World.cell?_of_block (a := ⟨g1, 6, none⟩) hg3]; exact z6
              have v7 : w3.cell? ⟨g1, 7, none⟩ = some (.int .i64 o.p1) := by rw [World.cell?_of_block (a := ⟨g1, 7, none⟩) hg3]; exact z7
              have v8 : w3.cell? ⟨g1, 8, none⟩ = some (.int .i64 o.p2) := by rw [World.cell?_of_block (a := ⟨g1, 8, none⟩) hg3]; exact z8
              have v9 : w3.cell? ⟨g1, 9, none⟩ = some (.slice o.pa o.pn o.pc) := by rw [World.cell?_of_block (a := ⟨g1, 9, none⟩) hg3]; exact z9
              have HPB3 : Hid _ := HPB.out w3 Fa' d1 d2 d3 d4 d5 d6 d7
              clear HPA HPB d1 d2 d3 d4 d5 d6 d7 d8 hg3 z0 z1 z2 z3 z4 z5 z6 z7 z8 z9 HALL2 HKF HCI HCX HCL HCD HBX HP
              go_wp2_with (go_at_call 26; refine (HCY.out _).mono ?_; rintro e w3 ⟨rfl, rfl⟩)
              refine Calls.mono HPB3.out ?_
              rintro e w4 ⟨rfl, hS4⟩
              clear HPB3 v0 v1 v2 v3 v4 v5 v6 v7 v8 v9
              go_wp2_with fail
              go_roundg (N - (i + 1))
              case measure => go_light; omega
              case rel => go_light; exact ⟨i + 1, c', by omega, by have := HCC.out; omega, rfl, by simp, by have e1 := HCC.out; have e2 := HC1.out; rw [e1, ← e2], hS4⟩
          · have kb : (o.kind == 1) = false := beq_eq_false_iff_ne.2 hk
            clear e1 e2 e3 e4 e5 e6 e7 e8 e9 hnf hE hk hkind
            go_wp2_with fail
            refine HPA.out.mono ?_
            rintro e w3 ⟨rfl, Fa', d1, d2, d3, d4, d5, d6, d7, d8, hg3⟩
            have v0 : w3.cell? ⟨g1, 0, none⟩ = some (.int .i64 o.kind) := by rw [World.cell?_of_block (a := ⟨g1, 0, none⟩) hg3]; exact z0
            have v1 : w3.cell? ⟨g1, 1, none⟩ = some (.int .i64 o.on) := by rw [World.cell?_of_block (a := ⟨g1, 1, none⟩) hg3]; exact z1
            have v2 : w3.cell? ⟨g1, 2, none⟩ = some (.int .i64 o.n) := by rw [World.cell?_of_block (a := ⟨g1, 2, none⟩) hg3]; exact z2
            have v3 : w3.cell? ⟨g1, 3, none⟩ = some (.string o.name) := by rw [World.cell?_of_block (a := ⟨g1, 3, none⟩) hg3]; exact z3
            have v4 : w3.cell? ⟨g1, 4, none⟩ = some (.string o.tt) := by rw [World.cell?_of_block (a := ⟨g1, 4, none⟩) hg3]; exact z4
            have v5 : w3.cell? ⟨g1, 5, none⟩ = some (.slice o.ba o.b.length o.bc) := by rw [World.cell?_of_block (a := ⟨g1, 5, none⟩) hg3]; exact z5
            have v6 : w3.cell? ⟨g1, 6, none⟩ = some (.int .i64 o.p0) := by rw [World.cell?_of_block (a := ⟨g1, 6, none⟩) hg3]; exact z6
            have v7 : w3.cell? ⟨g1, 7, none⟩ = some (.int .i64 o.p1) := by rw [World.cell?_of_block (a := ⟨g1, 7, none⟩) hg3]; exact z7
            have v8 : w3.cell? ⟨g1, 8, none⟩ = some (.int .i64 o.p2) := by rw [World.cell?_of_block (a := ⟨g1, 8, none⟩) hg3]; exact z8
            have v9 : w3.cell? ⟨g1, 9, none⟩ = some (.slice o.pa o.pn o.pc) := by rw [World.cell?_of_block (a := ⟨g1, 9, none⟩) hg3]; exact z9
            have HPB3 : Hid _ := HPB.out w3 Fa' d1 d2 d3 d4 d5 d6 d7
            clear HPA HPB d1 d2 d3 d4 d5 d6 d7 d8 hg3 z0 z1 z2 z3 z4 z5 z6 z7 z8 z9 HALL2 HKF HCI HCX HCL HCD HBX HP
            go_wp2_with (go_at_call 26; refine (HCY.out _).mono ?_; rintro e w3 ⟨rfl, rfl⟩)
            refine Calls.mono HPB3.out ?_
            rintro e w4 ⟨rfl, hS4⟩
            clear HPB3 v0 v1 v2 v3 v4 v5 v6 v7 v8 v9
            go_wp2_with fail
            go_roundg (N - (i + 1))
            case measure => go_light; omega
            case rel => go_light; exact ⟨i + 1, c', by omega, by have := HCC.out; omega, rfl, by simp, by have e1 := HCC.out; have e2 := HC1.out; rw [e1, ← e2], hS4⟩
        · have HCC : Hid (c' = c) := by show c' = c; rw [HC'.out, (e7 hE0).1, hst]
          have HCY : Hid (∀ W, Calls Try.prog 26 #[.int .i64 (E : Nat)] W fun r w' => r = .returned (.bool false) ∧ w' = W) := fun W => counted_no E hE0 e4 e5 W
          have k0 : (((E : Nat) : Int) == 0) = false := beq_eq_false_iff_ne.2 (by omega)
          have k44 : (((E : Nat) : Int) == 44) = false := beq_eq_false_iff_ne.2 (by omega)
          by_cases hk : o.kind = 1
          · have HK1 : Hid (o.kind = 1) := hk
            clear e1 e2 e3 e4 e5 e6 e7 e8 e9 hnf hE hk hkind hE0
            go_wp2_with fail
            refine HPA.out.mono ?_
            rintro e w3 ⟨rfl, Fa', d1, d2, d3, d4, d5, d6, d7, d8, hg3⟩
            rw [HK1.out] at z0
            rw [HK1.out] at HPB
            have v0 : w3.cell? ⟨g1, 0, none⟩ = some (.int .i64 1) := by rw [World.cell?_of_block (a := ⟨g1, 0, none⟩) hg3]; exact z0
            have v1 : w3.cell? ⟨g1, 1, none⟩ = some (.int .i64 o.on) := by rw [World.cell?_of_block (a := ⟨g1, 1, none⟩) hg3]; exact z1
            have v2 : w3.cell? ⟨g1, 2, none⟩ = some (.int .i64 o.n) := by rw [World.cell?_of_block (a := ⟨g1, 2, none⟩) hg3]; exact z2
            have v3 : w3.cell? ⟨g1, 3, none⟩ = some (.string o.name) := by rw [World.cell?_of_block (a := ⟨g1, 3, none⟩) hg3]; exact z3
            have v4 : w3.cell? ⟨g1, 4, none⟩ = some (.string o.tt) := by rw [World.cell?_of_block (a := ⟨g1, 4, none⟩) hg3]; exact z4
            have v5 : w3.cell? ⟨g1, 5, none⟩ = some (.slice o.ba o.b.length o.bc) := by rw [World.cell?_of_block (a := ⟨g1, 5, none⟩) hg3]; exact z5
            have v6 : w3.cell? ⟨g1, 6, none⟩ = some (.int .i64 o.p0) := by rw [World.cell?_of_block (a := ⟨g1, 6, none⟩) hg3]; exact z6
            have v7 : w3.cell? ⟨g1, 7, none⟩ = some (.int .i64 o.p1) := by rw [World.cell?_of_block (a := ⟨g1, 7, none⟩) hg3]; exact z7
            have v8 : w3.cell? ⟨g1, 8, none⟩ = some (.int .i64 o.p2) := by rw [World.cell?_of_block (a := ⟨g1, 8, none⟩) hg3]; exact z8
            have v9 : w3.cell? ⟨g1, 9, none⟩ = some (.slice o.pa o.pn o.pc) := by rw [World.cell?_of_block (a := ⟨g1, 9, none⟩) hg3]; exact z9
            have HPB3 : Hid _ := HPB.out w3 Fa' d1 d2 d3 d4 d5 d6 d7
            clear HPA HPB d1 d2 d3 d4 d5 d6 d7 d8 hg3 z0 z1 z2 z3 z4 z5 z6 z7 z8 z9 HALL2 HKF HCI HCX HCL HCD HBX HP
            go_wp2_with (go_at_call 26; refine (HCY.out _).mono ?_; rintro e w3 ⟨rfl, rfl⟩)
            refine Calls.mono HPB3.out ?_
            rintro e w4 ⟨rfl, hS4⟩
            clear HPB3 v0 v1 v2 v3 v4 v5 v6 v7 v8 v9
            go_wp2_with fail
            go_roundg (N - (i + 1))
            case measure => go_light; omega
            case rel => go_light; exact ⟨i + 1, c', by omega, by have := HCC.out; omega, rfl, by simp, by have e1 := HCC.out; rw [e1], hS4⟩
          · have kb : (o.kind == 1) = false := beq_eq_false_iff_ne.2 hk
            clear e1 e2 e3 e4 e5 e6 e7 e8 e9 hnf hE hk hkind hE0
            go_wp2_with fail
            refine HPA.out.mono ?_
            rintro e w3 ⟨rfl, Fa', d1, d2, d3, d4, d5, d6, d7, d8, hg3⟩
            have v0 : w3.cell? ⟨g1, 0, none⟩ = some (.int .i64 o.kind) := by rw [World.cell?_of_block (a := ⟨g1, 0, none⟩) hg3]; exact z0
            have v1 : w3.cell? ⟨g1, 1, none⟩ = some (.int .i64 o.on) := by rw [World.cell?_of_block (a := ⟨g1, 1, none⟩) hg3]; exact z1
            have v2 : w3.cell? ⟨g1, 2, none⟩ = some (.int .i64 o.n) := by rw [World.cell?_of_block (a := ⟨g1, 2, none⟩) hg3]; exact z2
            have v3 : w3.cell? ⟨g1, 3, none⟩ = some (.string o.name) := by rw [World.cell?_of_block (a := ⟨g1, 3, none⟩) hg3]; exact z3
            have v4 : w3.cell? ⟨g1, 4, none⟩ = some (.string o.tt) := by rw [World.cell?_of_block (a := ⟨g1, 4, none⟩) hg3]; exact z4
            have v5 : w3.cell? ⟨g1, 5, none⟩ = some (.slice o.ba o.b.length o.bc) := by rw [World.cell?_of_block (a := ⟨g1, 5, none⟩) hg3]; exact z5
            have v6 : w3.cell? ⟨g1, 6, none⟩ = some (.int .i64 o.p0) := by rw [World.cell?_of_block (a := ⟨g1, 6, none⟩) hg3]; exact z6
            have v7 : w3.cell? ⟨g1, 7, none⟩ = some (.int .i64 o.p1) := by rw [World.cell?_of_block (a := ⟨g1, 7, none⟩) hg3]; exact z7
            have v8 : w3.cell? ⟨g1, 8, none⟩ = some (.int .i64 o.p2) := by rw [World.cell?_of_block (a := ⟨g1, 8, none⟩) hg3]; exact z8
            have v9 : w3.cell? ⟨g1, 9, none⟩ = some (.slice o.pa o.pn o.pc) := by rw [World.cell?_of_block (a := ⟨g1, 9, none⟩) hg3]; exact z9
            have HPB3 : Hid _ := HPB.out w3 Fa' d1 d2 d3 d4 d5 d6 d7
            clear HPA HPB d1 d2 d3 d4 d5 d6 d7 d8 hg3 z0 z1 z2 z3 z4 z5 z6 z7 z8 z9 HALL2 HKF HCI HCX HCL HCD HBX HP
            go_wp2_with (go_at_call 26; refine (HCY.out _).mono ?_; rintro e w3 ⟨rfl, rfl⟩)
            refine Calls.mono HPB3.out ?_
            rintro e w4 ⟨rfl, hS4⟩
            clear HPB3 v0 v1 v2 v3 v4 v5 v6 v7 v8 v9
            go_wp2_with fail
            go_roundg (N - (i + 1))
            case measure => go_light; omega
            case rel => go_light; exact ⟨i + 1, c', by omega, by have := HCC.out; omega, rfl, by simp, by have e1 := HCC.out; rw [e1], hS4⟩
    · obtain rfl : i = N := by omega
      have hz : ¬ ((i : Int) < (i : Int)) := by omega
      obtain ⟨⟨Fa, Fb, pa, pb, n, hDa, hDb, hFF, hsim, hca, hcb, hpf, hst, hah, hf', ht', hro, hL, hSa, hSb⟩, hb⟩ := hS
      obtain ⟨hll, hld⟩ := lookI_dt hDa.inv
      have hcl : (crashI pa A.ps).length ≤ 64 := (crashI_len hDa.inv A.ps).2
      have hcd : ∀ j, j < (crashI pa A.ps).length → (dtI (crashI pa A.ps) j).length ≤ 1048576 := fun j hj => by have := crashI_dt hDa.inv A.ps j hj; omega
      have HSEA : Hid (∀ W, Below wr.heap.size wr W → Calls Try.prog 11 #[.pointer (some ⟨da, 0, none⟩)] W fun e w' => ∃ a c, e = .returned (.slice a (lookI pa).length c) ∧ Below wr.heap.size wr w' ∧ Below W.heap.size W w' ∧ ImgI w' a (lookI pa)) := fun W hbW => (seen_is (hDa.on hbW) (by omega)).mono fun e w' ⟨a, c, he, hl, hb'⟩ => ⟨a, c, he, hbW.trans (hb'.mono hbW.size), hb', hl.now⟩
      have HSEB : Hid (∀ W, Below wr.heap.size wr W → Calls Try.prog 11 #[.pointer (some ⟨db, 0, none⟩)] W fun e w' => ∃ a c, e = .returned (.slice a (lookI pa).length c) ∧ Below wr.heap.size wr w' ∧ Below W.heap.size W w' ∧ ImgI w' a (lookI pa)) := fun W hbW => by
        have := seen_is (hDb.on hbW) (by omega)
        rw [← hsim.look] at this
        exact this.mono fun e w' ⟨a, c, he, hl, hb'⟩ => ⟨a, c, he, hbW.trans (hb'.mono hbW.size), hb', hl.now⟩
      have HCRA : Hid (∀ W, Below wr.heap.size wr W → Calls Try.prog 12 #[.pointer (some ⟨da, 0, none⟩), .slice A.pa A.ps.length A.pc] W fun e w' => ∃ g, e = .returned (.slice (some ⟨g, 0, none⟩) (crashI pa A.ps).length (crashI pa A.ps).length) ∧ Below wr.heap.size wr w' ∧ Below W.heap.size W w' ∧ ImgI w' (some ⟨g, 0, none⟩) (crashI pa A.ps)) := fun W hbW => ((hDa.on hbW).crash (by omega) A.ps A.pa A.pc (HP.out.ps.on (hb.trans (hbW.mono hb.size)))).mono fun e w' ⟨g, he, hl, hb'⟩ => ⟨g, he, hbW.trans (hb'.mono hbW.size), hb', hl.now⟩
      have HCRB : Hid (∀ W, Below wr.heap.size wr W → Calls Try.prog 12 #[.pointer (some ⟨db, 0, none⟩), .slice A.pa A.ps.length A.pc] W fun e w' => ∃ g, e = .returned (.slice (some ⟨g, 0, none⟩) (crashI pa A.ps).length (crashI pa A.ps).length) ∧ Below wr.heap.size wr w' ∧ Below W.heap.size W w' ∧ ImgI w' (some ⟨g, 0, none⟩) (crashI pa A.ps)) := fun W hbW => by
        have := (hDb.on hbW).crash (by omega) A.ps A.pa A.pc (HP.out.ps.on (hb.trans (hbW.mono hb.size)))
        rw [← hsim.crash] at this
        exact this.mono fun e w' ⟨g, he, hl, hb'⟩ => ⟨g, he, hbW.trans (hb'.mono hbW.size), hb', hl.now⟩
      have HST : Hid (∀ W, Below wr.heap.size wr W → Calls Try.prog 27 #[.pointer (some ⟨da, 0, none⟩)] W fun e w' => e = .returned (.int .i64 (c : Nat)) ∧ Below wr.heap.size wr w' ∧ Below W.heap.size W w') := fun W hbW => by
        have := (hDa.on hbW).strokes
        rw [hst] at this
        exact this.mono fun e w' ⟨he, hw⟩ => ⟨he, by rw [hw]; exact hbW, by rw [hw]; exact Below.refl _ _⟩
      obtain ⟨LI, HLI⟩ : ∃ I, Hid (lookI pa = I) := ⟨_, rfl⟩
      obtain ⟨CI, HCI⟩ : ∃ I, Hid (crashI pa A.ps = I) := ⟨_, rfl⟩
      have HIM : Hid (∀ W a b c d, ImgI W a LI → ImgI W b LI → Below wr.heap.size wr W → Calls Try.prog 16 #[.slice a LI.length c, .slice b LI.length d] W fun e w' => e = .returned (.bool true) ∧ Below wr.heap.size wr w' ∧ Below W.heap.size W w') := fun W a b c d h1 h2 hbW => by
        refine (image_is c d h1 h2 (by rw [← HLI.out]; omega) (fun j hj => by rw [← HLI.out] at hj ⊢; have := hld j hj; omega)).mono fun e w' ⟨he, m, hm⟩ => ⟨he, by rw [hm]; exact below_drewN hbW m, by rw [hm]; exact below_drewN (Below.refl _ _) m⟩
      have HIC : Hid (∀ W a b c d, ImgI W a CI → ImgI W b CI → Below wr.heap.size wr W → Calls Try.prog 16 #[.slice a CI.length c, .slice b CI.length d] W fun e w' => e = .returned (.bool true) ∧ Below wr.heap.size wr w' ∧ Below W.heap.size W w') := fun W a b c d h1 h2 hbW => by
        refine (image_is c d h1 h2 (by rw [← HCI.out]; omega) (fun j hj => by rw [← HCI.out] at hj ⊢; exact hcd j hj)).mono fun e w' ⟨he, m, hm⟩ => ⟨he, by rw [hm]; exact below_drewN hbW m, by rw [hm]; exact below_drewN (Below.refl _ _) m⟩
      rw [HLI.out] at HSEA HSEB
      rw [HCI.out] at HCRA HCRB
      have HB2 : Hid (∀ W, Below wr.heap.size wr W → W.cell? ⟨w.heap.size, 2, none⟩ = some (.slice A.pa A.ps.length A.pc)) := fun W hbW => (HBX.out W (hb.trans (hbW.mono hb.size))).2.2.1
      have HEN : Hid (∀ W, Below wr.heap.size wr W → Below w.heap.size w W) := fun W hbW => HEND.out W (hb.trans (hbW.mono hb.size))
      clear hDa hDb hFF hsim hca hcb hpf hst hah hf' ht' hro hL hSa hSb hb hll hld hcl hcd HLI HCI HBX HEND HP HOKL HLN
      obtain ⟨ll, hll⟩ : ∃ n, LI.length = n := ⟨_, rfl⟩
      obtain ⟨cl, hcl⟩ : ∃ n, CI.length = n := ⟨_, rfl⟩
      rw [hll] at HSEA HSEB HIM
      rw [hcl] at HCRA HCRB HIC
      have hb0 : Below wr.heap.size wr wr := Below.refl _ _
      have hb0d : Below wr.heap.size wr wr.drew := (Below.refl _ _).drew
      have b2 := HB2.out wr hb0
      clear hll hcl
      go_upto_region 24 with fail
      go_region_held3 (fun W => W.cell? ⟨w.heap.size, 2, none⟩ = some (.slice A.pa A.ps.length A.pc))
        (first | exact b2 | exact HB2.out _ hS1 | exact HB2.out _ hS2 | exact HB2.out _ hS3 | exact HB2.out _ hS4 | exact HB2.out _ hS5 | exact HB2.out _ hS6 | exact HB2.out _ hS7)
        (first
          | (go_at_call 11; with_reducible refine (HSEA.out _ (by first | exact hb0 | exact hb0d | exact hS2)).mono ?_; rintro e wS1 ⟨sa1, sc1, rfl, hS1, hT1, hi1⟩)
          | (go_at_call 11; with_reducible refine (HSEB.out _ (by first | exact hb0 | exact hb0d | exact hS1)).mono ?_; rintro e wS2 ⟨sa2, sc2, rfl, hS2, hT2, hi2⟩)
          | (go_at_call 16; with_reducible refine (HIM.out _ _ _ _ _ (by first | exact hi1 | exact hi1.on hT2) (by first | exact hi2 | exact hi2.on hT1) (by first | exact hS2 | exact hS1)).mono ?_; rintro e wS3 ⟨rfl, hS3, hT3⟩)
          | (go_at_call 12; with_reducible refine (HCRA.out _ (by first | exact hS3 | exact hS5)).mono ?_; rintro e wS4 ⟨cg4, rfl, hS4, hT4, hi4⟩)
          | (go_at_call 12; with_reducible refine (HCRB.out _ (by first | exact hS4 | exact hS3)).mono ?_; rintro e wS5 ⟨cg5, rfl, hS5, hT5, hi5⟩)
          | (go_at_call 16; with_reducible refine (HIC.out _ _ _ _ _ (by first | exact hi4 | exact hi4.on hT5) (by first | exact hi5 | exact hi5.on hT4) (by first | exact hS5 | exact hS4)).mono ?_; rintro e wS6 ⟨rfl, hS6, hT6⟩)
          | (go_at_call 27; with_reducible refine (HST.out _ hS6).mono ?_; rintro e wS7 ⟨rfl, hS7, hT7⟩))
      all_goals
        go_wp2_with fail
        go_ret
        exact ⟨rfl, HEN.out _ hS7⟩
end Go.Proofs.Ytbnlgohaaadgeaa

/- DiskOff: two disks alike until the power of the one goes off at a stroke. -/
namespace Go.Proofs.Ytbnlgohaaadgeaa
open Go.RowKit Go.Maps Go.Sort Go.Joins
set_option maxRecDepth 100000
set_option maxRecDepth 100000

/-- The power does not go off at the next stroke. -/
def Quiet (p : DM) : Prop := p.off = false ∧ hitB p.st p.ah p.po = false
theorem Quiet.err {p : DM} (h : Quiet p) : strokeE p = 0 := by
  unfold strokeE
  rw [h.2]
  rfl
theorem Quiet.str {p : DM} (h : Quiet p) : strokeM p = { p with st := p.st + 1 } := by
  unfold strokeM
  rw [h.2]
  rfl
theorem Calm.quiet {p : DM} (h : Calm p) : Quiet p := ⟨h.1, h.hit⟩
theorem Sim.stroke2 {a b : DM} (h : Sim a b) (ha : Quiet a) (hb : Quiet b) : Sim (strokeM a) (strokeM b) := by
  rw [ha.str, hb.str]
  exact ⟨h.room, h.safe, h.seen, h.ms, h.fm, h.off⟩
theorem app_both2 {a b : DM} (h : Sim a b) (ha : Quiet a) (hb : Quiet b) (hpf : b.pf = 0) (n : Nat) (s : ByteArray) (l : List Nat) (hroom : l.length + usedM a ≤ a.room) :
    ((appD a s l n).2 = 44 ∧ (appD a s l n).1 = strokeM a ∧ appN a n s l = n ∧ fullB (a.st + 1) a.ah a.pf a.pt = true) ∨
    (Both a b n ((appD a s l n).1, appN a n s l, (appD a s l n).2) ((appD b s l n).1, appN b n s l, (appD b s l n).2) ∧ ((appD a s l n).2 = 0 → fullB (a.st + 1) a.ah a.pf a.pt = false)) := by
  have ea := ha.err
  have eb := hb.err
  have hS := h.stroke2 ha hb
  have fa : fullM (strokeM a) l.length = fullB (a.st + 1) a.ah a.pf a.pt := by
    have : decide (l.length + usedM (strokeM a) ≤ (strokeM a).room) = true := decide_eq_true hroom
    unfold fullM
    rw [this]
    show (fullB (a.st + 1) a.ah a.pf a.pt || !true) = _
    simp
  have fb : fullM (strokeM b) l.length = false := by
    have hr : l.length + usedM b ≤ b.room := by rw [← h.used, ← h.room]; exact hroom
    have : decide (l.length + usedM (strokeM b) ≤ (strokeM b).room) = true := decide_eq_true hr
    unfold fullM
    rw [this]
    show (fullB (b.st + 1) b.ah b.pf b.pt || !true) = _
    unfold fullB
    rw [hpf]
    rfl
  have hsz : size a.seen = size b.seen := by rw [h.seen]
  unfold appN appD madeM
  rw [fa, fb, ← h.fnd s, ← hsz, ea, eb]
  obtain ⟨q, e, hf⟩ : ∃ q e, findM a.off a.seen s = (q, e) := ⟨_, _, rfl⟩
  rw [hf]
  cases q with
  | some i =>
    have e1 : (decide ((some i, e) = ((none : Option Nat), 42))) = false := decide_eq_false (by simp)
    rw [e1]
    cases hF : fullB (a.st + 1) a.ah a.pf a.pt with
    | true => exact .inl ⟨rfl, rfl, rfl, rfl⟩
    | false =>
      refine .inr ⟨both_zero (A := { strokeM a with fm := put1 a.fm i (addM (a.fm i) l) }) (B := { strokeM b with fm := put1 b.fm i (addM (b.fm i) l) }) ?_ rfl rfl ⟨rfl, rfl, rfl, rfl⟩ ⟨rfl, rfl, rfl, rfl⟩, fun _ => rfl⟩
      exact ⟨hS.room, hS.safe, hS.seen, hS.ms, by show put1 a.fm i (addM (a.fm i) l) = put1 b.fm i (addM (b.fm i) l); rw [h.fm], hS.off⟩
  | none =>
    by_cases e42 : e = 42
    · subst e42
      have e1 : (decide (((none : Option Nat), 42) = ((none : Option Nat), 42))) = true := decide_eq_true rfl
      rw [e1]
      simp only [if_true, Bool.true_and]
      by_cases h64 : 64 ≤ size a.seen
      · simp only [if_pos h64, decide_eq_true h64, Bool.not_true, Bool.false_and, Bool.false_eq_true, if_false]
        exact .inr ⟨both_same h (by decide) (by decide) (by decide), fun q => by cases q⟩
      · simp only [if_neg h64, decide_eq_false h64, Bool.not_false, Bool.true_and]
        cases hF : fullB (a.st + 1) a.ah a.pf a.pt with
        | true =>
          simp only [if_true, Bool.not_true, Bool.false_eq_true, if_false]
          exact .inl ⟨rfl, trivial, trivial, trivial⟩
        | false =>
          simp only [Bool.false_eq_true, if_false, Bool.not_false, if_true]
          refine .inr ⟨both_zero ?_ rfl rfl ⟨rfl, rfl, rfl, rfl⟩ ⟨rfl, rfl, rfl, rfl⟩, fun _ => trivial⟩
          have := hS.change ⟨some n, ⟨#[]⟩, s⟩
          exact ⟨this.room, this.safe, this.seen, this.ms, by show put1 a.fm n _ = put1 b.fm n _; rw [h.fm], this.off⟩
    · have e1 : (decide (((none : Option Nat), e) = ((none : Option Nat), 42))) = false := decide_eq_false (by simp [e42])
      rw [e1]
      simp only [if_neg e42, Bool.false_and, Bool.false_eq_true, if_false]
      have := findM_calm ha.1 hf
      exact .inr ⟨both_same h (by omega) (by omega) (by omega), fun q => by omega⟩
theorem cut_both2 {a b : DM} (h : Sim a b) (ha : Quiet a) (hb : Quiet b) (n : Nat) (s : ByteArray) (k : Int) : Both a b n ((cutD a s k).1, n, (cutD a s k).2) ((cutD b s k).1, n, (cutD b s k).2) := by
  unfold cutD
  rw [← h.fnd s, ha.err, hb.err]
  obtain ⟨q, e, hf⟩ : ∃ q e, findM a.off a.seen s = (q, e) := ⟨_, _, rfl⟩
  rw [hf]
  cases q with
  | none =>
    have := findM_calm ha.1 hf
    exact both_same (e := e) h (by omega) (by omega) (by omega)
  | some i =>
    show Both a b n ((if k < 0 ∨ ((a.fm i).sz : Int) < k then _ else _ : DM × Nat).1, n, (if k < 0 ∨ ((a.fm i).sz : Int) < k then _ else _ : DM × Nat).2) ((if k < 0 ∨ ((b.fm i).sz : Int) < k then _ else _ : DM × Nat).1, n, (if k < 0 ∨ ((b.fm i).sz : Int) < k then _ else _ : DM × Nat).2)
    rw [← h.fm]
    by_cases hk : k < 0 ∨ ((a.fm i).sz : Int) < k
    · rw [if_pos hk, if_pos hk]; exact both_same (e := 43) h (by decide) (by decide) (by decide)
    · rw [if_neg hk, if_neg hk]
      refine both_zero ?_ rfl rfl ⟨rfl, rfl, rfl, rfl⟩ ⟨rfl, rfl, rfl, rfl⟩
      have := h.stroke2 ha hb
      exact ⟨this.room, this.safe, this.seen, this.ms, rfl, this.off⟩
theorem sync_both2 {a b : DM} (h : Sim a b) (ha : Quiet a) (hb : Quiet b) (n : Nat) (s : ByteArray) : Both a b n ((syncM a s).1, n, (syncM a s).2) ((syncM b s).1, n, (syncM b s).2) := by
  unfold syncM
  rw [← h.fnd s, ha.err, hb.err]
  obtain ⟨q, e, hf⟩ : ∃ q e, findM a.off a.seen s = (q, e) := ⟨_, _, rfl⟩
  rw [hf]
  cases q with
  | none =>
    have := findM_calm ha.1 hf
    exact both_same (e := e) h (by omega) (by omega) (by omega)
  | some i =>
    refine both_zero (A := { strokeM a with fm := put1 a.fm i (safeM (a.fm i)) }) (B := { strokeM b with fm := put1 b.fm i (safeM (b.fm i)) }) ?_ rfl rfl ⟨rfl, rfl, rfl, rfl⟩ ⟨rfl, rfl, rfl, rfl⟩
    have := h.stroke2 ha hb
    exact ⟨this.room, this.safe, this.seen, this.ms, by show put1 a.fm i (safeM (a.fm i)) = put1 b.fm i (safeM (b.fm i)); rw [h.fm], this.off⟩
theorem names_both2 {a b : DM} (h : Sim a b) (ha : Quiet a) (hb : Quiet b) (n : Nat) : Both a b n ((syncN a).1, n, (syncN a).2) ((syncN b).1, n, (syncN b).2) := by
  unfold syncN
  rw [ha.err, hb.err, ha.1, hb.1]
  exact both_zero (h.stroke2 ha hb).safeN rfl rfl ⟨rfl, rfl, rfl, rfl⟩ ⟨rfl, rfl, rfl, rfl⟩
theorem ren_both2 {a b : DM} (h : Sim a b) (ha : Quiet a) (hb : Quiet b) (n : Nat) (s t : ByteArray) : Both a b n ((renameD a s t).1, n, (renameD a s t).2) ((renameD b s t).1, n, (renameD b s t).2) := by
  unfold renameD
  rw [← h.fnd s, ha.err, hb.err]
  obtain ⟨q, e, hf⟩ : ∃ q e, findM a.off a.seen s = (q, e) := ⟨_, _, rfl⟩
  rw [hf]
  cases q with
  | none =>
    have := findM_calm ha.1 hf
    show Both a b n (a, n, if e ≠ 45 ∧ okN t = false then 41 else e) (b, n, if e ≠ 45 ∧ okN t = false then 41 else e)
    split
    · exact both_same h (by decide) (by decide) (by decide)
    · exact both_same h (by omega) (by omega) (by omega)
  | some i =>
    by_cases ht : okN t = true
    · simp only [if_pos ht]
      by_cases hst : s.toList = t.toList
      · simp only [if_pos hst]
        exact both_zero (h.stroke2 ha hb) rfl rfl ⟨rfl, rfl, rfl, rfl⟩ ⟨rfl, rfl, rfl, rfl⟩
      · simp only [if_neg hst]
        exact both_zero ((h.stroke2 ha hb).change _) rfl rfl ⟨rfl, rfl, rfl, rfl⟩ ⟨rfl, rfl, rfl, rfl⟩
    · simp only [if_neg ht]
      exact both_same h (by decide) (by decide) (by decide)
theorem rem_both2 {a b : DM} (h : Sim a b) (ha : Quiet a) (hb : Quiet b) (n : Nat) (s : ByteArray) : Both a b n ((removeD a s).1, n, (removeD a s).2) ((removeD b s).1, n, (removeD b s).2) := by
  unfold removeD
  rw [← h.fnd s, ha.err, hb.err]
  obtain ⟨q, e, hf⟩ : ∃ q e, findM a.off a.seen s = (q, e) := ⟨_, _, rfl⟩
  rw [hf]
  cases q with
  | none =>
    have := findM_calm ha.1 hf
    exact both_same (e := e) h (by omega) (by omega) (by omega)
  | some i => exact both_zero ((h.stroke2 ha hb).change _) rfl rfl ⟨rfl, rfl, rfl, rfl⟩ ⟨rfl, rfl, rfl, rfl⟩
theorem step_both2 {a b : DM} (h : Sim a b) (ha : Quiet a) (hb : Quiet b) (hpf : b.pf = 0) (n : Nat) (o : Dp) (hk : 1 ≤ o.kind ∧ o.kind ≤ 6) (hroom : o.l.length + usedM a ≤ a.room) :
    ((stepM a n o).2.2 = 44 ∧ (stepM a n o).1 = strokeM a ∧ (stepM a n o).2.1 = n ∧ o.kind = 1 ∧ fullB (a.st + 1) a.ah a.pf a.pt = true) ∨
    (Both a b n (stepM a n o) (stepM b n o) ∧ (o.kind = 1 → (stepM a n o).2.2 = 0 → fullB (a.st + 1) a.ah a.pf a.pt = false)) := by
  unfold stepM
  by_cases h1 : o.kind = 1
  · rw [if_pos h1, if_pos h1]
    rcases app_both2 h ha hb hpf n o.s o.l hroom with ⟨q1, q2, q3, q4⟩ | ⟨q1, q2⟩
    · exact .inl ⟨q1, q2, q3, h1, q4⟩
    · exact .inr ⟨q1, fun _ => q2⟩
  · rw [if_neg h1, if_neg h1]
    refine .inr ⟨?_, fun q => absurd q h1⟩
    by_cases h2 : o.kind = 2
    · rw [if_pos h2, if_pos h2]; exact cut_both2 h ha hb n o.s o.k
    · rw [if_neg h2, if_neg h2]
      by_cases h3 : o.kind = 3
      · rw [if_pos h3, if_pos h3]; exact sync_both2 h ha hb n o.s
      · rw [if_neg h3, if_neg h3]
        by_cases h4 : o.kind = 4
        · rw [if_pos h4, if_pos h4]; exact names_both2 h ha hb n
        · rw [if_neg h4, if_neg h4]
          by_cases h5 : o.kind = 5
          · rw [if_pos h5, if_pos h5]; exact ren_both2 h ha hb n o.s o.t
          · rw [if_neg h5, if_neg h5, if_pos (by omega), if_pos (by omega)]
            exact rem_both2 h ha hb n o.s

/-- The power goes off at the next stroke. -/
def Hit (p : DM) : Prop := p.off = false ∧ hitB p.st p.ah p.po = true
theorem Hit.err {p : DM} (h : Hit p) : strokeE p = 45 := by
  unfold strokeE
  rw [h.2]
  rfl
theorem Hit.str {p : DM} (h : Hit p) : strokeM p = { p with st := p.st + 1, off := true } := by
  unfold strokeM
  rw [h.2]
  rfl
/-- Alike in what a crash leaves. -/
structure Left (a b : DM) : Prop where
  safe : a.safe = b.safe
  ms : a.ms = b.ms
  fm : a.fm = b.fm
theorem Left.crash {a b : DM} (h : Left a b) (ps : List Int) : crashI a ps = crashI b ps := by
  unfold crashI leftM
  rw [h.safe, h.ms, h.fm]
/-- A step at whose stroke the power of b goes off. -/
structure OffS (a b : DM) (n : Nat) (k : Int) (ra rb : DM × Nat × Nat) : Prop where
  no : ra.2.2 ≠ 0 → rb.2.2 = ra.2.2 ∧ ra.1 = a ∧ rb.1 = b ∧ ra.2.1 = n ∧ rb.2.1 = n ∧ ra.2.2 ≠ 44 ∧ ra.2.2 ≠ 45
  err : ra.2.2 = 0 → rb.2.2 = 45 ∧ rb.1.off = true ∧ rb.1.st = b.st + 1 ∧ ((k = 3 ∨ k = 4) → Left a rb.1) ∧ (k ≠ 3 → k ≠ 4 → Left ra.1 rb.1)
theorem app_off {a b : DM} (h : Sim a b) (ha : Quiet a) (hb : Hit b) (hpa : a.pf = 0) (hpf : b.pf = 0) (n : Nat) (s : ByteArray) (l : List Nat) (hroom : l.length + usedM a ≤ a.room) : OffS a b n 1 ((appD a s l n).1, appN a n s l, (appD a s l n).2) ((appD b s l n).1, appN b n s l, (appD b s l n).2) := by
  have ea := ha.err
  have eb := hb.err
  have fa : fullM (strokeM a) l.length = false := by
    have : decide (l.length + usedM (strokeM a) ≤ (strokeM a).room) = true := decide_eq_true hroom
    unfold fullM
    rw [this]
    show (fullB (a.st + 1) a.ah a.pf a.pt || !true) = _
    unfold fullB
    rw [hpa]
    rfl
  have fb : fullM (strokeM b) l.length = false := by
    have hr : l.length + usedM b ≤ b.room := by rw [← h.used, ← h.room]; exact hroom
    have : decide (l.length + usedM (strokeM b) ≤ (strokeM b).room) = true := decide_eq_true hr
    unfold fullM
    rw [this]
    show (fullB (b.st + 1) b.ah b.pf b.pt || !true) = _
    unfold fullB
    rw [hpf]
    rfl
  have hsz : size a.seen = size b.seen := by rw [h.seen]
  unfold appN appD madeM
  rw [fa, fb, ← h.fnd s, ← hsz, ea, eb]
  obtain ⟨q, e, hf⟩ : ∃ q e, findM a.off a.seen s = (q, e) := ⟨_, _, rfl⟩
  rw [hf]
  cases q with
  | some i =>
    refine ⟨fun q => absurd rfl q, fun _ => ⟨rfl, by show (strokeM b).off = true; rw [hb.str], rfl, fun q => absurd q (by decide), fun _ _ => ⟨h.safe, h.ms, by show put1 a.fm i (addM (a.fm i) l) = put1 b.fm i (addM (b.fm i) l); rw [h.fm]⟩⟩⟩
  | none =>
    by_cases e42 : e = 42
    · subst e42
      have e1 : (decide (((none : Option Nat), 42) = ((none : Option Nat), 42))) = true := decide_eq_true rfl
      rw [e1]
      simp only [if_true, Bool.true_and]
      by_cases h64 : 64 ≤ size a.seen
      · simp only [if_pos h64, decide_eq_true h64, Bool.not_true, Bool.false_and, Bool.false_eq_true, if_false]
        exact ⟨fun _ => ⟨rfl, rfl, rfl, rfl, rfl, (fun q => by cases q), (fun q => by cases q)⟩, fun q => by cases q⟩
      · simp only [if_neg h64, Bool.false_eq_true, if_false]
        exact ⟨fun q => absurd rfl q, fun _ => ⟨rfl, by show (strokeM b).off = true; rw [hb.str], rfl, fun q => absurd q (by decide), fun _ _ => ⟨h.safe, by show a.ms ++ [_] = b.ms ++ [_]; rw [h.ms], by show put1 a.fm n _ = put1 b.fm n _; rw [h.fm]⟩⟩⟩
    · have e1 : (decide (((none : Option Nat), e) = ((none : Option Nat), 42))) = false := decide_eq_false (by simp [e42])
      rw [e1]
      simp only [if_neg e42, Bool.false_and, Bool.false_eq_true, if_false]
      have := findM_calm ha.1 hf
      exact ⟨fun _ => ⟨rfl, rfl, rfl, rfl, rfl, (fun q => by have q : e = 44 := q; omega), (fun q => by have q : e = 45 := q; omega)⟩, fun q => by have q : e = 0 := q; omega⟩
theorem step_hit {a b : DM} (h : Sim a b) (ha : Quiet a) (hb : Hit b) (hpa : a.pf = 0) (hpf : b.pf = 0) (n : Nat) (o : Dp) (hk : 1 ≤ o.kind ∧ o.kind ≤ 6) (hroom : o.l.length + usedM a ≤ a.room) : OffS a b n o.kind (stepM a n o) (stepM b n o) := by
  unfold stepM
  by_cases h1 : o.kind = 1
  · rw [if_pos h1, if_pos h1, h1]
    exact app_off h ha hb hpa hpf n o.s o.l hroom
  · rw [if_neg h1, if_neg h1]
    by_cases h2 : o.kind = 2
    · rw [if_pos h2, if_pos h2, h2]
      unfold cutD
      rw [← h.fnd o.s, ha.err, hb.err]
      obtain ⟨q, e, hf⟩ : ∃ q e, findM a.off a.seen o.s = (q, e) := ⟨_, _, rfl⟩
      rw [hf]
      cases q with
      | none =>
        have := findM_calm ha.1 hf
        exact ⟨fun _ => ⟨rfl, rfl, rfl, rfl, rfl, (fun q => by have q : e = 44 := q; omega), (fun q => by have q : e = 45 := q; omega)⟩, fun q => by have q : e = 0 := q; omega⟩
      | some i =>
        show OffS a b n 2 ((if o.k < 0 ∨ ((a.fm i).sz : Int) < o.k then _ else _ : DM × Nat).1, n, (if o.k < 0 ∨ ((a.fm i).sz : Int) < o.k then _ else _ : DM × Nat).2) ((if o.k < 0 ∨ ((b.fm i).sz : Int) < o.k then _ else _ : DM × Nat).1, n, (if o.k < 0 ∨ ((b.fm i).sz : Int) < o.k then _ else _ : DM × Nat).2)
        rw [← h.fm]
        by_cases hk : o.k < 0 ∨ ((a.fm i).sz : Int) < o.k
        · rw [if_pos hk, if_pos hk]; exact ⟨fun _ => ⟨rfl, rfl, rfl, rfl, rfl, (fun q => by cases q), (fun q => by cases q)⟩, fun q => by cases q⟩
        · rw [if_neg hk, if_neg hk]
          exact ⟨fun q => absurd rfl q, fun _ => ⟨rfl, by show (strokeM b).off = true; rw [hb.str], rfl, fun q => absurd q (by decide), fun _ _ => ⟨h.safe, h.ms, rfl⟩⟩⟩
    · rw [if_neg h2, if_neg h2]
      by_cases h3 : o.kind = 3
      · rw [if_pos h3, if_pos h3, h3]
        unfold syncM
        rw [← h.fnd o.s, ha.err, hb.err]
        obtain ⟨q, e, hf⟩ : ∃ q e, findM a.off a.seen o.s = (q, e) := ⟨_, _, rfl⟩
        rw [hf]
        cases q with
        | none =>
          have := findM_calm ha.1 hf
          exact ⟨fun _ => ⟨rfl, rfl, rfl, rfl, rfl, (fun q => by have q : e = 44 := q; omega), (fun q => by have q : e = 45 := q; omega)⟩, fun q => by have q : e = 0 := q; omega⟩
        | some i => exact ⟨fun q => absurd rfl q, fun _ => ⟨rfl, by show (strokeM b).off = true; rw [hb.str], rfl, fun _ => ⟨h.safe, h.ms, h.fm⟩, fun q => absurd rfl q⟩⟩
      · rw [if_neg h3, if_neg h3]
        by_cases h4 : o.kind = 4
        · rw [if_pos h4, if_pos h4, h4]
          unfold syncN
          rw [ha.err, hb.err, ha.1, hb.1]
          exact ⟨fun q => absurd rfl q, fun _ => ⟨rfl, by show (strokeM b).off = true; rw [hb.str], rfl, fun _ => ⟨h.safe, h.ms, h.fm⟩, fun _ q => absurd rfl q⟩⟩
        · rw [if_neg h4, if_neg h4]
          by_cases h5 : o.kind = 5
          · rw [if_pos h5, if_pos h5, h5]
            unfold renameD
            rw [← h.fnd o.s, ha.err, hb.err]
            obtain ⟨q, e, hf⟩ : ∃ q e, findM a.off a.seen o.s = (q, e) := ⟨_, _, rfl⟩
            rw [hf]
            cases q with
            | none =>
              have := findM_calm ha.1 hf
              refine ⟨fun _ => ⟨rfl, rfl, rfl, rfl, rfl, fun q => ?_, fun q => ?_⟩, fun q => ?_⟩
              · have q : (if e ≠ 45 ∧ okN o.t = false then 41 else e) = 44 := q
                split at q <;> omega
              · have q : (if e ≠ 45 ∧ okN o.t = false then 41 else e) = 45 := q
                split at q <;> omega
              · have q : (if e ≠ 45 ∧ okN o.t = false then 41 else e) = 0 := q
                split at q <;> omega
            | some i =>
              by_cases ht : okN o.t = true
              · simp only [if_pos ht]
                by_cases hst : o.s.toList = o.t.toList
                · simp only [if_pos hst]
                  exact ⟨fun q => absurd rfl q, fun _ => ⟨rfl, by show (strokeM b).off = true; rw [hb.str], rfl, fun q => absurd q (by decide), fun _ _ => ⟨h.safe, h.ms, h.fm⟩⟩⟩
                · simp only [if_neg hst]
                  exact ⟨fun q => absurd rfl q, fun _ => ⟨rfl, by show (strokeM b).off = true; rw [hb.str], rfl, fun q => absurd q (by decide), fun _ _ => ⟨h.safe, by show a.ms ++ [_] = b.ms ++ [_]; rw [h.ms], h.fm⟩⟩⟩
              · simp only [if_neg ht]
                exact ⟨fun _ => ⟨rfl, rfl, rfl, rfl, rfl, (fun q => by cases q), (fun q => by cases q)⟩, fun q => by cases q⟩
          · rw [if_neg h5, if_neg h5, if_pos (by omega), if_pos (by omega)]
            have h6 : o.kind = 6 := by omega
            rw [h6]
            unfold removeD
            rw [← h.fnd o.s, ha.err, hb.err]
            obtain ⟨q, e, hf⟩ : ∃ q e, findM a.off a.seen o.s = (q, e) := ⟨_, _, rfl⟩
            rw [hf]
            cases q with
            | none =>
              have := findM_calm ha.1 hf
              exact ⟨fun _ => ⟨rfl, rfl, rfl, rfl, rfl, (fun q => by have q : e = 44 := q; omega), (fun q => by have q : e = 45 := q; omega)⟩, fun q => by have q : e = 0 := q; omega⟩
            | some i => exact ⟨fun q => absurd rfl q, fun _ => ⟨rfl, by show (strokeM b).off = true; rw [hb.str], rfl, fun q => absurd q (by decide), fun _ _ => ⟨h.safe, by show a.ms ++ [_] = b.ms ++ [_]; rw [h.ms], h.fm⟩⟩⟩
/-- Dead: every step is answered off, and nothing turns. -/
theorem step_dead {p : DM} (h : p.off = true) (n : Nat) (o : Dp) (hk : 1 ≤ o.kind ∧ o.kind ≤ 6) : stepM p n o = (p, n, 45) := by
  have hf : ∀ s, findM p.off p.seen s = (none, 45) := fun s => by unfold findM; rw [h]; rfl
  unfold stepM
  by_cases h1 : o.kind = 1
  · rw [if_pos h1]
    unfold appN appD madeM
    rw [hf]
    rfl
  · rw [if_neg h1]
    by_cases h2 : o.kind = 2
    · rw [if_pos h2]; unfold cutD; rw [hf]
    · rw [if_neg h2]
      by_cases h3 : o.kind = 3
      · rw [if_pos h3]; unfold syncM; rw [hf]
      · rw [if_neg h3]
        by_cases h4 : o.kind = 4
        · rw [if_pos h4]; unfold syncN; rw [h]; rfl
        · rw [if_neg h4]
          by_cases h5 : o.kind = 5
          · rw [if_pos h5]; unfold renameD; rw [hf]; rfl
          · rw [if_neg h5, if_pos (by omega)]; unfold removeD; rw [hf]
end Go.Proofs.Ytbnlgohaaadgeaa

/- gone: a disk whose power is off. -/
namespace Go.Proofs.Ytbnlgohaaadgeaa
open Go.RowKit Go.Maps Go.Sort Go.Joins
set_option maxRecDepth 100000
set_option maxRecDepth 100000

set_option maxHeartbeats 3200000 in
theorem gone_is {w1 W : World} {db lo hi T n : Nat} {p : DM} {F : Nat → Prop} (hD : DK W w1.heap.size db p n T F) (hoff : p.off = true) (hb : Below w1.heap.size w1 W) (hT : T ≤ 1000000) {va : Option Addr} (vc : Nat) {gl : List OpV} (hlen : gl.length ≤ 200) (hL : Lies lo hi W (fun W => OpsIn W va gl)) (hSp : Spare lo hi F)
    (hok : ∀ (i : Nat) (o : OpV), gl[i]? = some o → (1 ≤ o.kind ∧ o.kind ≤ 6) ∧ o.ok w1 ∧ o.b.length ≤ 4096 ∧ ∀ ad, o.ba = some ad → 0 < o.b.length → ad.block < w1.heap.size) :
    Calls Try.prog 31 #[.pointer (some ⟨db, 0, none⟩), .slice va gl.length vc] W fun e w' => e = .returned (.bool true) ∧ ∃ F', DK w' w1.heap.size db p n (T + 900000) F' ∧ Mv F F' W w' ∧ Below w1.heap.size w1 w' := by
  have HNUM : Hid (∀ (e : Int) W, Calls Try.prog 15 #[.int .i64 e] W fun r w' => r = .returned (.int .i64 e) ∧ w' = W) := num_is
  obtain ⟨S2, HS2⟩ : ∃ S2 : World → Prop, Hid (∀ X, S2 X ↔ ∃ F', DK X w1.heap.size db p n (T + 900000) F' ∧ Mv F F' W X ∧ Below w1.heap.size w1 X) := ⟨_, fun _ => Iff.rfl⟩
  refine Calls.mono (?_ : Calls _ _ _ _ fun e w' => e = .returned (.bool true) ∧ S2 w') (fun e w' ⟨he, hr⟩ => ⟨he, (HS2.out w').1 hr⟩)
  obtain ⟨S, HS⟩ : ∃ S : Nat → World → Prop, Hid (∀ i X, S i X ↔ ∃ F', DK X w1.heap.size db p n (T + 4098 * i) F' ∧ Mv F F' W X ∧ Below w1.heap.size w1 X ∧ Lies lo hi X (fun W => OpsIn W va gl) ∧ Spare lo hi F') := ⟨_, fun _ _ => Iff.rfl⟩
  have hS0 : S 0 W := (HS.out 0 W).2 ⟨F, hD, Mv.refl _ _, hb, hL, hSp⟩
  have HOK : Hid (∀ (i : Nat) (o : OpV), gl[i]? = some o → (1 ≤ o.kind ∧ o.kind ≤ 6) ∧ o.ok w1 ∧ o.b.length ≤ 4096 ∧ ∀ ad, o.ba = some ad → 0 < o.b.length → ad.block < w1.heap.size) := hok
  have HOFF : Hid (p.off = true) := hoff
  obtain ⟨N, hN⟩ : ∃ N, gl.length = N := ⟨_, rfl⟩
  rw [hN] at hlen ⊢
  have HN : Hid (gl.length = N) := hN
  clear hD hoff hb hL hSp hok hN
  go_enter Try.func31, Try.ntmps31
  go_wp2_with fail
  go_loopg [5] N (fun q s5 wx => ∃ (i : Nat), i ≤ N ∧ q = N - i ∧ s5 = .int .i64 i ∧ S i wx)
  case atStart => exact ⟨0, Nat.zero_le _, rfl, rfl, hS0⟩
  case round =>
    obtain ⟨i, hi0, rfl, rfl, hS⟩ := hrel
    clear hS0
    by_cases hlt : i < N
    · have hz : (i : Int) < (N : Int) := by omega
      have hwi : IntKind.i64.wrap ((i : Int) + 1) = (i : Int) + 1 := by rw [IntKind.wrap_i64]; omega
      obtain ⟨F', hD, hM, hb, hL, hSp⟩ := (HS.out i wr).1 hS
      obtain ⟨o, ho⟩ : ∃ o, gl[i]? = some o := ⟨_, List.getElem?_eq_getElem (by have := HN.out; omega)⟩
      obtain ⟨b, off, rfl, hc⟩ := hL.now i o ho
      have q0 : wr.cell? ⟨b, off + i * 10, none⟩ = some (.int .i64 o.kind) := hc 0 _ rfl
      have q1 : wr.cell? ⟨b, off + i * 10 + 1, none⟩ = some (.int .i64 o.on) := hc 1 _ rfl
      have q2 : wr.cell? ⟨b, off + i * 10 + 2, none⟩ = some (.int .i64 o.n) := hc 2 _ rfl
      have q3 : wr.cell? ⟨b, off + i * 10 + 3, none⟩ = some (.string o.name) := hc 3 _ rfl
      have q4 : wr.cell? ⟨b, off + i * 10 + 4, none⟩ = some (.string o.tt) := hc 4 _ rfl
      have q5 : wr.cell? ⟨b, off + i * 10 + 5, none⟩ = some (.slice o.ba o.b.length o.bc) := hc 5 _ rfl
      have q6 : wr.cell? ⟨b, off + i * 10 + 6, none⟩ = some (.int .i64 o.p0) := hc 6 _ rfl
      have q7 : wr.cell? ⟨b, off + i * 10 + 7, none⟩ = some (.int .i64 o.p1) := hc 7 _ rfl
      have q8 : wr.cell? ⟨b, off + i * 10 + 8, none⟩ = some (.int .i64 o.p2) := hc 8 _ rfl
      have q9 : wr.cell? ⟨b, off + i * 10 + 9, none⟩ = some (.slice o.pa o.pn o.pc) := hc 9 _ rfl
      obtain ⟨⟨hk1, hk2⟩, o1, o2, o3⟩ := HOK.out i o ho
      have HPL : Hid (Calls Try.prog 9 #[.pointer (some ⟨db, 0, none⟩), .agg #[.int .i64 o.kind, .int .i64 o.on, .int .i64 o.n, .string o.name, .string o.tt, .slice o.ba o.b.length o.bc, .int .i64 o.p0, .int .i64 o.p1, .int .i64 o.p2, .slice o.pa o.pn o.pc]] wr fun e w' => e = .returned (.int .i64 45) ∧ S (i + 1) w') := by
        have hdead := step_dead HOFF.out n o.dp ⟨hk1, hk2⟩
        refine (play_step hD hb (by omega) o o1 o2 o3).mono fun e w' ⟨he, F2, hD', hM', hb'⟩ => ⟨by rw [he, hdead]; rfl, (HS.out _ _).2 ⟨F2, ?_, hM.trans hM', hb', (hL.mv hSp hM').1, (hL.mv hSp hM').2⟩⟩
        rw [hdead] at hD'
        exact hD'.mono (by omega)
      clear hS hD hM hb hL hSp hc HS HOK ho HN o1 o2 o3 HOFF HS2
      go_wp2_with fail
      refine HPL.out.mono ?_
      rintro e w5 ⟨rfl, hS5⟩
      clear HPL q0 q1 q2 q3 q4 q5 q6 q7 q8 q9
      go_wp2_with fail
      go_roundg (N - (i + 1))
      case measure => go_light; omega
      case rel => go_light; exact ⟨i + 1, by omega, rfl, by simp, hS5⟩
    · obtain rfl : i = N := by omega
      have hz : ¬ ((i : Int) < (i : Int)) := by omega
      obtain ⟨F', hD, hM, hb, hL, hSp⟩ := (HS.out i wr).1 hS
      have eP : planM p 0 0 0 = p := if_pos HOFF.out
      have HPN : Hid (Calls Try.prog 25 #[.pointer (some ⟨db, 0, none⟩), .agg #[.int .i64 0, .int .i64 0, .int .i64 0]] wr fun e w' => e = .returned (.tuple #[]) ∧ Calls Try.prog 32 #[.pointer (some ⟨db, 0, none⟩), .string ⟨#[97]⟩, .slice none 0 0] w' fun e w2 => e = .returned (.int .i64 45) ∧ S2 w2) := by
        refine (hD.plan 0 0 0).mono fun e w' ⟨he, F2, hD2, hM2⟩ => ⟨he, ?_⟩
        rw [eP] at hD2
        have hb2 := Mv.below hb hb.size (fun k hk => (hD.lt k hk).1) hM2
        have ea : appD p ⟨#[97]⟩ [] n = (p, 45) ∧ appN p n ⟨#[97]⟩ [] = n := by
          have hf : findM p.off p.seen ⟨#[97]⟩ = (none, 45) := by unfold findM; rw [HOFF.out]; rfl
          unfold appN appD madeM
          rw [hf]
          exact ⟨rfl, rfl⟩
        refine (hD2.app (by omega) ⟨#[97]⟩ none 0 [] (by decide) (fun j hj => absurd hj (Nat.not_lt_zero _)) (fun _ => ⟨rfl, rfl⟩) (fun ad e => by cases e)).mono fun e w2 ⟨he2, F3, hD3, hM3⟩ => ?_
        rw [ea.1] at he2 hD3
        rw [ea.2] at hD3
        exact ⟨he2, (HS2.out w2).2 ⟨F3, hD3.mono (by show T + 4098 * i + 0 + 2 ≤ T + 900000; omega), (hM.trans hM2).trans hM3, Mv.below hb2 hb2.size (fun k hk => (hD2.lt k hk).1) hM3⟩⟩
      clear hS hD hM hb hL hSp HS HOK HN HOFF eP HS2
      go_wp2_with fail
      refine HPN.out.mono ?_
      rintro e w2 ⟨rfl, hap⟩
      have HAP : Hid (Calls Try.prog 32 #[.pointer (some ⟨db, 0, none⟩), .string ⟨#[97]⟩, .slice none 0 0] w2 fun e w2 => e = .returned (.int .i64 45) ∧ S2 w2) := hap
      clear HPN hap
      go_wp2_with (first
        | (go_at_call 32; refine HAP.out.mono ?_; rintro e w3 ⟨rfl, hS3⟩)
        | (go_at_call 15; refine (HNUM.out _ _).mono ?_; rintro e w3 ⟨rfl, rfl⟩))
      go_ret
      exact ⟨rfl, hS3⟩
end Go.Proofs.Ytbnlgohaaadgeaa
