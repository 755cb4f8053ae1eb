/- Own texts, joined: Msg13, Msg14, Msg15, Msg16, Msg17, RefV, RefV2, RefQ. -/
import Derived.Test.YtonpmabdjngdcaaGreatDoorM6
import Derived.Test.YtonpmabdjngdcaaGreatDoorM4

/- Package message: read, up to its last region. -/
namespace Go.Proofs.YtonpmabdjngdcaaGreatDoor
open Go.RowKit
set_option maxRecDepth 100000

def mgL (m : Mg) (va : Option Addr) (vc : Nat) : List Value := (List.range 22).map (mgCell m va vc)
def mgV (m : Mg) (va : Option Addr) (vc : Nat) : Value := .agg (mgL m va vc).toArray
theorem mgL_len (m : Mg) (va : Option Addr) (vc : Nat) : (mgL m va vc).length = 22 := by simp [mgL]
theorem infoMg : (Tryz.prog.info? 37).map (·.size) = some 22 := by kernel_rfl
theorem infoMg' (m : Mg) (va : Option Addr) (vc : Nat) : (Tryz.prog.info? 37).map (·.size) = some (mgL m va vc).length := by rw [mgL_len]; exact infoMg
theorem mgCell_one (m : Mg) (va : Option Addr) (vc i : Nat) : (mgCell m va vc i).oneCell' = true := by
  unfold mgCell
  split
  · rfl
  · split
    · rfl
    · split <;> rfl
theorem mgL_one (m : Mg) (va : Option Addr) (vc : Nat) : ∀ v ∈ mgL m va vc, v.oneCell' = true := fun v hv => by
  obtain ⟨i, _, rfl⟩ := List.mem_map.1 hv
  exact mgCell_one m va vc i
theorem mgL_range {w : World} {mb : Nat} {m : Mg} {va : Option Addr} {vc : Nat} (h : w.rowIs mb 37 22 (mgCell m va vc)) : w.rangeAt mb 0 (mgL m va vc) := fun j v hv => by
  have hj : j < 22 := by have := (List.getElem?_eq_some_iff.1 hv).1; rwa [mgL_len] at this
  have : v = mgCell m va vc j := by
    unfold mgL at hv
    rw [List.getElem?_map, List.getElem?_range hj] at hv
    exact (Option.some.inj hv).symm
  rw [this, Nat.zero_add]
  exact h.cell hj
theorem row_there {w : World} {b t k : Nat} {f : Nat → Value} (h : w.rowIs b t k f) : w.there b 0 k := fun j hj => ⟨by rw [Nat.zero_add, h.cell hj]; rfl, by rw [Nat.zero_add]; exact h.frozen j⟩
/-- A message of nothing. -/
def mgZ : Obj := .cells #[.int .i64 0, .int .i64 0, .int .i64 0, .int .i64 0, .int .u64 0, .int .u64 0, .int .u64 0, .int .u64 0, .int .i64 0, .int .u64 0, .slice none 0 0, .int .i64 0, .int .u64 0, .string ⟨#[]⟩, .string ⟨#[]⟩, .int .u64 0, .int .u64 0, .int .u64 0, .int .i64 0, .int .i64 0, .int .i64 0, .int .i64 0] 37
theorem mgZ_row (w : World) : (w.alloc mgZ).rowIs w.heap.size 37 22 (mgCell mg0 none 0) :=
  World.rowIs_alloc w _ _ _ (fun i hi => by
    have hi' : i < 22 := hi
    have : ∀ j : Fin 22, (#[Value.int .i64 0, .int .i64 0, .int .i64 0, .int .i64 0, .int .u64 0, .int .u64 0, .int .u64 0, .int .u64 0, .int .i64 0, .int .u64 0, .slice none 0 0, .int .i64 0, .int .u64 0, .string ⟨#[]⟩, .string ⟨#[]⟩, .int .u64 0, .int .u64 0, .int .u64 0, .int .i64 0, .int .i64 0, .int .i64 0, .int .i64 0] : Array Value)[j.val]? = some (mgCell mg0 none 0 j.val) := by
      intro j
      match j with
      | ⟨0, _⟩ => rfl
      | ⟨1, _⟩ => rfl
      | ⟨2, _⟩ => rfl
      | ⟨3, _⟩ => rfl
      | ⟨4, _⟩ => rfl
      | ⟨5, _⟩ => rfl
      | ⟨6, _⟩ => rfl
      | ⟨7, _⟩ => rfl
      | ⟨8, _⟩ => rfl
      | ⟨9, _⟩ => rfl
      | ⟨10, _⟩ => rfl
      | ⟨11, _⟩ => rfl
      | ⟨12, _⟩ => rfl
      | ⟨13, _⟩ => rfl
      | ⟨14, _⟩ => rfl
      | ⟨15, _⟩ => rfl
      | ⟨16, _⟩ => rfl
      | ⟨17, _⟩ => rfl
      | ⟨18, _⟩ => rfl
      | ⟨19, _⟩ => rfl
      | ⟨20, _⟩ => rfl
      | ⟨21, _⟩ => rfl
      | ⟨n + 22, h⟩ => exact absurd h (by omega)
    exact this ⟨i, hi'⟩)
/-- One byte of a head. -/
theorem u8Get (c mb rb hb n B : Nat) (most : Nat) (z : Nat → Nat) (m : Mg) (a b : Nat) (va : Option Addr) (w : World) (hR : Rd B w rb hb n z mb (m, a, b) va) (hw : Wid w) (hu : isU c = false ∧ c ≠ 10 ∧ c ≠ 13 ∧ c ≠ 14) (hcl : c < 22) :
    Calls Tryz.prog 86 #[.pointer (some ⟨rb, 0, none⟩)] w fun e w' => ∃ X : Nat, e = .returned (.int .u8 (X : Nat)) ∧ IntKind.i64.wrap (X : Int) = (X : Int) ∧ (∃ y, w'.cell? ⟨mb, c, none⟩ = some (.int .i64 y)) ∧ w'.frozen? ⟨mb, c, none⟩ = false ∧
      Hid (Rd B (w'.setCell ⟨mb, c, none⟩ (.int .i64 (X : Nat))) rb hb n z mb ((Fd.small c most).get z n m a b) va ∧ But2 rb mb w (w'.setCell ⟨mb, c, none⟩ (.int .i64 (X : Nat)))) := by
  have hn := hu.2
  have hX : (fixAns z n 1 a b).1 < 256 := by
    unfold fixAns
    split
    · show 0 < 256; decide
    · split
      · show 0 < 256; decide
      · have := be_lt (fun j => z (a + j)) (fun j => hR.rd.byte _) 1
        simpa using this
  refine (u8_r rb hb n a b z w hR.rd hw).mono fun e w' ⟨he, hbt, hI⟩ => ?_
  have hS := hR.step hbt hI
  have c3 : w'.cell? ⟨mb, c, none⟩ = some (mgCell m va (m.s 10).length c) := hS.row.cell hcl
  rw [mgCell_i hu.1 hn.1 hn.2.1 hn.2.2] at c3
  have hnum : mgNum c (((fixAns z n 1 a b).1 : Nat) : Int) = .int .i64 (((fixAns z n 1 a b).1 : Nat) : Int) := by
    unfold mgNum
    rw [if_neg (by rw [hu.1]; decide)]
  refine ⟨(fixAns z n 1 a b).1, he, by rw [IntKind.wrap_i64]; omega, ⟨_, c3⟩, hS.row.frozen c, ?_, (But2.of_but hbt).set c _⟩
  have := hS.num c (((fixAns z n 1 a b).1 : Nat) : Int) hcl hn.1 hn.2.1 hn.2.2
  rw [hnum] at this
  exact this
/-- The fields, stored. -/
theorem fs_stored (W : World) (G : Nat → Value) : ∃ W1, Hid ((W.alloc fsZ).setCells W.heap.size 0 ((List.range 48).map G) = W1) ∧ W.Since W.heap.size W1 ∧ W1.heap.size = W.heap.size + 1 ∧ W1.heap[W.heap.size]? = some (.cells ((List.range 48).map G).toArray 89 (0, 0)) ∧ (W.alloc fsZ).there W.heap.size 0 48 := by
  have hs : W.Since W.heap.size (W.alloc fsZ) := (World.Since.refl _ _).alloc (Nat.le_refl _) _
  have hr := fsZ_row W
  have hr2 := rowIs_setCells ((List.range 48).map G) 0 (W.alloc fsZ) _ hr
  have hr3 : ((W.alloc fsZ).setCells W.heap.size 0 ((List.range 48).map G)).rowIs W.heap.size 89 48 G := hr2.congr (fun j hj => by
    rw [if_pos ⟨Nat.zero_le _, by simpa using hj⟩, Nat.sub_zero]
    simp [List.getD, hj])
  exact ⟨_, rfl, since_setCells (Nat.le_refl _) _ _ _ hs, by rw [size_setCells]; simp, row_heap hr3, row_there hr⟩
theorem fs_one {lo hi : Nat} {w : World} {G : Nat → Value} (h : FAll lo hi w G) : ((List.range 48).map G).toArray.all (·.oneCell') = true := by
  refine all_oneCell_toArray fun v hv => ?_
  obtain ⟨j, hj, rfl⟩ := List.mem_map.1 hv
  have hj := List.mem_range.1 hj
  obtain ⟨⟨k1, d1, e1, _⟩, ⟨k2, d2, e2, _⟩, ⟨k3, d3, e3, _⟩⟩ := h (j / 3) (by omega)
  have hm : j = 3 * (j / 3) ∨ j = 3 * (j / 3) + 1 ∨ j = 3 * (j / 3) + 2 := by omega
  rcases hm with hm | hm | hm
  · rw [hm, e1]; rfl
  · rw [hm, e2]; rfl
  · rw [hm, e3]; rfl
end Go.Proofs.YtonpmabdjngdcaaGreatDoor

/- Package message: read. -/
namespace Go.Proofs.YtonpmabdjngdcaaGreatDoor
open Go.RowKit
set_option maxRecDepth 100000

/-- What read answers. -/
def RdAns (z : Nat → Nat) (n B : Nat) (e : Ending) (w' : World) : Prop :=
  (∃ m va, readG z n = some m ∧ e = .returned (.tuple #[mgV m va (m.s 10).length, .bool true]) ∧ Txt B w' va (m.s 10).length (fun j => (m.s 10).getD j 0) ∧ (∀ c, (m.s c).length ≤ 140737488351232) ∧ ∀ c, ∀ v ∈ m.s c, v < 256) ∨
  (∃ m va vc, readG z n = none ∧ e = .returned (.tuple #[mgV m va vc, .bool false]))
theorem op_run {P : Program} {o : Oper} {a : Act} {w : World} {K : Act → World → Prop} {Q : Exit → Act → World → Prop} (v : Value) (hrun : (execOp a.eval o).run P w = .ok (.value v) w) (h : K (a.put o.dst v) w) : Oper.wp P o a w K Q := by
  unfold Oper.wp
  rw [hrun]
  exact h
theorem res2 {P : Program} {fn : Func} {p u : Tmp} {ty : TypeId} (h : fn.results = #[.cell p ty, .tmp u]) (tmps : Array Value) (w : World) (g : Nat) (t : TypeId) (cs : Array Value) (fr : Nat × Nat) (d : TypeDesc) (hp : tmps.getD p undef = .pointer (some ⟨g, 0, none⟩)) (hg : w.heap[g]? = some (.cells cs t fr))
    (hu : P.underlying ty = some d) (hd : (match d with | .struct _ | .array _ _ => true | _ => false) = true) (hi : (P.info? ty).map (·.size) = some cs.size) (x : Value) (hx : tmps.getD u undef = x) : (results fn tmps).run P w = .ok (.tuple #[.agg cs, x]) w := by
  rw [results_cell_tmp h, hp, hx]
  simp only [asAddr]
  show Result.andThen (.ok _ w) _ = _
  simp only [Result.andThen, run_loadVar_row w g t ty cs fr d hg hu hd hi]
theorem mgV_zero : mgV mg0 none 0 = .agg #[.int .i64 0, .int .i64 0, .int .i64 0, .int .i64 0, .int .u64 0, .int .u64 0, .int .u64 0, .int .u64 0, .int .i64 0, .int .u64 0, .slice none 0 0, .int .i64 0, .int .u64 0, .string ⟨#[]⟩, .string ⟨#[]⟩, .int .u64 0, .int .u64 0, .int .u64 0, .int .i64 0, .int .i64 0, .int .i64 0, .int .i64 0] := rfl
theorem mg_all (m : Mg) (va : Option Addr) (vc : Nat) : (mgL m va vc).toArray.all (·.oneCell') = true := all_oneCell_toArray (mgL_one m va vc)
theorem infoMgA (m : Mg) (va : Option Addr) (vc : Nat) : (Tryz.prog.info? 37).map (·.size) = some (mgL m va vc).toArray.size := by rw [List.size_toArray]; exact infoMg' m va vc
/-- A message stored whole. -/
theorem mg_stored {W : World} {qb : Nat} {f : Nat → Value} (h : W.rowIs qb 37 22 f) (m : Mg) (va : Option Addr) (vc : Nat) : ∃ W1, Hid (W.setCells qb 0 (mgL m va vc) = W1) ∧ W1.rowIs qb 37 22 (mgCell m va vc) ∧ W1.heap[qb]? = some (.cells (mgL m va vc).toArray 37 (0, 0)) ∧ W1.heap.size = W.heap.size ∧ (∀ k, k ≠ qb → W1.heap[k]? = W.heap[k]?) ∧ W1.os = W.os ∧ W1.tape = W.tape ∧ W1.output = W.output := by
  have hr := rowIs_setCells (mgL m va vc) 0 W f h
  have hr2 : (W.setCells qb 0 (mgL m va vc)).rowIs qb 37 22 (mgCell m va vc) := hr.congr (fun j hj => by
    rw [if_pos ⟨Nat.zero_le _, by rw [mgL_len]; omega⟩, Nat.sub_zero]
    simp [mgL, List.getD, hj])
  have hk : ∀ (vs : List Value) (o : Nat) (W : World), (∀ k, k ≠ qb → (W.setCells qb o vs).heap[k]? = W.heap[k]?) ∧ (W.setCells qb o vs).os = W.os ∧ (W.setCells qb o vs).tape = W.tape ∧ (W.setCells qb o vs).output = W.output := by
    intro vs
    induction vs with
    | nil => intro o W; exact ⟨fun _ _ => rfl, rfl, rfl, rfl⟩
    | cons v r ih =>
      intro o W
      obtain ⟨i1, i2, i3, i4⟩ := ih (o + 1) (W.setCell ⟨qb, o, none⟩ v)
      exact ⟨fun k hk => (i1 k hk).trans (Below.heap_setCell _ _ _ _ hk), i2, i3, i4⟩
  obtain ⟨h1, h2, h3, h4⟩ := hk (mgL m va vc) 0 W
  exact ⟨_, rfl, hr2, row_heap hr2, size_setCells _ _ _ _, h1, h2, h3, h4⟩
theorem step_callW {P : Program} {ops : Array Oper} {o : Oper} {a : Act} {w : World} {K : Act → World → Prop} {Q : Exit → Act → World → Prop} {E : Prop} (hw : Region.wanted o (yielded ops a.tmps) = true) (f : FuncId) (args : Array Value) (hrun : (execOp a.eval o).run P w = .ok (.enter f args) w) {Post : Ending → World → Prop} (hc : Calls P f args w Post)
    (h : ∀ e w', Post e w' → ∃ v, e = .returned v ∧ K (a.put o.dst v) w') : if Region.wanted o (yielded ops a.tmps) = true then Oper.wp P o a w K Q else E := by
  rw [if_pos hw]
  unfold Oper.wp
  rw [hrun, Oper.upon_enter]
  refine hc.mono fun e w'' hh => ?_
  obtain ⟨v, rfl, hk⟩ := h e w'' hh
  exact hk
theorem step_storeM {P : Program} {ops : Array Oper} {o : Oper} {a : Act} {w : World} {K : Act → World → Prop} {Q : Exit → Act → World → Prop} {E : Prop} (hw : Region.wanted o (yielded ops a.tmps) = true) (h : Oper.wp P o a w K Q) : if Region.wanted o (yielded ops a.tmps) = true then Oper.wp P o a w K Q else E := by
  rw [if_pos hw]
  exact h
theorem But.range {r : Nat} {w w' : World} (h : But r w w') {b : Nat} {cs : List Value} (hb : b ≠ r) (hl : b < w.heap.size) (hr : w.rangeAt b 0 cs) : w'.rangeAt b 0 cs := fun j v hv => by
  rw [World.cell?_of_block (a := ⟨b, 0 + j, none⟩) (h.block b hl hb)]
  exact hr j v hv
theorem Rd.born {w W : World} {rb hb n : Nat} {z : Nat → Nat} (hI : IsR W rb hb n z 0 0) (h : w.heap.size ≤ rb ∧ w.heap.size ≤ hb) : Rd (W.heap.size + 1) (W.alloc mgZ) rb hb n z W.heap.size (mg0, 0, 0) none := by
  have _ := h
  have hs : W.Since W.heap.size (W.alloc mgZ) := (World.Since.refl _ _).alloc (Nat.le_refl _) _
  have h1 : rb < W.heap.size := hI.rd.lt
  have h2 : hb < W.heap.size := hI.row.lt
  exact ⟨hI.since hs, mgZ_row W, .inl ⟨rfl, rfl⟩, fun c => Nat.zero_le _, fun c v hv => absurd hv (List.not_mem_nil), by omega, by omega, by omega, by omega, by omega, by simp⟩
theorem But2.since_of {r m : Nat} {w W W' : World} (h0 : w.Since w.heap.size W) (h : But2 r m W W') (hr : w.heap.size ≤ r) (hm : w.heap.size ≤ m) : w.Since w.heap.size W' :=
  ⟨h.os.trans h0.os, h.tape.trans h0.tape, h.output.trans h0.output, Nat.le_trans h0.size h.size, fun k hk => (h.block k (Nat.lt_of_lt_of_le hk h0.size) (by omega) (by omega)).trans (h0.block k hk)⟩
set_option maxHeartbeats 8000000 in
theorem mread_any (a : Option Addr) (n cap : Nat) (z : Nat → Nat) (w : World) (hb : Byt w a n z) (hz : ∀ j, z j < 256) (hn : n ≤ 17000) (hw : Wid w) (hU : Us w) :
    Calls Tryz.prog 42 #[.slice a n cap] w fun e w' => RdAns z n w.heap.size e w' ∧ w.Since w.heap.size w' := by
  have hst : ∀ (a : Addr) (k : FuncId) (fr cp : Array Value) (m : Mode) (w : World), (store a (.func (.func k) fr cp) m).run Tryz.prog w = stored Tryz.prog w a (.func (.func k) fr cp) m := fun a k fr cp m w => run_store _ w a _ m rfl
  obtain ⟨W0, HW0⟩ : ∃ W, Hid (w.alloc mgZ = W) := ⟨_, rfl⟩
  have s0 : w.Since w.heap.size W0 := by rw [← HW0.out]; exact (World.Since.refl _ _).alloc (Nat.le_refl _) _
  have z0 : W0.heap.size = w.heap.size + 1 := by rw [← HW0.out]; simp
  have r0 : W0.rowIs w.heap.size 37 22 (mgCell mg0 none 0) := by rw [← HW0.out]; exact mgZ_row w
  have hrd := read_any a n cap z W0 (by omega) (hb.since s0) hz
  have HRD : Hid (Calls Tryz.prog 40 #[.slice a n cap] W0 fun e w' => ∃ rb hb, e = .returned (.pointer (some ⟨rb, 0, none⟩)) ∧ Hid (w.heap.size < rb ∧ w.heap.size < hb ∧ W0.Since W0.heap.size w' ∧ IsR w' rb hb n z 0 0)) := hrd.mono fun e w' ⟨rb, he, h1, h2, h3⟩ => ⟨rb, W0.heap.size, he, by omega, by omega, h2, h3⟩
  have HR0 := hide r0
  have HS0 := hide s0
  have HWID := hide hw
  have HUS := hide hU
  clear s0 r0 hrd hb hw hU hz
  unfold mgZ at HW0
  go_enter Tryz.func42, Tryz.ntmps42
  go_upto_region 1 with fail
  rw [HW0.out]
  go_wp2_with fail
  refine HRD.out.mono ?_
  rintro e w1 ⟨rb, hb, rfl, HI⟩
  clear HRD
  obtain ⟨W2, HW2⟩ : ∃ W, Hid (w1.alloc mgZ = W) := ⟨_, rfl⟩
  obtain ⟨mb, Hmb⟩ : ∃ x, Hid (w1.heap.size = x) := ⟨_, rfl⟩
  have hz1 := HI.out.2.2.1.size
  have HRdd : Hid (Rd (mb + 1) W2 rb hb n z mb (mg0, 0, 0) none) := by
    rw [← HW2.out, ← Hmb.out]
    exact Rd.born (w := w) HI.out.2.2.2 ⟨by have := HI.out.1; omega, by have := HI.out.2.1; omega⟩
  have HSW2 : Hid (W0.Since W0.heap.size W2) := by
    rw [← HW2.out]
    exact HI.out.2.2.1.trans (since_mono ((World.Since.refl _ _).alloc (Nat.le_refl _) _) hz1)
  have hmbg : w.heap.size < mb := by have := Hmb.out; omega
  have HLT : Hid (w.heap.size < rb ∧ w.heap.size < mb) := ⟨HI.out.1, hmbg⟩
  have HHB : Hid (w.heap.size < hb) := HI.out.2.1
  have hgw := World.block_lt_of_cell? _ _ HWID.out.1
  have HG : Hid (rb ≠ 2 ∧ mb ≠ 2) := by
    have hgw : 2 < w.heap.size := hgw
    exact ⟨by have := HLT.out.1; omega, by have := HLT.out.2; omega⟩
  have HW2' := HW2
  unfold mgZ at HW2'
  clear HI hz1 hmbg hgw
  have HWD2 : Hid (∀ X, But2 rb mb W2 X → Wid X) := fun X hX => hX.wid ((HWID.out.since HS0.out).since HSW2.out) HG.out
  go_upto_region 3 with fail
  rw [HW2'.out]
  try rw [Hmb.out]
  try simp only [Hmb.out]
  clear HW2'
  have q := u8Get 0 mb rb hb n (mb + 1) 11 z mg0 0 0 none W2 HRdd.out (HWD2.out _ (But2.of_since (World.Since.refl _ _))) ⟨rfl, by decide, by decide, by decide⟩ (by decide)
  go_wp2_with fail
  refine q.mono ?_
  rintro e w3 ⟨X0, rfl, x0, ⟨y0, c0⟩, f0, HE⟩
  clear q
  go_upto_region 4 with fail
  obtain ⟨W3, HW3⟩ : ∃ W, Hid (w3.setCell ⟨mb, 0, none⟩ (.int .i64 (X0 : Nat)) = W) := ⟨_, rfl⟩
  rw [HW3.out] at HE ⊢
  have HB3 := hide HE.out.2
  have q := u8Get 1 mb rb hb n (mb + 1) 8 z _ _ _ none W3 HE.out.1 (HWD2.out _ HB3.out) ⟨rfl, by decide, by decide, by decide⟩ (by decide)
  clear HE HW3 x0 c0 f0 HRdd
  go_wp2_with fail
  refine q.mono ?_
  rintro e w4 ⟨X1, rfl, x1, ⟨y1, c1⟩, f1, HE⟩
  clear q
  go_upto_region 5 with fail
  obtain ⟨W4, HW4⟩ : ∃ W, Hid (w4.setCell ⟨mb, 1, none⟩ (.int .i64 (X1 : Nat)) = W) := ⟨_, rfl⟩
  rw [HW4.out] at HE ⊢
  have HB4 := hide (HB3.out.trans HE.out.2)
  have q := u8Get 2 mb rb hb n (mb + 1) 8 z _ _ _ none W4 HE.out.1 (HWD2.out _ HB4.out) ⟨rfl, by decide, by decide, by decide⟩ (by decide)
  clear HE HW4 x1 c1 f1 HB3
  go_wp2_with fail
  refine q.mono ?_
  rintro e w5 ⟨X2, rfl, x2, ⟨y2, c2⟩, f2, HE⟩
  clear q
  go_upto_region 6 with fail
  obtain ⟨W5, HW5⟩ : ∃ W, Hid (w5.setCell ⟨mb, 2, none⟩ (.int .i64 (X2 : Nat)) = W) := ⟨_, rfl⟩
  rw [HW5.out] at HE ⊢
  have HB5 := hide (HB4.out.trans HE.out.2)
  have q := u8Get 3 mb rb hb n (mb + 1) 7 z _ _ _ none W5 HE.out.1 (HWD2.out _ HB5.out) ⟨rfl, by decide, by decide, by decide⟩ (by decide)
  clear HE HW5 x2 c2 f2 HB4
  go_wp2_with fail
  refine q.mono ?_
  rintro e w6 ⟨X3, rfl, x3, ⟨y3, c3⟩, f3, HE⟩
  clear q
  go_upto_region 7 with fail
  obtain ⟨W6, HW6⟩ : ∃ W, Hid (w6.setCell ⟨mb, 3, none⟩ (.int .i64 (X3 : Nat)) = W) := ⟨_, rfl⟩
  rw [HW6.out] at HE ⊢
  have HB6 := hide (HB5.out.trans HE.out.2)
  have HR6 : Hid (Rd (mb + 1) W6 rb hb n z mb (headG z n) none) := HE.out.1
  clear HE HW6 x3 c3 f3 HB5
  have ck : W6.cell? ⟨mb, 0, none⟩ = some (.int .i64 ((headG z n).1.n 0)) := HR6.out.row.cell (i := 0) (by decide)
  have q := isKind_any ((headG z n).1.n 0) W6
  have HKB : Hid (decide (1 ≤ (headG z n).1.n 0 ∧ (headG z n).1.n 0 ≤ 11) = kindB (headG z n).1) := rfl
  rw [HKB.out] at q
  obtain ⟨KB, HKK⟩ : ∃ x, Hid (kindB (headG z n).1 = x) := ⟨_, rfl⟩
  rw [HKK.out] at q
  have HSW6 : Hid (w.Since w.heap.size W6) := But2.since_of (HS0.out.trans (since_mono HSW2.out (by omega))) HB6.out (by have := HLT.out.1; omega) (by have := HLT.out.2; omega)
  have HQR6 : Hid (W6.rowIs w.heap.size 37 22 (mgCell mg0 none 0)) := (HR0.out.of_block (HSW2.out.block _ (by omega))).of_block (HB6.out.block _ (by have := HSW2.out.size; omega) (by have := HLT.out.1; omega) (by have := HLT.out.2; omega))
  obtain ⟨n0, Hn0⟩ : ∃ x, Hid ((headG z n).1.n 0 = x) := ⟨_, rfl⟩
  rw [Hn0.out] at ck q
  go_wp2_with fail
  refine q.mono ?_
  rintro e w7 ⟨rfl, e7⟩
  rw [e7]
  clear e7 q
  cases KB with
  | false =>
    have HT : Hid (W6.there w.heap.size 0 22) := row_there HQR6.out
    have HNO : Hid (readG z n = none) := by
      show readG z n = none
      unfold readG
      rw [if_pos HKK.out]
    obtain ⟨W8, HW8, r8, h8, z8, b8, o8, t8, p8⟩ := mg_stored HQR6.out mg0 none 0
    have HE : Hid (RdAns z n w.heap.size (.returned (.tuple #[mgV mg0 none 0, .bool false])) W8 ∧ w.Since w.heap.size W8) := by
      have s6 := HSW6.out
      exact ⟨.inr ⟨mg0, none, 0, HNO.out, rfl⟩, o8.trans s6.os, t8.trans s6.tape, p8.trans s6.output, by rw [z8]; exact s6.size, fun k hk => (b8 k (by omega)).trans (s6.block k hk)⟩
    have HH8 := hide h8
    clear r8 h8 z8 b8 o8 t8 p8 ck
    go_upto_region 8 with fail
    refine wp_region_lit ?_
    refine wpList_plain rfl fun _ hK => op_run (mgV mg0 none 0) (by rw [mgV_zero]; kernel_rfl) (hK _ _ ?_)
    refine wpList_store_mid rfl 37 (.tmp 2) (.tmp 36) rfl w.heap.size 0 (mgL mg0 none 0).toArray rfl rfl HT.out infoMg (mg_all _ _ _) ?_
    rw [show (mgL mg0 none 0).toArray.toList = mgL mg0 none 0 from rfl, HW8.out]
    clear HW8
    go_wp2_with fail
    exact bodyPost_ret_by (res2 rfl _ _ w.heap.size _ _ (0, 0) _ rfl HH8.out Tryz.underlying37 rfl (infoMgA _ _ _) (.bool false) rfl) rfl HE.out
  | true =>
    obtain ⟨k, hkk, hk12⟩ : ∃ k : Nat, n0 = (k : Int) ∧ k < 12 := by
      have h1 := of_decide_eq_true HKK.out
      rw [Hn0.out] at h1
      exact ⟨n0.toNat, by omega, by omega⟩
    subst hkk
    have HKN : Hid ((headG z n).1.n 0 = ((k : Nat) : Int)) := Hn0.out
    have HKT : Hid (((headG z n).1.n 0).toNat = k) := by show _ = _; rw [HKN.out, Int.toNat_natCast]
    have q := fields_any W6
    have hz6 := HSW6.out.size
    have HRB : Hid (rb < W6.heap.size ∧ mb < W6.heap.size ∧ hb < W6.heap.size) := ⟨HR6.out.rd.rd.lt, HR6.out.row.lt, HR6.out.rd.row.lt⟩
    clear ck Hn0
    go_wp2_with fail
    refine q.mono ?_
    rintro e w8 ⟨G, rfl, HFX⟩
    clear q
    obtain ⟨FA, HFA⟩ : ∃ x, Hid (((List.range 48).map G).toArray = x) := ⟨_, rfl⟩
    have hfv : faV G = .agg FA := by unfold faV; rw [HFA.out]
    have hix := fun i hi w => run_index_fs G i hi w
    rw [hfv] at hix
    have HIX := hide hix
    obtain ⟨W9, HW9, s9, z9, hh9, ht9⟩ := fs_stored w8 G
    have HSZ : Hid ((Tryz.prog.info? 89).map (·.size) = some FA.size) := by show _ = _; rw [← HFA.out, fa_size]; exact infoFs
    have HT9 : Hid ((w8.alloc (.cells #[.nilFunc, .nilFunc, .nilFunc, .nilFunc, .nilFunc, .nilFunc, .nilFunc, .nilFunc, .nilFunc, .nilFunc, .nilFunc, .nilFunc, .nilFunc, .nilFunc, .nilFunc, .nilFunc, .nilFunc, .nilFunc, .nilFunc, .nilFunc, .nilFunc, .nilFunc, .nilFunc, .nilFunc, .nilFunc, .nilFunc, .nilFunc, .nilFunc, .nilFunc, .nilFunc, .nilFunc, .nilFunc, .nilFunc, .nilFunc, .nilFunc, .nilFunc, .nilFunc, .nilFunc, .nilFunc, .nilFunc, .nilFunc, .nilFunc, .nilFunc, .nilFunc, .nilFunc, .nilFunc, .nilFunc, .nilFunc] 89)).there w8.heap.size 0 FA.size) := by show World.there _ _ _ _; rw [← HFA.out, fa_size]; exact ht9
    have HO9 : Hid (FA.all (·.oneCell') = true) := by show _ = _; rw [← HFA.out]; exact fs_one HFX.out.1
    have HW9' : Hid ((w8.alloc (.cells #[.nilFunc, .nilFunc, .nilFunc, .nilFunc, .nilFunc, .nilFunc, .nilFunc, .nilFunc, .nilFunc, .nilFunc, .nilFunc, .nilFunc, .nilFunc, .nilFunc, .nilFunc, .nilFunc, .nilFunc, .nilFunc, .nilFunc, .nilFunc, .nilFunc, .nilFunc, .nilFunc, .nilFunc, .nilFunc, .nilFunc, .nilFunc, .nilFunc, .nilFunc, .nilFunc, .nilFunc, .nilFunc, .nilFunc, .nilFunc, .nilFunc, .nilFunc, .nilFunc, .nilFunc, .nilFunc, .nilFunc, .nilFunc, .nilFunc, .nilFunc, .nilFunc, .nilFunc, .nilFunc, .nilFunc, .nilFunc] 89)).setCells w8.heap.size 0 FA.toList = W9) := by show _ = _; rw [← HFA.out]; exact HW9.out
    have HH9 : Hid (W9.heap[w8.heap.size]? = some (.cells FA 89 (0, 0))) := by show _ = _; rw [← HFA.out]; exact hh9
    have HF9 : Hid (FAll (W6.heap.size + 1) w8.heap.size W9 G) := HFX.out.1.up (Nat.le_refl _) (Nat.le_refl _) (Agr2.since s9 (Nat.le_refl _))
    have s69 : W6.Since W6.heap.size W9 := HFX.out.2.1.trans (since_mono s9 HFX.out.2.1.size)
    have HS69 := hide s69
    have HZ8 : Hid (W6.heap.size + 1 ≤ w8.heap.size ∧ W9.heap.size = w8.heap.size + 1) := ⟨by have := HFX.out.2.2; have := HFX.out.2.1.size; omega, z9⟩
    have HR9 : Hid (Rd (mb + 1) W9 rb hb n z mb (headG z n) none) := HR6.out.on s69
    have HB9 : Hid (But2 rb mb W2 W9) := HB6.out.trans (But2.of_since s69)
    clear HFX s9 z9 hh9 ht9 HW9 hix s69
    rw [hfv]
    clear hfv
    go_wp2_with (first
      | (refine wpList_store_mid rfl 89 _ _ rfl w8.heap.size 0 _ rfl rfl HT9.out HSZ.out HO9.out ?_; rw [HW9'.out])
      | (refine wpList_load_row rfl 89 _ rfl w8.heap.size rfl _ _ (0, 0) _ HH9.out Tryz.underlying89 rfl HSZ.out ?_))
    clear HT9 HO9 HW9'
    have HL0 : Hid (∃ va, Rd (mb + 1) W9 rb hb n z mb (getL z n (fdsU k 0) (headG z n).1 (headG z n).2.1 (headG z n).2.2) va ∧ But2 rb mb W9 W9) := ⟨none, HR9.out, But2.of_since (World.Since.refl _ _)⟩
    go_loopg [39] 16 (fun q s39 wx => ∃ i : Nat, i ≤ 16 ∧ q = 16 - i ∧ s39 = .int .i64 (i : Nat) ∧ Hid (∃ va, Rd (mb + 1) wx rb hb n z mb (getL z n (fdsU k i) (headG z n).1 (headG z n).2.1 (headG z n).2.2) va ∧ But2 rb mb W9 wx))
    case atStart => exact ⟨0, by decide, rfl, rfl, HL0⟩
    case round =>
      clear HL0
      obtain ⟨i, hi, rfl, rfl, HX⟩ := hrel
      by_cases hlt : i < 16
      · have hix := HIX.out i hlt wr
        obtain ⟨⟨k1, d1, e1, _⟩, ⟨k2, d2, e2, _⟩, ⟨k3, d3, e3, q3⟩⟩ := HF9.out i hlt
        rw [e1, e2, e3] at hix
        unfold f3 at hix
        obtain ⟨W10, HW10⟩ : ∃ W, Hid (wr.alloc (.cells #[.func (.func k1) #[] d1, .func (.func k2) #[] d2, .func (.func k3) #[] d3] 88) = W) := ⟨_, rfl⟩
        have s2 : wr.Since wr.heap.size W10 := by rw [← HW10.out]; exact (World.Since.refl _ _).alloc (Nat.le_refl _) _
        have r2 : W10.rowIs wr.heap.size 88 3 (fun i => if i = 0 then .func (.func k1) #[] d1 else if i = 1 then .func (.func k2) #[] d2 else .func (.func k3) #[] d3) := by rw [← HW10.out]; exact row_new3 _ _ _ _ _
        have cf : W10.cell? ⟨wr.heap.size, 2, none⟩ = some (.func (.func k3) #[] d3) := r2.cell (i := 2) (by decide)
        obtain ⟨va, hR, hB⟩ := HX.out
        have hR2 := hR.on s2
        have hB2 : But2 rb mb W9 W10 := hB.trans (But2.of_since s2)
        have hne := HRB.out
        have hz8 := HZ8.out
        have hzz := hB2.size
        have ck : W10.cell? ⟨mb, 0, none⟩ = some (.int .i64 (k : Nat)) := by
          have h0 : W10.cell? ⟨mb, 0, none⟩ = some (.int .i64 ((getL z n (fdsU k i) (headG z n).1 (headG z n).2.1 (headG z n).2.2).1.n 0)) := hR2.row.cell (i := 0) (by decide)
          rw [h0, getL_n z n _ _ _ _ 0 (fun h => by
            obtain ⟨f, hf, hc⟩ := numC_mem h
            obtain ⟨j, _, _, hfj⟩ := mem_fdsU hf
            have := (fds_good j f hfj).num hc
            omega), HKN.out]
        have hent := q3.1
        unfold Ent at hent
        have hUS : Us W10 := by
          have h6 := HUS.out.since HSW6.out
          have h9 := h6.since HS69.out
          intro j hj
          have hc := h9 j hj
          have hlt2 : 1 < w.heap.size := World.block_lt_of_cell? _ _ (HUS.out j hj)
          exact cellB (hB2.block _ (World.block_lt_of_cell? _ _ hc) (by have := HLT.out.1; omega) (by have := HLT.out.2; omega)) hc
        have hqu := isUsed_any k i W10 hUS hk12 hlt
        have HQP : Hid (usedB k i = true → Calls Tryz.prog k3 (#[.pointer (some ⟨rb, 0, none⟩), .pointer (some ⟨mb, 0, none⟩)] ++ d3) W10 fun e w' => e = .returned (.tuple #[]) ∧ Hid (∃ va, Rd (mb + 1) w' rb hb n z mb (getL z n (fdsU k (i + 1)) (headG z n).1 (headG z n).2.1 (headG z n).2.2) va ∧ But2 rb mb W9 w')) := fun hu => by
          refine (q3.2 W10 (hB2.agr (by omega) (by omega) (by omega)) (by omega) (mb + 1) rb hb n z mb _ _ _ va hR2 (HWD2.out _ (HB9.out.trans hB2)) (by omega) (by omega) HG.out (by omega)).mono fun e w' ⟨he, va', hx, hy⟩ => ⟨he, va', ?_, hB2.trans hy⟩
          have e : getL z n (fdsU k (i + 1)) (headG z n).1 (headG z n).2.1 (headG z n).2.2 = getL z n (fds i) (getL z n (fdsU k i) (headG z n).1 (headG z n).2.1 (headG z n).2.2).1 (getL z n (fdsU k i) (headG z n).1 (headG z n).2.1 (headG z n).2.2).2.1 (getL z n (fdsU k i) (headG z n).1 (headG z n).2.1 (headG z n).2.2).2.2 := by
            show getL z n (fdsU k i ++ (if usedB k i then fds i else [])) _ _ _ = _
            rw [if_pos hu, getL_app]
          rw [e]
          exact hx
        have HQN : Hid (usedB k i = false → ∃ va, Rd (mb + 1) W10 rb hb n z mb (getL z n (fdsU k (i + 1)) (headG z n).1 (headG z n).2.1 (headG z n).2.2) va ∧ But2 rb mb W9 W10) := fun hu => by
          refine ⟨va, ?_, hB2⟩
          have e : getL z n (fdsU k (i + 1)) (headG z n).1 (headG z n).2.1 (headG z n).2.2 = getL z n (fdsU k i) (headG z n).1 (headG z n).2.1 (headG z n).2.2 := by
            show getL z n (fdsU k i ++ (if usedB k i then fds i else [])) _ _ _ = _
            rw [if_neg (by rw [hu]; decide), List.append_nil]
          rw [e]
          exact hR2
        have z5 : (i : Int) < 16 := by omega
        have z6 : (0 : Int) ≤ (i : Int) := by omega
        have hwi : IntKind.i64.wrap ((i : Int) + 1) = (i : Int) + 1 := by rw [IntKind.wrap_i64]; omega
        clear HX s2 r2 hR hR2 hB hB2 e1 e2 e3 q3 hUS hzz hz8 hne
        generalize usedB k i = ub at *
        go_upto_region 13 with fail
        rw [HW10.out]
        go_wp2_with fail
        refine hqu.mono ?_
        rintro e w11 ⟨rfl, e11⟩
        rw [e11]
        clear e11 hqu
        cases ub with
        | true =>
          have q := HQP.out rfl
          clear HQP HQN
          go_wp2_with fail
          refine q.mono ?_
          rintro e w12 ⟨rfl, HX12⟩
          clear q
          go_wp2_with fail
          go_roundg (16 - (i + 1))
          case measure => go_light; omega
          case rel => go_light; exact ⟨i + 1, hlt, rfl, by simp, HX12⟩
        | false =>
          have HX12 := hide (HQN.out rfl)
          clear HQP HQN
          go_wp2_with fail
          go_roundg (16 - (i + 1))
          case measure => go_light; omega
          case rel => go_light; exact ⟨i + 1, hlt, rfl, by simp, HX12⟩
      · obtain rfl : i = 16 := by omega
        have z5 : ¬ ((16 : Nat) : Int) < 16 := by decide
        have epg : getL z n (fdsU k 16) (headG z n).1 (headG z n).2.1 (headG z n).2.2 = partG z n := by
          show getL z n (fdsK k) _ _ _ = _
          unfold partG
          rw [HKT.out]
        obtain ⟨va, hR, hB⟩ := HX.out
        rw [epg] at hR
        have HRR := hide hR
        have HBB := hide hB
        clear HX epg hR hB
        have hqs : w.heap.size < wr.heap.size := by have := HBB.out.size; have := HZ8.out; have := HSW6.out.size; omega
        have hq8 : w8.heap.size < wr.heap.size ∧ w8.heap.size ≠ w.heap.size ∧ w8.heap.size ≠ rb ∧ w8.heap.size ≠ mb := by
          have := HBB.out.size; have := HZ8.out; have := HSW6.out.size; have := HRB.out
          refine ⟨by omega, by omega, by omega, by omega⟩
        have hmq : mb ≠ w.heap.size ∧ rb ≠ w.heap.size ∧ hb ≠ w.heap.size := ⟨by have := HLT.out.2; omega, by have := HLT.out.1; omega, fun e => by have := HRR.out.hlt; have := HHB.out; omega⟩
        have HRQ : Hid (wr.rowIs w.heap.size 37 22 (mgCell mg0 none 0)) := (HQR6.out.of_block (HS69.out.block _ (by have := HRB.out; have := HSW6.out.size; have := HLT.out; omega))).of_block (HBB.out.block _ (by have := HZ8.out; have := HSW6.out.size; omega) (fun e => hmq.2.1 e.symm) (fun e => hmq.1 e.symm))
        have HFR : Hid (wr.rangeAt w8.heap.size 0 FA.toList) := fun j v hv => by
          have h9 : wr.heap[w8.heap.size]? = some (.cells FA 89 (0, 0)) := (HBB.out.block _ (by have := HZ8.out; omega) hq8.2.2.1 hq8.2.2.2).trans HH9.out
          rw [Nat.zero_add, cell_of_row wr _ j FA _ _ h9]
          simpa using hv
        have HMR : Hid (wr.rangeAt mb 0 (mgL (partG z n).1 va ((partG z n).1.s 10).length)) := mgL_range HRR.out.row
        have hmlt : mb < wr.heap.size := HRR.out.row.lt
        obtain ⟨E, HEE⟩ : ∃ x : Nat, Hid ((if (partG z n).2.2 = 0 ∧ (partG z n).2.1 < n then 13 else (partG z n).2.2) = x) := ⟨_, rfl⟩
        have HQE : Hid (∀ W, wr.Since wr.heap.size W → Calls Tryz.prog 87 #[.pointer (some ⟨rb, 0, none⟩)] W fun e w' => e = .returned (.int .i64 (E : Nat)) ∧ wr.Since wr.heap.size w') := fun W hW => by
          have := end_r rb hb n (partG z n).2.1 (partG z n).2.2 z W (HRR.out.rd.since hW)
          rw [HEE.out] at this
          exact this.mono fun e w' ⟨he, q, hq⟩ => ⟨he, by rw [hq]; exact since_drewN' hW q⟩
        have hkB : kindB (partG z n).1 = true := by
          have h0 : (partG z n).1.n 0 = (headG z n).1.n 0 := by
            unfold partG
            exact getL_n z n _ _ _ _ 0 (fun h => by have := fdsK_num h; omega)
          unfold kindB
          rw [h0]
          exact HKK.out
        have hUW : Us wr := fun j hj => by
          have hc := (HUS.out.since HSW6.out).since HS69.out j hj
          have hlt2 : 1 < w.heap.size := World.block_lt_of_cell? _ _ (HUS.out j hj)
          exact cellB (HBB.out.block _ (World.block_lt_of_cell? _ _ hc) (by have := HLT.out.1; omega) (by have := HLT.out.2; omega)) hc
        have hfv : faV G = .agg FA := by unfold faV; rw [HFA.out]
        have hFW : FAll (W6.heap.size + 1) w8.heap.size wr G := HF9.out.up (Nat.le_refl _) (Nat.le_refl _) (HBB.out.agr (by have := HRB.out; omega) (by have := HRB.out; omega) (by have := HZ8.out; omega))
        have HQM : Hid (∀ W, wr.Since wr.heap.size W → Calls Tryz.prog 34 #[.pointer (some ⟨mb, 0, none⟩), .agg FA] W fun e w' => e = .returned (.bool (mayM (partG z n).1)) ∧ wr.Since wr.heap.size w') := fun W hW => by
          have := mayBe_any W mb (partG z n).1 va _ (HRR.out.msg.since hW) hkB (hUW.since hW) G _ _ (hFW.up (Nat.le_refl _) (Nat.le_refl _) (Agr2.since hW (by omega))) (by have := hW.size; omega)
          rw [hfv] at this
          exact this.mono fun e w' ⟨he, hs⟩ => ⟨he, hW.trans (since_mono hs hW.size)⟩
        have HEND : Hid (∀ (W : World) (ok : Bool), wr.Since wr.heap.size W → (ok = true ↔ E = 0 ∧ mayM (partG z n).1 = true) → ∃ W1, W.setCells w.heap.size 0 (mgL (partG z n).1 va ((partG z n).1.s 10).length) = W1 ∧ W1.heap[w.heap.size]? = some (.cells (mgL (partG z n).1 va ((partG z n).1.s 10).length).toArray 37 (0, 0)) ∧ W.there w.heap.size 0 22 ∧ But w.heap.size wr W1 ∧ RdAns z n w.heap.size (.returned (.tuple #[mgV (partG z n).1 va ((partG z n).1.s 10).length, .bool ok])) W1 ∧ w.Since w.heap.size W1) := fun W ok hW hok => by
          have hrW := row_since HRQ.out hW
          obtain ⟨W1, HW1, r1, h1, z1, b1, o1, t1, p1⟩ := mg_stored hrW (partG z n).1 va ((partG z n).1.s 10).length
          have hbut : But w.heap.size wr W1 := ⟨o1.trans hW.os, t1.trans hW.tape, p1.trans hW.output, by rw [z1]; exact hW.size, fun q hq hn => (b1 q hn).trans (hW.block q hq)⟩
          have swr : w.Since w.heap.size wr := But2.since_of (HSW6.out.trans (since_mono HS69.out HSW6.out.size)) HBB.out (by have := HLT.out.1; omega) (by have := HLT.out.2; omega)
          refine ⟨W1, HW1.out, h1, row_there hrW, hbut, ?_, ?_⟩
          · have hle : (partG z n).2.1 ≤ n := HRR.out.rd.le
            have hrg : readG z n = if (partG z n).2.2 = 0 ∧ (partG z n).2.1 = n ∧ mayM (partG z n).1 = true then some (partG z n).1 else none := by
              unfold readG
              rw [if_neg (by rw [HKK.out]; decide)]
            have hE0 : E = 0 ↔ (partG z n).2.2 = 0 ∧ (partG z n).2.1 = n := by
              rw [← HEE.out]
              split
              · omega
              · omega
            cases ok with
            | true =>
              obtain ⟨x1, x2⟩ := hok.1 rfl
              refine .inl ⟨(partG z n).1, va, ?_, rfl, ?_, HRR.out.len, HRR.out.byte⟩
              · rw [hrg, if_pos ⟨(hE0.1 x1).1, (hE0.1 x1).2, x2⟩]
              · exact Txt.mono' ((HRR.out.txt.since hW).keep (fun q _ hB => b1 q (by have := HLT.out.2; omega))) (by have := HLT.out.2; omega)
            | false =>
              refine .inr ⟨(partG z n).1, va, _, ?_, rfl⟩
              rw [hrg, if_neg ?_]
              rintro ⟨x1, x2, x3⟩
              exact absurd (hok.2 ⟨hE0.2 ⟨x1, x2⟩, x3⟩) (by decide)
          · exact ⟨hbut.os.trans swr.os, hbut.tape.trans swr.tape, hbut.output.trans swr.output, Nat.le_trans swr.size hbut.size, fun q hq => (hbut.block q (Nat.lt_of_lt_of_le hq swr.size) (by omega)).trans (swr.block q hq)⟩
        clear hkB hUW hfv hFW HRQ HQR6 HF9 HS69 HSW6 HUS HWD2 HB9 HR9 HH9 HR6 HB6 HR0 HS0 HSW2 HIX
        obtain ⟨MM, HMMM⟩ : ∃ x, Hid (mgL (partG z n).1 va ((partG z n).1.s 10).length = x) := ⟨_, rfl⟩
        obtain ⟨MB, HMB⟩ : ∃ x, Hid (mayM (partG z n).1 = x) := ⟨_, rfl⟩
        have hml : MM.length = 22 := by rw [← HMMM.out, mgL_len]
        have hms : MM.toArray.size = 22 := by rw [List.size_toArray, hml]
        have hmo : ∀ v ∈ MM, v.oneCell' = true := by rw [← HMMM.out]; exact mgL_one _ _ _
        unfold mgV at HEND
        rw [HMMM.out] at HMR HEND
        rw [HMB.out] at HQM HEND
        go_upto_region 16 with fail
        refine wp_region_held_drew (S := fun W => But w.heap.size wr W) (by kernel_rfl) (But.of_since (World.Since.refl _ _).drew) fun hS0 => ?_
        refine wpAnyH_take (i := 0) (v := .agg MM.toArray) rfl (by kernel_rfl) (by kernel_rfl) (by kernel_rfl) (fun _ _ _ h => h) (yieldsIf_load_mid rfl 37 (.tmp 5) rfl mb 0 rfl MM _ (fun W hW => But.range hW hmq.1 hmlt HMR.out) Tryz.underlying37 rfl (by rw [hml]; exact infoMg)) hS0 ?_
        simp only [List.getElem_toArray, List.getElem_cons_zero, Act.put, List.setIfInBounds_toArray, List.set_cons_zero, List.set_cons_succ]
        refine wpAnyH_take (i := 1) (v := .pointer (some ⟨rb, 0, none⟩)) rfl (by kernel_rfl) (by kernel_rfl) (by kernel_rfl) (fun _ _ _ h => h) (.inl ⟨rfl, fun W _ => rfl⟩) hS0 ?_
        simp only [List.getElem_toArray, List.getElem_cons_zero, List.getElem_cons_succ, Act.put, List.setIfInBounds_toArray, List.set_cons_zero, List.set_cons_succ]
        refine wpAnyH_ready (rs := [2]) (by kernel_rfl) (by simp) ?_
        refine AllReadyH.cons rfl (fun K hK => ?_) AllReadyH.nil
        refine step_callW rfl 87 #[.pointer (some ⟨rb, 0, none⟩)] (by kernel_rfl) (HQE.out _ (World.Since.refl _ _).drew) ?_
        rintro e w2 ⟨rfl, hs2⟩
        refine ⟨_, rfl, hK.out _ _ (But.of_since hs2) fun hS2 => ?_⟩
        simp only [List.getElem_toArray, List.getElem_cons_zero, List.getElem_cons_succ, Act.put, List.setIfInBounds_toArray, List.set_cons_zero, List.set_cons_succ]
        by_cases hE : E = 0
        · subst hE
          refine wpAnyH_take (i := 3) (v := .bool true) rfl (by kernel_rfl) (by kernel_rfl) (by kernel_rfl) (fun _ _ _ h => h) (.inl ⟨rfl, fun W _ => by kernel_rfl⟩) hS2 ?_
          simp only [List.getElem_toArray, List.getElem_cons_zero, List.getElem_cons_succ, Act.put, List.setIfInBounds_toArray, List.set_cons_zero, List.set_cons_succ]
          refine wpAnyH_take (i := 4) (v := .bool true) rfl (by kernel_rfl) (by kernel_rfl) (by kernel_rfl) (fun _ _ _ h => h) (.inl ⟨rfl, fun W _ => rfl⟩) hS2 ?_
          simp only [List.getElem_toArray, List.getElem_cons_zero, List.getElem_cons_succ, Act.put, List.setIfInBounds_toArray, List.set_cons_zero, List.set_cons_succ]
          refine wpAnyH_take (i := 5) (v := .agg FA.toList.toArray) rfl (by kernel_rfl) (by kernel_rfl) (by kernel_rfl) (fun _ _ _ h => h) (yieldsIf_load_mid rfl 89 (.tmp 6) rfl w8.heap.size 0 rfl FA.toList _ (fun W hW => But.range hW hq8.2.1 hq8.1 HFR.out) Tryz.underlying89 rfl (by rw [Array.length_toList]; exact HSZ.out)) hS2 ?_
          simp only [List.getElem_toArray, List.getElem_cons_zero, List.getElem_cons_succ, Act.put, List.setIfInBounds_toArray, List.set_cons_zero, List.set_cons_succ]
          refine wpAnyH_ready (rs := [6]) (by kernel_rfl) (by simp) ?_
          refine AllReadyH.cons rfl (fun K hK => ?_) AllReadyH.nil
          refine step_callW rfl 34 #[.pointer (some ⟨mb, 0, none⟩), .agg FA] (by kernel_rfl) (HQM.out _ hs2) ?_
          rintro e w3 ⟨rfl, hs3⟩
          refine ⟨_, rfl, hK.out _ _ (But.of_since hs3) fun hS3 => ?_⟩
          simp only [List.getElem_toArray, List.getElem_cons_zero, List.getElem_cons_succ, Act.put, List.setIfInBounds_toArray, List.set_cons_zero, List.set_cons_succ]
          refine wpAnyH_take (i := 7) (v := .bool MB) rfl (by kernel_rfl) (by kernel_rfl) (by kernel_rfl) (fun _ _ _ h => h) (.inl ⟨rfl, fun W _ => by kernel_rfl⟩) hS3 ?_
          simp only [List.getElem_toArray, List.getElem_cons_zero, List.getElem_cons_succ, Act.put, List.setIfInBounds_toArray, List.set_cons_zero, List.set_cons_succ]
          obtain ⟨W4, e4, hh4, th4, but4, hra, hsw⟩ := HEND.out w3 MB hs3 ⟨fun h => ⟨rfl, h⟩, fun h => h.2⟩
          have HHA : Hid (W4.heap[w.heap.size]? = some (.cells MM.toArray 37 (0, 0))) := hh4
          have HRA : Hid (RdAns z n w.heap.size (.returned (.tuple #[.agg MM.toArray, .bool MB])) W4 ∧ w.Since w.heap.size W4) := ⟨hra, hsw⟩
          refine wpAnyH_ready (rs := [8]) (by kernel_rfl) (by simp) ?_
          refine AllReadyH.cons rfl (fun K hK => ?_) AllReadyH.nil
          refine step_storeM rfl (wp_store_mid 37 (.tmp 2) (.tmp 53) rfl w.heap.size 0 MM.toArray rfl rfl (by rw [hms]; exact th4) (by rw [hms]; exact infoMg) (all_oneCell_toArray hmo) ?_)
          rw [show w3.setCells w.heap.size 0 MM.toArray.toList = W4 from e4]
          refine hK.out _ _ but4 fun hS4 => ?_
          simp only [List.getElem_toArray, List.getElem_cons_zero, List.getElem_cons_succ, Act.put]
          refine wpAnyH_take (i := 9) (v := .bool MB) rfl (by kernel_rfl) (by kernel_rfl) (by kernel_rfl) (fun _ _ _ h => h) (.inl ⟨rfl, fun W _ => rfl⟩) hS4 ?_
          simp only [List.getElem_toArray, List.getElem_cons_zero, List.getElem_cons_succ, Act.put, List.setIfInBounds_toArray, List.set_cons_zero, List.set_cons_succ]
          refine wpAnyH_done (by kernel_rfl) ?_ _
          clear hra hsw hh4 th4 but4 e4 HEND HQE HQM HMR HFR hmo hS4 hK
          go_wp2_with fail
          exact bodyPost_ret_by (res2 rfl _ _ w.heap.size _ _ (0, 0) _ rfl HHA.out Tryz.underlying37 rfl (by rw [hms]; exact infoMg) (.bool MB) rfl) rfl HRA.out
        · have hEb : ((E : Int) == 0) = false := by simp; omega
          have hEn : ¬ ((E : Int) = 0) := by omega
          refine wpAnyH_take (i := 3) (v := .bool false) rfl (by kernel_rfl) (by kernel_rfl) (by kernel_rfl) (fun _ _ _ h => h) (.inl ⟨rfl, fun W _ => by go_simp⟩) hS2 ?_
          simp only [List.getElem_toArray, List.getElem_cons_zero, List.getElem_cons_succ, Act.put, List.setIfInBounds_toArray, List.set_cons_zero, List.set_cons_succ]
          refine wpAnyH_take (i := 4) (v := .bool false) rfl (by kernel_rfl) (by kernel_rfl) (by kernel_rfl) (fun _ _ _ h => h) (.inl ⟨rfl, fun W _ => rfl⟩) hS2 ?_
          simp only [List.getElem_toArray, List.getElem_cons_zero, List.getElem_cons_succ, Act.put, List.setIfInBounds_toArray, List.set_cons_zero, List.set_cons_succ]
          refine wpAnyH_take (i := 5) (v := undef) rfl (by kernel_rfl) (by kernel_rfl) (by kernel_rfl) (fun _ _ _ h => h) (.inr ⟨rfl, rfl⟩) hS2 ?_
          simp only [List.getElem_toArray, List.getElem_cons_zero, List.getElem_cons_succ, Act.put, List.setIfInBounds_toArray, List.set_cons_zero, List.set_cons_succ]
          refine wpAnyH_take (i := 6) (v := undef) rfl (by kernel_rfl) (by kernel_rfl) (by kernel_rfl) (fun _ _ _ h => h) (.inr ⟨rfl, rfl⟩) hS2 ?_
          simp only [List.getElem_toArray, List.getElem_cons_zero, List.getElem_cons_succ, Act.put, List.setIfInBounds_toArray, List.set_cons_zero, List.set_cons_succ]
          refine wpAnyH_take (i := 7) (v := .bool false) rfl (by kernel_rfl) (by kernel_rfl) (by kernel_rfl) (fun _ _ _ h => h) (.inl ⟨rfl, fun W _ => by kernel_rfl⟩) hS2 ?_
          simp only [List.getElem_toArray, List.getElem_cons_zero, List.getElem_cons_succ, Act.put, List.setIfInBounds_toArray, List.set_cons_zero, List.set_cons_succ]
          obtain ⟨W4, e4, hh4, th4, but4, hra, hsw⟩ := HEND.out w2 false hs2 ⟨fun h => absurd h (by decide), fun h => absurd h.1 hE⟩
          have HHA : Hid (W4.heap[w.heap.size]? = some (.cells MM.toArray 37 (0, 0))) := hh4
          have HRA : Hid (RdAns z n w.heap.size (.returned (.tuple #[.agg MM.toArray, .bool false])) W4 ∧ w.Since w.heap.size W4) := ⟨hra, hsw⟩
          refine wpAnyH_ready (rs := [8]) (by kernel_rfl) (by simp) ?_
          refine AllReadyH.cons rfl (fun K hK => ?_) AllReadyH.nil
          refine step_storeM rfl (wp_store_mid 37 (.tmp 2) (.tmp 53) rfl w.heap.size 0 MM.toArray rfl rfl (by rw [hms]; exact th4) (by rw [hms]; exact infoMg) (all_oneCell_toArray hmo) ?_)
          rw [show w2.setCells w.heap.size 0 MM.toArray.toList = W4 from e4]
          refine hK.out _ _ but4 fun hS4 => ?_
          simp only [List.getElem_toArray, List.getElem_cons_zero, List.getElem_cons_succ, Act.put]
          refine wpAnyH_take (i := 9) (v := .bool false) rfl (by kernel_rfl) (by kernel_rfl) (by kernel_rfl) (fun _ _ _ h => h) (.inl ⟨rfl, fun W _ => rfl⟩) hS4 ?_
          simp only [List.getElem_toArray, List.getElem_cons_zero, List.getElem_cons_succ, Act.put, List.setIfInBounds_toArray, List.set_cons_zero, List.set_cons_succ]
          refine wpAnyH_done (by kernel_rfl) ?_ _
          clear hra hsw hh4 th4 but4 e4 HEND HQE HQM HMR HFR hmo hS4 hK
          go_wp2_with fail
          exact bodyPost_ret_by (res2 rfl _ _ w.heap.size _ _ (0, 0) _ rfl HHA.out Tryz.underlying37 rfl (by rw [hms]; exact infoMg) (.bool false) rfl) rfl HRA.out
end Go.Proofs.YtonpmabdjngdcaaGreatDoor

/- Package message: Encode. -/
namespace Go.Proofs.YtonpmabdjngdcaaGreatDoor
open Go.RowKit
set_option maxRecDepth 100000

/-- A message that is handed in: its Value lies in memory. -/
structure MgA (w : World) (m : Mg) (va : Option Addr) (vc : Nat) : Prop where
  val : Byt w va (m.s 10).length (fun j => (m.s 10).getD j 0)
  nil : va = none → (m.s 10).length = 0 ∧ vc = 0
  lt : ∀ q, va = some q → 0 < (m.s 10).length → q.block < w.heap.size
  len : ∀ c, (m.s c).length ≤ 140737488351232
  byte : ∀ c, ∀ v ∈ m.s c, v < 256
theorem MgA.since {w w' : World} {m : Mg} {va : Option Addr} {vc : Nat} (h : MgA w m va vc) (hs : w.Since w.heap.size w') : MgA w' m va vc :=
  ⟨h.val.since hs, h.nil, fun q e h0 => Nat.lt_of_lt_of_le (h.lt q e h0) hs.size, h.len, h.byte⟩
theorem mg_row (w : World) (m : Mg) (va : Option Addr) (vc : Nat) : (w.alloc (.cells (mgL m va vc).toArray 37)).rowIs w.heap.size 37 22 (mgCell m va vc) := by
  have := World.rowIs_alloc w (mgL m va vc).toArray 37 (mgCell m va vc) (fun i hi => by
    have hi : i < 22 := by rw [List.size_toArray, mgL_len] at hi; exact hi
    rw [List.getElem?_toArray]
    unfold mgL
    rw [List.getElem?_map, List.getElem?_range hi]
    rfl)
  have e : (mgL m va vc).toArray.size = 22 := by rw [List.size_toArray, mgL_len]
  rw [e] at this
  exact this
theorem MgA.is {w : World} {m : Mg} {va : Option Addr} {vc : Nat} (h : MgA w m va vc) : MsgIs (w.alloc (.cells (mgL m va vc).toArray 37)) w.heap.size m va vc := by
  have hs : w.Since w.heap.size (w.alloc (.cells (mgL m va vc).toArray 37)) := (World.Since.refl _ _).alloc (Nat.le_refl _) _
  have h' := h.since hs
  exact ⟨mg_row w m va vc, h'.val, h'.nil, h'.lt, fun q e h0 => by have := h.lt q e h0; omega, h.len, h.byte⟩
theorem put_byte {m : Mg} (hb : ∀ c, ∀ v ∈ m.s c, v < 256) (f : Fd) : ∀ v ∈ f.put m, v < 256 := by
  cases f with
  | var c _ => exact vl_lt 9 _
  | small c _ =>
    intro v hv
    obtain ⟨j, _, rfl⟩ := List.mem_map.1 hv
    exact Nat.mod_lt _ (by decide)
  | text c _ =>
    intro v hv
    rcases List.mem_append.1 hv with h | h
    · exact vl_lt 9 _ v h
    · exact hb c v h
theorem putL_byte {m : Mg} (hb : ∀ c, ∀ v ∈ m.s c, v < 256) : ∀ fs, ∀ v ∈ putL m fs, v < 256
  | [], v, h => absurd h (List.not_mem_nil)
  | f :: fs, v, h => by
    rcases List.mem_append.1 h with h | h
    · exact put_byte hb f v h
    · exact putL_byte hb fs v h
theorem body_byte {m : Mg} (hb : ∀ c, ∀ v ∈ m.s c, v < 256) : ∀ v ∈ bodyG m, v < 256 := fun v h => by
  rcases List.mem_append.1 h with h | h
  · exact putL_byte hb _ v h
  · exact putL_byte hb _ v h
theorem getD_byte {l : List Nat} (h : ∀ v ∈ l, v < 256) (j : Nat) : l.getD j 0 < 256 := by
  by_cases hj : j < l.length
  · have := h l[j] (List.getElem_mem hj)
    simpa [List.getD, hj] using this
  · simp [List.getD, hj]
theorem body_len {m : Mg} (hk : kindB m = true) (hm : mayM m = true) : (bodyG m).length ≤ 600004 := by
  have h2 := (puts_len (Bool.and_eq_true_iff.1 hm).2 16 (Nat.le_refl _)).1
  have := kind_lt hk
  show (putL m hds ++ putL m (fdsK (m.n 0).toNat)).length ≤ _
  rw [List.length_append, hds_len]
  show 4 + (putL m (fdsU (m.n 0).toNat 16)).length ≤ _
  omega
theorem seal_byte {l : List Nat} (h : ∀ v ∈ l, v < 256) : ∀ v ∈ sealG l, v < 256 := fun v hv => by
  rcases List.mem_append.1 hv with h1 | h1
  · exact h v h1
  · obtain ⟨j, _, rfl⟩ := List.mem_map.1 h1
    exact Nat.mod_lt _ (by decide)
/-- What Encode answers. -/
def EncAns (m : Mg) (B : Nat) (e : Ending) (w' : World) : Prop := ∃ ta, e = .returned (.tuple #[.slice ta (encM m).2.length (encM m).2.length, .int .i64 ((encM m).1 : Nat)]) ∧ Txt B w' ta (encM m).2.length (fun j => (encM m).2.getD j 0)
set_option maxHeartbeats 4000000 in
theorem encode_any (w : World) (m : Mg) (va : Option Addr) (vc : Nat) (hA : MgA w m va vc) (ht : Tb w) (hU : Us w) :
    Calls Tryz.prog 9 #[mgV m va vc] w fun e w' => EncAns m w.heap.size e w' ∧ w.Since w.heap.size w' := by
  obtain ⟨MM, HMM⟩ : ∃ x, Hid ((mgL m va vc).toArray = x) := ⟨_, rfl⟩
  have hmv : mgV m va vc = .agg MM := by unfold mgV; rw [HMM.out]
  rw [hmv]
  obtain ⟨W1, HW1⟩ : ∃ W, Hid (w.alloc (.cells MM 37) = W) := ⟨_, rfl⟩
  have s1 : w.Since w.heap.size W1 := by rw [← HW1.out]; exact (World.Since.refl _ _).alloc (Nat.le_refl _) _
  have hM1 : MsgIs W1 w.heap.size m va vc := by rw [← HW1.out, ← HMM.out]; exact hA.is
  have ck : W1.cell? ⟨w.heap.size, 0, none⟩ = some (.int .i64 (m.n 0)) := hM1.cell (i := 0) (by decide)
  have q := isKind_any (m.n 0) W1
  have HKB : Hid (decide (1 ≤ m.n 0 ∧ m.n 0 ≤ 11) = kindB m) := rfl
  rw [HKB.out] at q
  obtain ⟨KB, HKK⟩ : ∃ x, Hid (kindB m = x) := ⟨_, rfl⟩
  rw [HKK.out] at q
  have HA : Hid (∀ er l, encM m = (er, l) → ∀ W ta, w.Since w.heap.size W → Txt w.heap.size W ta l.length (fun j => l.getD j 0) → EncAns m w.heap.size (.returned (.tuple #[.slice ta l.length l.length, .int .i64 (er : Nat)])) W ∧ w.Since w.heap.size W) := fun er l he W ta hs htx => by
    refine ⟨⟨ta, ?_, ?_⟩, hs⟩
    · rw [he]
    · rw [he]; exact htx
  have HM1 := hide hM1
  have HS1 := hide s1
  have HT := hide ht
  have HU := hide hU
  have HBY := hide hA.byte
  clear hmv s1 hM1 hA ht hU
  obtain ⟨n0, Hn0⟩ : ∃ x, Hid (m.n 0 = x) := ⟨_, rfl⟩
  rw [Hn0.out] at ck q
  go_enter Tryz.func9, Tryz.ntmps9
  go_upto_region 1 with fail
  rw [HW1.out]
  go_wp2_with fail
  refine q.mono ?_
  rintro e w2 ⟨rfl, e2⟩
  rw [e2]
  clear e2 q
  cases KB with
  | false =>
    have HE : Hid (EncAns m w.heap.size (.returned (.tuple #[.slice none 0 0, .int .i64 80])) W1 ∧ w.Since w.heap.size W1) := HA.out 80 [] (by unfold encM; rw [if_pos HKK.out]) W1 none HS1.out (.inl ⟨rfl, rfl⟩)
    go_wp2_with fail
    go_ret2
    exact HE.out
  | true =>
    have q := fields_any W1
    clear ck
    go_wp2_with fail
    refine q.mono ?_
    rintro e w3 ⟨G, rfl, HFX⟩
    clear q
    obtain ⟨FA, HFA⟩ : ∃ x, Hid (((List.range 48).map G).toArray = x) := ⟨_, rfl⟩
    have hfv : faV G = .agg FA := by unfold faV; rw [HFA.out]
    obtain ⟨W4, HW4, s4, z4, hh4, ht4⟩ := fs_stored w3 G
    have HSZ : Hid ((Tryz.prog.info? 89).map (·.size) = some FA.size) := by show _ = _; rw [← HFA.out, fa_size]; exact infoFs
    have HT4 : Hid ((w3.alloc (.cells #[.nilFunc, .nilFunc, .nilFunc, .nilFunc, .nilFunc, .nilFunc, .nilFunc, .nilFunc, .nilFunc, .nilFunc, .nilFunc, .nilFunc, .nilFunc, .nilFunc, .nilFunc, .nilFunc, .nilFunc, .nilFunc, .nilFunc, .nilFunc, .nilFunc, .nilFunc, .nilFunc, .nilFunc, .nilFunc, .nilFunc, .nilFunc, .nilFunc, .nilFunc, .nilFunc, .nilFunc, .nilFunc, .nilFunc, .nilFunc, .nilFunc, .nilFunc, .nilFunc, .nilFunc, .nilFunc, .nilFunc, .nilFunc, .nilFunc, .nilFunc, .nilFunc, .nilFunc, .nilFunc, .nilFunc, .nilFunc] 89)).there w3.heap.size 0 FA.size) := by show World.there _ _ _ _; rw [← HFA.out, fa_size]; exact ht4
    have HO4 : Hid (FA.all (·.oneCell') = true) := by show _ = _; rw [← HFA.out]; exact fs_one HFX.out.1
    have HW4' : Hid ((w3.alloc (.cells #[.nilFunc, .nilFunc, .nilFunc, .nilFunc, .nilFunc, .nilFunc, .nilFunc, .nilFunc, .nilFunc, .nilFunc, .nilFunc, .nilFunc, .nilFunc, .nilFunc, .nilFunc, .nilFunc, .nilFunc, .nilFunc, .nilFunc, .nilFunc, .nilFunc, .nilFunc, .nilFunc, .nilFunc, .nilFunc, .nilFunc, .nilFunc, .nilFunc, .nilFunc, .nilFunc, .nilFunc, .nilFunc, .nilFunc, .nilFunc, .nilFunc, .nilFunc, .nilFunc, .nilFunc, .nilFunc, .nilFunc, .nilFunc, .nilFunc, .nilFunc, .nilFunc, .nilFunc, .nilFunc, .nilFunc, .nilFunc] 89)).setCells w3.heap.size 0 FA.toList = W4) := by show _ = _; rw [← HFA.out]; exact HW4.out
    have HH4 : Hid (W4.heap[w3.heap.size]? = some (.cells FA 89 (0, 0))) := by show _ = _; rw [← HFA.out]; exact hh4
    have s14 : W1.Since W1.heap.size W4 := HFX.out.2.1.trans (since_mono s4 HFX.out.2.1.size)
    have sw4 : w.Since w.heap.size W4 := HS1.out.trans (since_mono s14 HS1.out.size)
    have hF4 : FAll (W1.heap.size + 1) w3.heap.size W4 G := HFX.out.1.up (Nat.le_refl _) (Nat.le_refl _) (Agr2.since s4 (Nat.le_refl _))
    have hM4 := HM1.out.since s14
    have hU4 := HU.out.since sw4
    have q := mayBe_any W4 w.heap.size m va vc hM4 HKK.out hU4 G _ _ hF4 (by omega)
    rw [hfv] at q ⊢
    obtain ⟨MB, HMB⟩ : ∃ x, Hid (mayM m = x) := ⟨_, rfl⟩
    rw [HMB.out] at q
    have HF4 := hide hF4
    have HM4 := hide hM4
    have HU4 := hide hU4
    have HSW4 := hide sw4
    have HZ4 := hide z4
    clear HFX s4 z4 hh4 ht4 HW4 s14 sw4 hF4 hM4 hU4
    go_wp2_with (first
      | (refine wpList_store_mid rfl 89 _ _ rfl w3.heap.size 0 _ rfl rfl HT4.out HSZ.out HO4.out ?_; rw [HW4'.out])
      | (refine wpList_load_row rfl 89 _ rfl w3.heap.size rfl _ _ (0, 0) _ HH4.out Tryz.underlying89 rfl HSZ.out ?_))
    refine q.mono ?_
    rintro e w5 ⟨rfl, hs5⟩
    clear q HT4 HO4 HW4'
    cases MB with
    | false =>
      have HE : Hid (EncAns m w.heap.size (.returned (.tuple #[.slice none 0 0, .int .i64 83])) w5 ∧ w.Since w.heap.size w5) := HA.out 83 [] (by unfold encM; rw [if_neg (by rw [HKK.out]; decide), if_pos HMB.out]) w5 none (HSW4.out.trans (since_mono hs5 HSW4.out.size)) (.inl ⟨rfl, rfl⟩)
      clear hs5
      go_wp2_with fail
      go_ret2
      exact HE.out
    | true =>
      have HS5 := hide hs5
      have HSW5 : Hid (w.Since w.heap.size w5) := HSW4.out.trans (since_mono hs5 HSW4.out.size)
      have q := Wr.new w5 w5 (World.Since.refl _ _)
      clear hs5
      go_wp2_with fail
      refine q.mono ?_
      rintro e w6 ⟨wb, rfl, hW6⟩
      clear q
      have ht5 := HT.out.since HSW5.out
      have hz5 := HS5.out.size
      have q := write_any w5 w6 wb w.heap.size m va vc hW6 ht5 (HM4.out.since HS5.out) HKK.out HMB.out (HU4.out.since HS5.out) G _ _ (HF4.out.up (Nat.le_refl _) (Nat.le_refl _) (Agr2.since HS5.out (by have := HZ4.out; omega))) (by have := HZ4.out; omega)
      rw [hfv] at q
      have HH6 : Hid (w6.heap[w3.heap.size]? = some (.cells FA 89 (0, 0))) := ((hW6.2.1.block _ (by have := HZ4.out; omega)).trans (HS5.out.block _ (by have := HZ4.out; omega))).trans HH4.out
      have HT5 := hide ht5
      clear hW6 ht5 hz5
      go_wp2_with (refine wpList_load_row rfl 89 _ rfl w3.heap.size rfl _ _ (0, 0) _ HH6.out Tryz.underlying89 rfl HSZ.out ?_)
      refine q.mono ?_
      rintro e w7 ⟨rfl, hW7⟩
      clear q
      have hbl := body_len HKK.out HMB.out
      have hbb := body_byte (m := m) HBY.out
      have HEM : Hid (encM m = (0, sealG (bodyG m))) := by
        show encM m = _
        unfold encM
        rw [if_neg (by rw [HKK.out]; decide), if_neg (by rw [HMB.out]; decide)]
      obtain ⟨BL, HBL⟩ : ∃ x, Hid (bodyG m = x) := ⟨_, rfl⟩
      rw [HBL.out] at hbl hbb hW7 HEM
      have q := hW7.out (by omega)
      clear hW7
      go_wp2_with fail
      refine q.mono ?_
      rintro e w8 ⟨g, rfl, hg, hr8, hW8⟩
      clear q
      have hsl : Crc.sum BL < 4294967296 := Crc.sum_lt _ hbb
      have q1 := sum_byt (some ⟨g, 0, none⟩) BL.length BL.length (fun j => BL.getD j 0) w8 (by omega) (Byt.of_row hr8) (getD_byte hbb) (HT5.out.since hW8.2.1).crc
      rw [range_getD] at q1
      have q2 := hW8.u32 HT5.out (Crc.sum BL) hsl (by omega)
      clear hr8 hg hW8
      generalize hCS : Crc.sum BL = CS at *
      go_wp2_with fail
      refine q1.mono ?_
      rintro e w9 ⟨rfl, e9⟩
      rw [e9]
      clear e9 q1
      go_wp2_with fail
      refine q2.mono ?_
      rintro e w10 ⟨rfl, hW10⟩
      clear q2
      have hsl2 : BL ++ fl 4 CS = sealG BL := by unfold sealG; rw [hCS]
      rw [hsl2] at hW10
      have hl2 : (sealG BL).length ≤ 100000000000 := by rw [seal_len]; omega
      have q := hW10.out hl2
      have HQ : Hid (Calls Tryz.prog 39 #[.pointer (some ⟨wb, 0, none⟩)] w10 fun e w' => ∃ g, e = .returned (.slice (some ⟨g, 0, none⟩) (sealG BL).length (sealG BL).length) ∧ Hid (EncAns m w.heap.size (.returned (.tuple #[.slice (some ⟨g, 0, none⟩) (sealG BL).length (sealG BL).length, .int .i64 ((0 : Nat) : Int)])) w' ∧ w.Since w.heap.size w')) := q.mono fun e w' ⟨g, he, hg, hr, hW⟩ => by
        refine ⟨g, he, HA.out 0 (sealG BL) HEM.out w' (some ⟨g, 0, none⟩) (HSW5.out.trans (since_mono hW.2.1 HSW5.out.size)) (.inr ⟨g, rfl, ?_, hr⟩)⟩
        have := HSW5.out.size
        omega
      clear q hW10 hl2 hsl2 hCS hsl hbb hbl
      generalize sealG BL = SB at *
      go_wp2_with fail
      refine HQ.out.mono ?_
      rintro e w11 ⟨g2, rfl, HE⟩
      clear HQ
      go_wp2_with fail
      go_ret2
      exact HE.out
end Go.Proofs.YtonpmabdjngdcaaGreatDoor

/- Package message: Decode. -/
namespace Go.Proofs.YtonpmabdjngdcaaGreatDoor
open Go.RowKit
set_option maxRecDepth 100000

/-- What Decode answers. -/
def DecAns (z : Nat → Nat) (n B : Nat) (e : Ending) (w' : World) : Prop := ∃ va, e = .returned (.tuple #[mgV (decM z n).2 va ((decM z n).2.s 10).length, .int .i64 ((decM z n).1 : Nat)]) ∧ Txt B w' va ((decM z n).2.s 10).length (fun j => ((decM z n).2.s 10).getD j 0) ∧ (∀ c, ((decM z n).2.s c).length ≤ 140737488351232) ∧ ∀ c, ∀ v ∈ (decM z n).2.s c, v < 256
/-- A message of nothing, stored into the answer. -/
theorem zero_end {w W : World} {z : Nat → Nat} {n er : Nat} (hr : W.rowIs w.heap.size 37 22 (mgCell mg0 none 0)) (hs : w.Since w.heap.size W) (hd : decM z n = (er, mg0)) : ∃ W1, Hid (W.setCells w.heap.size 0 (mgL mg0 none 0) = W1) ∧ Hid (W.there w.heap.size 0 22) ∧ Hid (W1.heap[w.heap.size]? = some (.cells (mgL mg0 none 0).toArray 37 (0, 0))) ∧ Hid (DecAns z n w.heap.size (.returned (.tuple #[.agg (mgL mg0 none 0).toArray, .int .i64 ((er : Nat) : Int)])) W1 ∧ w.Since w.heap.size W1) := by
  obtain ⟨W1, HW1, r1, h1, z1, b1, o1, t1, p1⟩ := mg_stored hr mg0 none 0
  refine ⟨W1, HW1, row_there hr, h1, ⟨none, ?_, ?_, ?_, ?_⟩, o1.trans hs.os, t1.trans hs.tape, p1.trans hs.output, by rw [z1]; exact hs.size, fun k hk => (b1 k (by omega)).trans (hs.block k hk)⟩
  · rw [hd]; rfl
  · rw [hd]; exact .inl ⟨rfl, rfl⟩
  · rw [hd]; exact fun c => Nat.zero_le _
  · rw [hd]; exact fun c v hv => absurd hv (List.not_mem_nil)
set_option maxHeartbeats 4000000 in
theorem decode_short (a : Option Addr) (n cap : Nat) (z : Nat → Nat) (w : World) (h : n < 4 ∨ 17000 < n) (hmax : n ≤ 281474976710656) :
    Calls Tryz.prog 11 #[.slice a n cap] w fun e w' => DecAns z n w.heap.size e w' ∧ w.Since w.heap.size w' := by
  obtain ⟨W0, HW0⟩ : ∃ W, Hid (w.alloc mgZ = W) := ⟨_, rfl⟩
  have s0 : w.Since w.heap.size W0 := by rw [← HW0.out]; exact (World.Since.refl _ _).alloc (Nat.le_refl _) _
  have r0 : W0.rowIs w.heap.size 37 22 (mgCell mg0 none 0) := by rw [← HW0.out]; exact mgZ_row w
  obtain ⟨W1, HZW, HZT, HZH, HZE⟩ := zero_end (z := z) (n := n) (er := 81) r0 s0 (by unfold decM; rw [if_pos h])
  clear s0 r0
  unfold mgZ at HW0
  by_cases h1 : n < 4
  · have h2 : (n : Int) < 4 := by omega
    clear h
    go_enter Tryz.func11, Tryz.ntmps11
    go_upto_region 1 with fail
    rw [HW0.out]
    go_upto_region 2 with fail
    refine wp_region_lit ?_
    refine wpList_plain rfl fun _ hK => op_run (mgV mg0 none 0) (by rw [mgV_zero]; kernel_rfl) (hK _ _ ?_)
    refine wpList_store_mid rfl 37 (.tmp 2) (.tmp 15) rfl w.heap.size 0 (mgL mg0 none 0).toArray rfl rfl HZT.out infoMg (mg_all _ _ _) ?_
    rw [show (mgL mg0 none 0).toArray.toList = mgL mg0 none 0 from rfl, HZW.out]
    go_wp2_with fail
    exact bodyPost_ret_by (res2 rfl _ _ w.heap.size _ _ (0, 0) _ rfl HZH.out Tryz.underlying37 rfl (infoMgA _ _ _) (.int .i64 81) rfl) rfl HZE.out
  · have h2 : ¬ ((n : Int) < 4) := by omega
    have h3 : (n : Int) > 17000 := by omega
    have h2b : decide ((n : Int) < 4) = false := by simp; omega
    clear h
    go_enter Tryz.func11, Tryz.ntmps11
    go_upto_region 1 with fail
    rw [HW0.out]
    go_upto_region 2 with fail
    refine wp_region_lit ?_
    refine wpList_plain rfl fun _ hK => op_run (mgV mg0 none 0) (by rw [mgV_zero]; kernel_rfl) (hK _ _ ?_)
    refine wpList_store_mid rfl 37 (.tmp 2) (.tmp 15) rfl w.heap.size 0 (mgL mg0 none 0).toArray rfl rfl HZT.out infoMg (mg_all _ _ _) ?_
    rw [show (mgL mg0 none 0).toArray.toList = mgL mg0 none 0 from rfl, HZW.out]
    go_wp2_with fail
    exact bodyPost_ret_by (res2 rfl _ _ w.heap.size _ _ (0, 0) _ rfl HZH.out Tryz.underlying37 rfl (infoMgA _ _ _) (.int .i64 81) rfl) rfl HZE.out

end Go.Proofs.YtonpmabdjngdcaaGreatDoor

/- Package message: the two pieces that Decode reads. -/
namespace Go.Proofs.YtonpmabdjngdcaaGreatDoor
open Go.RowKit
set_option maxRecDepth 100000

theorem cut_tail (b o n cap E : Nat) (hE : E + 4 = n) (hc : n ≤ cap) (W : World) : (Instr.sliceAt 32 (.slice (some ⟨b, o, none⟩) n cap) (some (.int .i64 (E : Nat))) none none).run Tryz.prog W = .ok (.slice (some ⟨b, o + E, none⟩) 4 (cap - E)) W := by
  have h1 : (0 : Int) ≤ (E : Int) := by omega
  have h2 : (E : Int) ≤ (n : Int) := by omega
  have h3 : (E : Int) ≤ (cap : Int) := by omega
  have h4 : ¬ (cap = E) := by omega
  have h5 : n - E = 4 := by omega
  go_simp
theorem cut_head (b o n cap E : Nat) (hE : E + 4 = n) (hc : n ≤ cap) (W : World) : (Instr.sliceAt 32 (.slice (some ⟨b, o, none⟩) n cap) none (some (.int .i64 (E : Nat))) none).run Tryz.prog W = .ok (.slice (some ⟨b, o, none⟩) E cap) W := by
  have h1 : (0 : Int) ≤ (E : Int) := by omega
  have h2 : (E : Int) ≤ (n : Int) := by omega
  have h3 : (E : Int) ≤ (cap : Int) := by omega
  go_simp
set_option maxHeartbeats 8000000 in
theorem decode_long (b o n cap : Nat) (z : Nat → Nat) (w : World) (h4 : 4 ≤ n) (h17 : n ≤ 17000) (hcap : n ≤ cap) (hb : Byt w (some ⟨b, o, none⟩) n z) (hz : ∀ j, z j < 256) (ht : Tb w) (hU : Us w) :
    Calls Tryz.prog 11 #[.slice (some ⟨b, o, none⟩) n cap] w fun e w' => DecAns z n w.heap.size e w' ∧ w.Since w.heap.size w' := by
  obtain ⟨E, hE⟩ : ∃ E, E + 4 = n := ⟨n - 4, by omega⟩
  obtain ⟨W0, HW0⟩ : ∃ W, Hid (w.alloc mgZ = W) := ⟨_, rfl⟩
  have s0 : w.Since w.heap.size W0 := by rw [← HW0.out]; exact (World.Since.refl _ _).alloc (Nat.le_refl _) _
  have z0 : W0.heap.size = w.heap.size + 1 := by rw [← HW0.out]; simp
  have r0 : W0.rowIs w.heap.size 37 22 (mgCell mg0 none 0) := by rw [← HW0.out]; exact mgZ_row w
  have hb0 := hb.since s0
  have hbt : Byt W0 (some ⟨b, o + E, none⟩) 4 (fun j => z (E + j)) := fun j hj => by
    obtain ⟨b', o', e, hc⟩ := hb0 (E + j) (by omega)
    cases e
    exact ⟨b, o + E, rfl, by rw [Nat.add_assoc]; exact hc⟩
  have hbh : Byt W0 (some ⟨b, o, none⟩) E z := hb0.le (by omega)
  obtain ⟨S, HS⟩ : ∃ x, Hid (be (fun j => z (E + j)) 4 = x) := ⟨_, rfl⟩
  obtain ⟨C, HC⟩ : ∃ x, Hid (Crc.sum (cutZ z 0 E) = x) := ⟨_, rfl⟩
  have ht0 := ht.since s0
  have HRD : Hid (∀ W, W0.Since W0.heap.size W → Calls Tryz.prog 40 #[.slice (some ⟨b, o + E, none⟩) 4 (cap - E)] W fun e w' => ∃ rb, e = .returned (.pointer (some ⟨rb, 0, none⟩)) ∧ W0.Since W0.heap.size w' ∧ Hid (Calls Tryz.prog 41 #[.pointer (some ⟨rb, 0, none⟩)] w' fun e w2 => e = .returned (.int .u32 (S : Nat)) ∧ W0.Since W0.heap.size w2)) := fun W hW =>
    (read_any (some ⟨b, o + E, none⟩) 4 (cap - E) (fun j => z (E + j)) W (by decide) (hbt.since hW) (fun j => hz _)).mono fun e w' ⟨rb, he, h1, h2, h3⟩ => by
      have hs' : W0.Since W0.heap.size w' := hW.trans (since_mono h2 hW.size)
      refine ⟨rb, he, hs', ?_⟩
      have q := u32_r rb _ 4 0 0 _ w' h3 (ht0.since hs').wid
      have e4 : fixAns (fun j => z (E + j)) 4 4 0 0 = (be (fun j => z (E + j)) 4, 4, 0) := by
        unfold fixAns
        rw [if_neg (fun e => e rfl), if_neg (by decide)]
        simp only [Nat.zero_add]
      rw [e4, HS.out] at q
      exact q.mono fun e w2 ⟨he, hbt, _⟩ => ⟨he, hbt.since hs' (by have := hW.size; omega) hs'.size⟩
  have HSM : Hid (∀ W, W0.Since W0.heap.size W → Calls Tryz.prog 38 #[.slice (some ⟨b, o, none⟩) E cap] W fun e w' => e = .returned (.int .u32 (C : Nat)) ∧ w' = W) := fun W hW => by
    have q := sum_byt (some ⟨b, o, none⟩) E cap z W (by omega) (hbh.since hW) hz (ht0.since hW).crc
    have e : (List.range E).map z = cutZ z 0 E := by unfold cutZ; simp
    rw [e, HC.out] at q
    exact q
  have HDM : Hid (decM z n = if S ≠ C then (82, mg0) else match readG z E with
      | none => (81, mg0)
      | some m => (0, m)) := by
    show decM z n = _
    unfold decM
    rw [if_neg (by omega), show n - 4 = E by omega, HS.out, HC.out]
    rfl
  have HZ0 : Hid (∀ W er, W0.Since W0.heap.size W → decM z n = (er, mg0) → ∃ W1, Hid (W.setCells w.heap.size 0 (mgL mg0 none 0) = W1) ∧ Hid (W.there w.heap.size 0 22) ∧ Hid (W1.heap[w.heap.size]? = some (.cells (mgL mg0 none 0).toArray 37 (0, 0))) ∧ Hid (DecAns z n w.heap.size (.returned (.tuple #[.agg (mgL mg0 none 0).toArray, .int .i64 ((er : Nat) : Int)])) W1 ∧ w.Since w.heap.size W1)) := fun W er hW hd => zero_end (row_since r0 hW) (s0.trans (since_mono hW s0.size)) hd
  have HQR : Hid (∀ W, W0.Since W0.heap.size W → Calls Tryz.prog 42 #[.slice (some ⟨b, o, none⟩) E cap] W fun e w' => RdAns z E W.heap.size e w' ∧ W.Since W.heap.size w') := fun W hW => mread_any (some ⟨b, o, none⟩) E cap z W (hbh.since hW) hz (by omega) (ht0.since hW).wid ((hU.since s0).since hW)
  have HR0 := hide r0
  have HS0 := hide s0
  have hE2 : (n : Int) - 4 = (E : Int) := by omega
  have hwE : IntKind.i64.wrap (E : Int) = (E : Int) := by rw [IntKind.wrap_i64]; omega
  have y1 : (0 : Int) ≤ (E : Int) := by omega
  have y2 : (E : Int) ≤ (n : Int) := by omega
  have y3 : (E : Int) ≤ (cap : Int) := by omega
  have y4 : ¬ (cap = E) := by omega
  have y5 : n - E = 4 := by omega
  have y6 : ¬ ((n : Int) < 4) := by omega
  have y7 : ¬ ((n : Int) > 17000) := by omega
  have y8 : decide ((n : Int) < 4) = false := by simp; omega
  have y9 : decide ((n : Int) > 17000) = false := by simp; omega
  clear hb hz ht hU s0 r0 hb0 hbt hbh ht0 hE z0
  unfold mgZ at HW0
  go_enter Tryz.func11, Tryz.ntmps11
  go_upto_region 1 with fail
  rw [HW0.out]
  go_upto_region 4 with fail
  have hS0 : W0.Since W0.heap.size W0.drew := (World.Since.refl _ _).drew
  go_region_held3 (fun W => W0.Since W0.heap.size W)
    (first | exact hS0 | exact hS2 | exact hS3 | assumption)
    (first
      | (go_at_call 40; refine (HRD.out _ (by assumption)).mono ?_; rintro e w2 ⟨rb, rfl, hS2, HU⟩)
      | (go_at_call 41; refine HU.out.mono ?_; rintro e w3 ⟨rfl, hS3⟩)
      | (go_at_call 38; refine (HSM.out _ (by assumption)).mono ?_; rintro e w4 ⟨rfl, e4⟩; rw [e4]; clear e4))
  all_goals
    clear HRD HSM HU
    by_cases hSC : S = C
    · subst hSC
      have hn1 : ((S : Int) != (S : Int)) = false := by simp
      have q := HQR.out _ hS3
      have HS3 := hide hS3
      clear HQR
      go_wp2_with fail
      refine q.mono ?_
      rintro e w5 ⟨hRA, hs5⟩
      clear q
      have HSW5 : Hid (W0.Since W0.heap.size w5) := HS3.out.trans (since_mono hs5 HS3.out.size)
      have hlow := HS3.out.size
      obtain ⟨W6, HW6⟩ : ∃ W, Hid (w5.alloc mgZ = W) := ⟨_, rfl⟩
      have s6 : w5.Since w5.heap.size W6 := by rw [← HW6.out]; exact (World.Since.refl _ _).alloc (Nat.le_refl _) _
      have r6 : W6.rowIs w5.heap.size 37 22 (mgCell mg0 none 0) := by rw [← HW6.out]; exact mgZ_row w5
      have sW6 : W0.Since W0.heap.size W6 := HSW5.out.trans (since_mono s6 HSW5.out.size)
      have hz5 : W0.heap.size ≤ w5.heap.size := HSW5.out.size
      have hlt0 : w.heap.size < W0.heap.size := HR0.out.lt
      unfold mgZ at HW6
      rcases hRA with ⟨m, va, hrg, rfl, htx, hlen, hby⟩ | ⟨m, va, vc, hrg, rfl⟩
      · obtain ⟨W7, HW7, r7, h7, z7, b7, o7, t7, p7⟩ := mg_stored r6 m va (m.s 10).length
        have sW7 : W0.Since W0.heap.size W7 := ⟨o7.trans sW6.os, t7.trans sW6.tape, p7.trans sW6.output, by rw [z7]; exact sW6.size, fun k hk => (b7 k (by omega)).trans (sW6.block k hk)⟩
        obtain ⟨W8, HW8, r8, h8, z8, b8, o8, t8, p8⟩ := mg_stored (row_since HR0.out sW7) m va (m.s 10).length
        have sw8 : w.Since w.heap.size W8 := by
          have a1 := HS0.out.trans (since_mono sW7 HS0.out.size)
          exact ⟨o8.trans a1.os, t8.trans a1.tape, p8.trans a1.output, by rw [z8]; exact a1.size, fun k hk => (b8 k (by omega)).trans (a1.block k hk)⟩
        have htx8 : Txt w.heap.size W8 va (m.s 10).length (fun j => (m.s 10).getD j 0) := by
          rcases htx with h | ⟨t, e, ht, hr⟩
          · exact .inl h
          · have hl := hr.lt
            exact .inr ⟨t, e, by omega, ((hr.of_block (s6.block t hl)).of_block (b7 t (by omega))).of_block (b8 t (by omega))⟩
        have HE : Hid (DecAns z n w.heap.size (.returned (.tuple #[.agg (mgL m va (m.s 10).length).toArray, .int .i64 0])) W8 ∧ w.Since w.heap.size W8) := by
          have hd : decM z n = (0, m) := by rw [HDM.out, if_neg (fun e => e rfl), hrg]
          refine ⟨⟨va, ?_, ?_, ?_, ?_⟩, sw8⟩
          · rw [hd]; rfl
          · rw [hd]; exact htx8
          · rw [hd]; exact hlen
          · rw [hd]; exact hby
        have HT6 : Hid ((w5.alloc (.cells #[.int .i64 0, .int .i64 0, .int .i64 0, .int .i64 0, .int .u64 0, .int .u64 0, .int .u64 0, .int .u64 0, .int .i64 0, .int .u64 0, .slice none 0 0, .int .i64 0, .int .u64 0, .string ⟨#[]⟩, .string ⟨#[]⟩, .int .u64 0, .int .u64 0, .int .u64 0, .int .i64 0, .int .i64 0, .int .i64 0, .int .i64 0] 37)).there w5.heap.size 0 22) := by rw [HW6.out]; exact row_there r6
        have HT7 : Hid (W7.there w.heap.size 0 22) := row_there (row_since HR0.out sW7)
        obtain ⟨MM, HMM⟩ : ∃ x, Hid (mgL m va (m.s 10).length = x) := ⟨_, rfl⟩
        have hml : MM.length = 22 := by rw [← HMM.out, mgL_len]
        have hms : MM.toArray.size = 22 := by rw [List.size_toArray, hml]
        have hmo : ∀ v ∈ MM, v.oneCell' = true := by rw [← HMM.out]; exact mgL_one _ _ _
        have HIN : Hid ((Tryz.prog.info? 37).map (·.size) = some MM.toArray.size) := by show _ = _; rw [hms]; exact infoMg
        have HON := hide (all_oneCell_toArray hmo)
        have HT6' : Hid ((w5.alloc (.cells #[.int .i64 0, .int .i64 0, .int .i64 0, .int .i64 0, .int .u64 0, .int .u64 0, .int .u64 0, .int .u64 0, .int .i64 0, .int .u64 0, .slice none 0 0, .int .i64 0, .int .u64 0, .string ⟨#[]⟩, .string ⟨#[]⟩, .int .u64 0, .int .u64 0, .int .u64 0, .int .i64 0, .int .i64 0, .int .i64 0, .int .i64 0] 37)).there w5.heap.size 0 MM.toArray.size) := by rw [hms]; exact HT6.out
        have HT7' : Hid (W7.there w.heap.size 0 MM.toArray.size) := by rw [hms]; exact HT7.out
        have HW7' : Hid ((w5.alloc (.cells #[.int .i64 0, .int .i64 0, .int .i64 0, .int .i64 0, .int .u64 0, .int .u64 0, .int .u64 0, .int .u64 0, .int .i64 0, .int .u64 0, .slice none 0 0, .int .i64 0, .int .u64 0, .string ⟨#[]⟩, .string ⟨#[]⟩, .int .u64 0, .int .u64 0, .int .u64 0, .int .i64 0, .int .i64 0, .int .i64 0, .int .i64 0] 37)).setCells w5.heap.size 0 MM.toArray.toList = W7) := by rw [HW6.out, ← HMM.out]; exact HW7.out
        have HW8' : Hid (W7.setCells w.heap.size 0 MM.toArray.toList = W8) := by rw [← HMM.out]; exact HW8.out
        have HH7 : Hid (W7.heap[w5.heap.size]? = some (.cells MM.toArray 37 (0, 0))) := by rw [← HMM.out]; exact h7
        have HH8 : Hid (W8.heap[w.heap.size]? = some (.cells MM.toArray 37 (0, 0))) := by rw [← HMM.out]; exact h8
        rw [HMM.out] at HE
        have hmv : mgV m va (m.s 10).length = .agg MM.toArray := by unfold mgV; rw [HMM.out]
        rw [hmv]
        clear r7 h7 z7 b7 o7 t7 p7 sW7 r8 h8 z8 b8 o8 t8 p8 sw8 htx8 htx hlen hby hrg HW7 HW8 HT6 HT7 hmv hms hmo hml s6 r6 sW6 hs5 HDM HZ0
        generalize MM.toArray = MA at *
        go_wp2_with (first
          | (refine wpList_store_mid rfl 37 _ _ rfl w5.heap.size 0 _ rfl rfl HT6'.out HIN.out HON.out ?_; rw [HW7'.out])
          | (refine wpList_load_row rfl 37 _ rfl w5.heap.size rfl _ _ (0, 0) _ HH7.out Tryz.underlying37 rfl HIN.out ?_)
          | (refine wpList_store_mid rfl 37 _ _ rfl w.heap.size 0 _ rfl rfl HT7'.out HIN.out HON.out ?_; rw [HW8'.out]))
        exact bodyPost_ret_by (res2 rfl _ _ w.heap.size _ _ (0, 0) _ rfl HH8.out Tryz.underlying37 rfl HIN.out (.int .i64 0) rfl) rfl HE.out
      · obtain ⟨W7, HW7, r7, h7, z7, b7, o7, t7, p7⟩ := mg_stored r6 m va vc
        have sW7 : W0.Since W0.heap.size W7 := ⟨o7.trans sW6.os, t7.trans sW6.tape, p7.trans sW6.output, by rw [z7]; exact sW6.size, fun k hk => (b7 k (by omega)).trans (sW6.block k hk)⟩
        obtain ⟨W8, HYW, HYT, HYH, HYE⟩ := HZ0.out W7 81 sW7 (by rw [HDM.out, if_neg (fun e => e rfl), hrg])
        have HT6 : Hid ((w5.alloc (.cells #[.int .i64 0, .int .i64 0, .int .i64 0, .int .i64 0, .int .u64 0, .int .u64 0, .int .u64 0, .int .u64 0, .int .i64 0, .int .u64 0, .slice none 0 0, .int .i64 0, .int .u64 0, .string ⟨#[]⟩, .string ⟨#[]⟩, .int .u64 0, .int .u64 0, .int .u64 0, .int .i64 0, .int .i64 0, .int .i64 0, .int .i64 0] 37)).there w5.heap.size 0 22) := by rw [HW6.out]; exact row_there r6
        obtain ⟨MM, HMM⟩ : ∃ x, Hid (mgL m va vc = x) := ⟨_, rfl⟩
        have hml : MM.length = 22 := by rw [← HMM.out, mgL_len]
        have hms : MM.toArray.size = 22 := by rw [List.size_toArray, hml]
        have hmo : ∀ v ∈ MM, v.oneCell' = true := by rw [← HMM.out]; exact mgL_one _ _ _
        have HIN : Hid ((Tryz.prog.info? 37).map (·.size) = some MM.toArray.size) := by show _ = _; rw [hms]; exact infoMg
        have HON := hide (all_oneCell_toArray hmo)
        have HT6' : Hid ((w5.alloc (.cells #[.int .i64 0, .int .i64 0, .int .i64 0, .int .i64 0, .int .u64 0, .int .u64 0, .int .u64 0, .int .u64 0, .int .i64 0, .int .u64 0, .slice none 0 0, .int .i64 0, .int .u64 0, .string ⟨#[]⟩, .string ⟨#[]⟩, .int .u64 0, .int .u64 0, .int .u64 0, .int .i64 0, .int .i64 0, .int .i64 0, .int .i64 0] 37)).there w5.heap.size 0 MM.toArray.size) := by rw [hms]; exact HT6.out
        have HW7' : Hid ((w5.alloc (.cells #[.int .i64 0, .int .i64 0, .int .i64 0, .int .i64 0, .int .u64 0, .int .u64 0, .int .u64 0, .int .u64 0, .int .i64 0, .int .u64 0, .slice none 0 0, .int .i64 0, .int .u64 0, .string ⟨#[]⟩, .string ⟨#[]⟩, .int .u64 0, .int .u64 0, .int .u64 0, .int .i64 0, .int .i64 0, .int .i64 0, .int .i64 0] 37)).setCells w5.heap.size 0 MM.toArray.toList = W7) := by rw [HW6.out, ← HMM.out]; exact HW7.out
        have hmv : mgV m va vc = .agg MM.toArray := by unfold mgV; rw [HMM.out]
        rw [hmv]
        clear r7 h7 z7 b7 o7 t7 p7 sW7 hrg HW7 HT6 hmv hms hmo hml s6 r6 sW6 hs5 HDM HZ0
        generalize MM.toArray = MA at *
        go_upto_region 7 with (refine wpList_store_mid rfl 37 _ _ rfl w5.heap.size 0 _ rfl rfl HT6'.out HIN.out HON.out ?_; rw [HW7'.out])
        go_upto_region 8 with fail
        refine wp_region_lit ?_
        refine wpList_plain rfl fun _ hK => op_run (mgV mg0 none 0) (by rw [mgV_zero]; kernel_rfl) (hK _ _ ?_)
        refine wpList_store_mid rfl 37 (.tmp 2) (.tmp 39) rfl w.heap.size 0 (mgL mg0 none 0).toArray rfl rfl HYT.out infoMg (mg_all _ _ _) ?_
        rw [show (mgL mg0 none 0).toArray.toList = mgL mg0 none 0 from rfl, HYW.out]
        go_wp2_with fail
        exact bodyPost_ret_by (res2 rfl _ _ w.heap.size _ _ (0, 0) _ rfl HYH.out Tryz.underlying37 rfl (infoMgA _ _ _) (.int .i64 81) rfl) rfl HYE.out
    · have hn1 : ((S : Int) != (C : Int)) = true := bne_iff_ne.2 (fun e => hSC (Int.ofNat.inj e))
      have hn2 : ¬ ((S : Int) = (C : Int)) := by omega
      obtain ⟨W1, HZW, HZT, HZH, HZE⟩ := HZ0.out _ 82 hS3 (by rw [HDM.out, if_pos hSC])
      go_upto_region 5 with fail
      refine wp_region_lit ?_
      refine wpList_plain rfl fun _ hK => op_run (mgV mg0 none 0) (by rw [mgV_zero]; kernel_rfl) (hK _ _ ?_)
      refine wpList_store_mid rfl 37 (.tmp 2) (.tmp 29) rfl w.heap.size 0 (mgL mg0 none 0).toArray rfl rfl HZT.out infoMg (mg_all _ _ _) ?_
      rw [show (mgL mg0 none 0).toArray.toList = mgL mg0 none 0 from rfl, HZW.out]
      go_wp2_with fail
      exact bodyPost_ret_by (res2 rfl _ _ w.heap.size _ _ (0, 0) _ rfl HZH.out Tryz.underlying37 rfl (infoMgA _ _ _) (.int .i64 82) rfl) rfl HZE.out
end Go.Proofs.YtonpmabdjngdcaaGreatDoor

/- The document's Reader over bytes at any place: a number in one byte; the document's eye of a message. -/
namespace Go.Proofs.YtonpmabdjngdcaaGreatDoor
open Go.RowKit
set_option maxRecDepth 100000

set_option maxHeartbeats 800000 in
theorem gFixed (eb hb ho hc n at' bad k : Nat) (z : Nat → Nat) (w : World) (h : IsG w eb hb ho hc n z at' bad) (hk : k ≤ 8) :
    Calls Tryz.prog 166 #[.pointer (some ⟨eb, 0, none⟩), .int .i64 k] w fun e w' => e = .returned (.int .u64 ((fixAns z n k at' bad).1 : Nat)) ∧ But eb w w' ∧ IsG w' eb hb ho hc n z (fixAns z n k at' bad).2.1 (fixAns z n k at' bad).2.2 := by
  have hr := gRaw eb hb ho hc n at' bad k z w h (by omega)
  have hkl := raw_le n k at' bad
  rw [fix_raw]
  rw [raw_from] at hr
  have hz := h.byte
  generalize rawAns n k at' bad = V at *
  obtain ⟨l, fr, at2, bad2⟩ := V
  replace hkl : l ≤ k := hkl
  go_enter Tryz.func166, Tryz.ntmps166
  go_wp2_with fail
  refine hr.mono ?_
  rintro e w1 ⟨⟨ta, rfl, htx⟩, hB, hI⟩
  obtain ⟨hy, _, _⟩ := txt_byt' htx
  clear hr htx
  go_wp2_with fail
  go_loopg [6, 7] l (fun q s6 s7 wx => ∃ i : Nat, i ≤ l ∧ q = l - i ∧ s6 = .int .u64 (be (fun j => z (at' + j)) i : Nat) ∧ s7 = .int .i64 i ∧ wx = w1)
  case atStart => exact ⟨0, Nat.zero_le _, rfl, rfl, rfl, rfl⟩
  case round =>
    obtain ⟨i, hi, rfl, rfl, rfl, hwx⟩ := hrel
    subst hwx
    by_cases hlt : i < l
    · have hlz : (i : Int) < (l : Int) := by omega
      obtain ⟨b, off, rfl, hx0⟩ := hy i hlt
      have hcc : wr.cell? ⟨b, off + i, none⟩ = some (.int .u8 (z (at' + i) : Nat)) := hx0
      have b1 := be_lt64 (fun j => z (at' + j)) (fun j => hz _) (i + 1) (by omega)
      have e1 : be (fun j => z (at' + j)) (i + 1) = be (fun j => z (at' + j)) i * 256 + z (at' + i) := rfl
      have b2 : be (fun j => z (at' + j)) i * 256 < 18446744073709551616 := by omega
      have b3 := hz (at' + i)
      have hsum : ((be (fun j => z (at' + j)) i : Nat) : Int) * 256 + ((z (at' + i) : Nat) : Int) = ((be (fun j => z (at' + j)) (i + 1) : Nat) : Int) := by omega
      clear hy e1 hx0
      generalize hN1 : be (fun j => z (at' + j)) (i + 1) = N1 at *
      generalize be (fun j => z (at' + j)) i = N0 at *
      generalize z (at' + i) = c at *
      go_wp2_with fail
      go_roundg (l - (i + 1))
      case measure => go_light; omega
      case rel => go_light; exact ⟨i + 1, by omega, rfl, by rw [hN1], by simp, rfl⟩
    · obtain rfl : i = l := by omega
      go_wp2_with fail
      go_ret
      exact ⟨rfl, hB, hI⟩

theorem gU8 (eb hb ho hc n at' bad : Nat) (z : Nat → Nat) (w : World) (h : IsG w eb hb ho hc n z at' bad) :
    Calls Tryz.prog 143 #[.pointer (some ⟨eb, 0, none⟩)] w fun e w' => e = .returned (.int .u8 ((fixAns z n 1 at' bad).1 : Nat)) ∧ But eb w w' ∧ IsG w' eb hb ho hc n z (fixAns z n 1 at' bad).2.1 (fixAns z n 1 at' bad).2.2 := by
  have hr := gFixed eb hb ho hc n at' bad 1 z w h (by decide)
  have hlt : (fixAns z n 1 at' bad).1 < 256 := by
    rw [fix_raw]
    exact Nat.lt_of_lt_of_le (be_lt _ (fun j => h.byte _) _) (Nat.pow_le_pow_right (n := 256) (by decide) (raw_le n 1 at' bad))
  generalize fixAns z n 1 at' bad = V at *
  obtain ⟨A, a2, b2⟩ := V
  go_enter Tryz.func143, Tryz.ntmps143
  go_wp2_with fail
  refine hr.mono ?_
  rintro e w1 ⟨rfl, hB, hI⟩
  go_wp2
  go_ret
  exact ⟨rfl, hB, hI⟩

/-- An eye: a Reader, and how long a text may be. -/
def eyCell (eb : Nat) (most : Nat) (i : Nat) : Value := if i = 0 then .pointer (some ⟨eb, 0, none⟩) else .int .i64 (most : Nat)
structure IsEy (w : World) (yb eb most : Nat) : Prop where
  row : w.rowIs yb 146 2 (eyCell eb most)
  ne : yb ≠ eb
theorem IsEy.c0 {w : World} {yb eb most : Nat} (h : IsEy w yb eb most) : w.cell? ⟨yb, 0, none⟩ = some (.pointer (some ⟨eb, 0, none⟩)) := h.row.cell (i := 0) (by decide)
theorem IsEy.c1 {w : World} {yb eb most : Nat} (h : IsEy w yb eb most) : w.cell? ⟨yb, 1, none⟩ = some (.int .i64 (most : Nat)) := h.row.cell (i := 1) (by decide)
theorem eye_small (yb eb hb ho hc n at' bad most : Nat) (z : Nat → Nat) (w : World) (hy : IsEy w yb eb most) (h : IsG w eb hb ho hc n z at' bad) :
    Calls Tryz.prog 88 #[.pointer (some ⟨yb, 0, none⟩)] w fun e w' => e = .returned (.int .i64 ((fixAns z n 1 at' bad).1 : Nat)) ∧ But eb w w' ∧ IsG w' eb hb ho hc n z (fixAns z n 1 at' bad).2.1 (fixAns z n 1 at' bad).2.2 := by
  have q := gU8 eb hb ho hc n at' bad z w h
  have c0 := hy.c0
  have hlt : (fixAns z n 1 at' bad).1 < 256 := by
    rw [fix_raw]
    exact Nat.lt_of_lt_of_le (be_lt _ (fun j => h.byte _) _) (Nat.pow_le_pow_right (n := 256) (by decide) (raw_le n 1 at' bad))
  generalize fixAns z n 1 at' bad = V at *
  obtain ⟨X, a2, b2⟩ := V
  have hlt : X < 256 := hlt
  have hwr : IntKind.i64.wrap (X : Int) = (X : Int) := by rw [IntKind.wrap_i64]; omega
  clear hy h
  go_enter Tryz.func88, Tryz.ntmps88
  go_wp2_with fail
  refine q.mono ?_
  rintro e w1 ⟨rfl, hx⟩
  have HX := hide hx
  clear q hx
  go_wp2_with fail
  go_ret
  exact ⟨rfl, HX.out⟩
theorem eye_number (yb eb hb ho hc n at' bad most : Nat) (z : Nat → Nat) (w : World) (hy : IsEy w yb eb most) (h : IsG w eb hb ho hc n z at' bad) (hn : n ≤ 140737488351232) :
    Calls Tryz.prog 89 #[.pointer (some ⟨yb, 0, none⟩)] w fun e w' => e = .returned (.int .u64 ((varAns z n 18446744073709551615 at' bad).1 : Nat)) ∧ But eb w w' ∧ IsG w' eb hb ho hc n z (varAns z n 18446744073709551615 at' bad).2.1 (varAns z n 18446744073709551615 at' bad).2.2 := by
  have q := gVar eb hb ho hc n at' bad 18446744073709551615 z w h hn
  have c0 := hy.c0
  generalize varAns z n 18446744073709551615 at' bad = V at *
  obtain ⟨X, a2, b2⟩ := V
  clear hy h
  go_enter Tryz.func89, Tryz.ntmps89
  go_wp2_with fail
  refine q.mono ?_
  rintro e w1 ⟨rfl, hx⟩
  have HX := hide hx
  clear q hx
  go_wp2_with fail
  go_ret
  exact ⟨rfl, HX.out⟩
end Go.Proofs.YtonpmabdjngdcaaGreatDoor

/- The document's eye: a text. -/
namespace Go.Proofs.YtonpmabdjngdcaaGreatDoor
open Go.RowKit
set_option maxRecDepth 100000

set_option maxHeartbeats 1000000 in
theorem eye_text (yb eb hb ho hc n at' bad most : Nat) (z : Nat → Nat) (w : World) (hy : IsEy w yb eb most) (h : IsG w eb hb ho hc n z at' bad) (hn : n ≤ 140737488351232) (hm : most ≤ 140737488351232) :
    Calls Tryz.prog 90 #[.pointer (some ⟨yb, 0, none⟩)] w fun e w' => (∃ ta, e = .returned (.slice ta (bytesAns z n most at' bad).1 (bytesAns z n most at' bad).1) ∧ Txt w.heap.size w' ta (bytesAns z n most at' bad).1 (fun j => z ((bytesAns z n most at' bad).2.1 + j))) ∧ But eb w w' ∧ IsG w' eb hb ho hc n z (bytesAns z n most at' bad).2.2.1 (bytesAns z n most at' bad).2.2.2 := by
  have c0 := hy.c0
  have c1 := hy.c1
  have hd : IsG w.drew eb hb ho hc n z at' bad := h.later rfl (fun _ => rfl)
  have q := gText eb hb ho hc n at' bad (most : Nat) z w.drew hd (by omega) hn
  rw [Int.toNat_natCast] at q
  have hlt : yb < w.heap.size := hy.row.lt
  have hne := hy.ne
  generalize bytesAns z n most at' bad = V at *
  obtain ⟨L, p, a2, b2⟩ := V
  have HQ : Hid (Calls Tryz.prog 145 #[.pointer (some ⟨eb, 0, none⟩), .int .i64 (most : Nat)] w.drew fun e w' => ∃ ta, e = .returned (.slice ta L L) ∧ w'.cell? ⟨yb, 0, none⟩ = some (.pointer (some ⟨eb, 0, none⟩)) ∧ w'.cell? ⟨yb, 1, none⟩ = some (.int .i64 (most : Nat)) ∧ Hid (Txt w.heap.size w' ta L (fun j => z (p + j)) ∧ But eb w w' ∧ IsG w' eb hb ho hc n z a2 b2)) := q.mono fun e w' ⟨⟨ta, he, htx⟩, hbt, hI⟩ => by
    have hbt : But eb w w' := ⟨hbt.os, hbt.tape, hbt.output, hbt.size, hbt.block⟩
    exact ⟨ta, he, cellB (hbt.block _ hlt hne) c0, cellB (hbt.block _ hlt hne) c1, htx, hbt, hI⟩
  have c0d : w.drew.cell? ⟨yb, 0, none⟩ = some (.pointer (some ⟨eb, 0, none⟩)) := c0
  have c1d : w.drew.cell? ⟨yb, 1, none⟩ = some (.int .i64 (most : Nat)) := c1
  clear q hy h hd hn hm hlt hne
  go_enter Tryz.func90, Tryz.ntmps90
  go_upto_region 1 with fail
  go_region_held3 (fun W => W.cell? ⟨yb, 0, none⟩ = some (.pointer (some ⟨eb, 0, none⟩)) ∧ W.cell? ⟨yb, 1, none⟩ = some (.int .i64 (most : Nat)))
    (first | exact ⟨c0d, c1d⟩ | exact ⟨c0, c1⟩ | exact ⟨x0, x1⟩)
    (first | (go_at_call 145; with_reducible refine HQ.out.mono ?_; rintro e w2 ⟨ta, rfl, x0, x1, HE⟩))
  all_goals
    clear HQ
    go_wp2_with fail
    go_ret
    exact ⟨⟨_, rfl, HE.out.1⟩, HE.out.2⟩
end Go.Proofs.YtonpmabdjngdcaaGreatDoor

/- A message's cells as an array. -/
namespace Go.Proofs.YtonpmabdjngdcaaGreatDoor
open Go.RowKit
set_option maxRecDepth 100000

theorem mgL_get (m : Mg) (va : Option Addr) (vc i : Nat) (hi : i < 22) : (mgL m va vc).toArray[i]? = some (mgCell m va vc i) := by
  rw [List.getElem?_toArray]
  unfold mgL
  rw [List.getElem?_map, List.getElem?_range hi]
  rfl
end Go.Proofs.YtonpmabdjngdcaaGreatDoor
