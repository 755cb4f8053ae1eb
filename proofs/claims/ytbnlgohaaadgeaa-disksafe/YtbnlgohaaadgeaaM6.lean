/- Own texts, joined: E28, E29, E30, F3, F4, F5, F6, F7. -/
import Derived.Test.YtbnlgohaaadgeaaM5
import Derived.Sort.KeysCollected

/- Package disk: what lies where in memory; sorted names, Size, List, Strokes, Room, Plan on any disk. -/
namespace Go.Proofs.Ytbnlgohaaadgeaa
open Go.RowKit Go.Maps Go.Sort
set_option maxRecDepth 100000
set_option maxRecDepth 100000

/-- What lies in the blocks from lo to hi. -/
def Lies (lo hi : Nat) (w : World) (P : World → Prop) : Prop := hi ≤ w.heap.size ∧ ∀ W, (∀ k, lo ≤ k → k < hi → W.heap[k]? = w.heap[k]?) → P W
theorem Lies.now {lo hi : Nat} {w : World} {P : World → Prop} (h : Lies lo hi w P) : P w := h.2 w (fun _ _ _ => rfl)
theorem Lies.keep {lo hi : Nat} {w w' : World} {P : World → Prop} (h : Lies lo hi w P) (hz : w.heap.size ≤ w'.heap.size) (hb : ∀ k, lo ≤ k → k < hi → w'.heap[k]? = w.heap[k]?) : Lies lo hi w' P :=
  ⟨Nat.le_trans h.1 hz, fun W hW => h.2 W (fun k h1 h2 => (hW k h1 h2).trans (hb k h1 h2))⟩
theorem Lies.on {lo hi : Nat} {w w' : World} {P : World → Prop} (h : Lies lo hi w P) (hb : Below w.heap.size w w') : Lies lo hi w' P := h.keep hb.size (fun k _ h2 => hb.block k (Nat.lt_of_lt_of_le h2 h.1))
/-- A footprint that spares these blocks. -/
def Spare (lo hi : Nat) (F : Nat → Prop) : Prop := ∀ k, F k → k < lo ∨ hi ≤ k
theorem Lies.mv {lo hi : Nat} {w w' : World} {P : World → Prop} {F F' : Nat → Prop} (h : Lies lo hi w P) (hs : Spare lo hi F) (hm : Mv F F' w w') : Lies lo hi w' P ∧ Spare lo hi F' :=
  ⟨h.keep hm.size (fun k h1 h2 => hm.block k (Nat.lt_of_lt_of_le h2 h.1) (fun hf => by rcases hs k hf with e | e <;> omega)), fun k hk => by
    have := h.1
    rcases hm.foot k hk with e | e
    · exact hs k e
    · omega⟩
theorem Lies.imp {lo hi : Nat} {w : World} {P Q : World → Prop} (h : Lies lo hi w P) (hq : ∀ W, P W → Q W) : Lies lo hi w Q := ⟨h.1, fun W hW => hq W (h.2 W hW)⟩

theorem before_lt : ∀ (a b : List UInt8), bytesBefore a b = true → a < b
  | [], [], h => by simp [bytesBefore] at h
  | [], _ :: _, _ => List.nil_lt_cons _ _
  | _ :: _, [], h => by simp [bytesBefore] at h
  | x :: r, y :: s, h => by
    simp only [bytesBefore, Bool.or_eq_true, Bool.and_eq_true, decide_eq_true_eq, beq_iff_eq] at h
    rw [List.cons_lt_cons_iff]
    rcases h with h | ⟨h1, h2⟩
    · exact .inl h
    · exact .inr ⟨h1, before_lt r s h2⟩
/-- Names that rise. -/
def NamesE (es : List (Lit × DataW Nat)) : Prop := es.Pairwise (fun p q => p.1.before q.1 = true) ∧ ∀ p ∈ es, ∃ s : ByteArray, okN s = true ∧ p.1 = .string s.data.toList
theorem Ents.names {n : Nat} {D : DataW Nat} (h : Ents n D) : NamesE (entsOf D) ∧ D = .map (entsOf D) := by
  obtain ⟨es, rfl, h1, h2⟩ := h
  exact ⟨⟨h1, fun p hp => by obtain ⟨s, a, b, _⟩ := h2 p hp; exact ⟨s, a, b⟩⟩, rfl⟩
theorem NamesE.ren {es : List (Lit × DataW Nat)} (h : NamesE es) (ρ : Nat → Nat) : NamesE (es.map (renE ρ)) := by
  refine ⟨?_, fun p hp => ?_⟩
  · rw [List.pairwise_map]
    exact h.1
  · obtain ⟨q, hq, rfl⟩ := List.mem_map.1 hp
    exact h.2 q hq
theorem NamesE.lt {es : List (Lit × DataW Nat)} (h : NamesE es) : (es.map (fun p => _root_.Go.strOf p.1)).Pairwise (· < ·) := by
  rw [List.pairwise_map]
  refine h.1.imp_of_mem (fun {a b} ha hb hab => ?_)
  obtain ⟨s, _, e1⟩ := h.2 a ha
  obtain ⟨t, _, e2⟩ := h.2 b hb
  rw [e1, e2] at hab ⊢
  exact before_lt _ _ hab
theorem NamesE.apart {es : List (Lit × DataW Nat)} (h : NamesE es) : es.Pairwise (fun p q => p.1 ≠ q.1) := by
  refine h.1.imp_of_mem (fun {a b} ha hb hab e => ?_)
  obtain ⟨s, _, e1⟩ := h.2 a ha
  rw [← e, e1] at hab
  have hab : bytesBefore s.data.toList s.data.toList = true := hab
  rw [WideAt.bytes_irrefl] at hab
  cases hab
def nameB (q : Lit × DataW Nat) : ByteArray := ⟨(keyB q.1).toArray⟩
theorem NamesE.name {es : List (Lit × DataW Nat)} (h : NamesE es) {q : Lit × DataW Nat} (hq : q ∈ es) : okN (nameB q) = true ∧ q.1 = .string (nameB q).data.toList ∧ encStr (_root_.Go.strOf q.1) = .string (nameB q) := by
  obtain ⟨s, h1, h2⟩ := h.2 q hq
  have e : nameB q = s := by
    unfold nameB
    rw [h2]
    show (⟨s.data.toList.toArray⟩ : ByteArray) = s
    cases s
    simp
  rw [e]
  refine ⟨h1, h2, ?_⟩
  rw [h2]
  exact enc_str s

/-- disk.sorted of any map of names. -/
theorem sorted_es {w : World} {mb m : Nat} {es : List (Lit × DataW Nat)} (h : w.ownsMap Try.prog 9 Rf mb m (.map es)) (hN : NamesE es) (hn : es.length ≤ 1000000) :
    Calls Try.prog 40 #[.map (some mb)] w fun e w' => ∃ a c, e = .returned (.slice a es.length c) ∧ (∀ (i : Nat) (q : Lit × DataW Nat), es[i]? = some q → ∃ g, a = some ⟨g, 0, none⟩ ∧ w'.cell? ⟨g, i, none⟩ = some (.string (nameB q)) ∧ w.heap.size ≤ g) ∧ Below w.heap.size w w' := by
  refine (sorted_any mb m _ Rf w h hn).mono fun e w' ⟨v, ss, he, hp, ho, _, hb⟩ => ?_
  have hsort : ss.mergeSort (fun x y => decide (x ≤ y)) = es.map (fun p => _root_.Go.strOf p.1) := (mergeSort_of_perm hp).trans (by
    refine List.mergeSort_of_pairwise ?_
    exact hN.lt.imp (fun {a b} hab => decide_eq_true (List.le_of_lt hab)))
  have hlen : ss.length = es.length := by rw [hp.length_eq]; show (es.map fun p => _root_.Go.strOf p.1).length = _; rw [List.length_map]
  rw [hsort, hlen] at ho
  rcases ho.2 with ⟨rfl, h0⟩ | ⟨g, c, cur, rfl, hbase, _⟩
  · refine ⟨none, 0, by rw [he, ← h0], fun i q hq => ?_, hb⟩
    have := (List.getElem?_eq_some_iff.1 hq).1
    omega
  · refine ⟨_, c, he, fun i q hq => ⟨g, rfl, ?_, hbase⟩, hb⟩
    have hi := (List.getElem?_eq_some_iff.1 hq).1
    rw [World.ownsRow.cellAt ho i (by omega), List.getElem?_map, List.getElem?_map, hq]
    show some (encStr (_root_.Go.strOf q.1)) = _
    rw [(hN.name (List.mem_of_getElem? hq)).2.2]

theorem sizeD_none {w : World} {B db sb nb N : Nat} {dm : DM} {mv : Value} {fs : List Nat} {fv : Nat → FV} (h : DiskIs w B db sb nb N dm mv fs fv) (hF : Files dm.seen) (s : ByteArray) {e0 : Nat} (hfm : findM dm.off dm.seen s = (none, e0)) :
    Calls Try.prog 30 #[.pointer (some ⟨db, 0, none⟩), .string s] w fun e w' => e = .returned (.tuple #[.int .i64 0, .int .i64 (e0 : Nat)]) ∧ w' = w := by
  have c4 : w.cell? ⟨db, 4, none⟩ = some (.bool dm.off) := h.row.cell (i := 4) (by decide)
  have c2 : w.cell? ⟨db, 2, none⟩ = some (.map (some nb)) := h.row.cell (i := 2) (by decide)
  have hfd := find_gen c4 c2 h.seen hF s
  rw [hfm] at hfd
  have hne : (((e0 : Nat) : Int) != 0) = true := by
    have := findM_none hfm
    simp only [bne_iff_ne, ne_eq]; omega
  have HFD : Hid (Calls Try.prog 50 #[.pointer (some ⟨db, 0, none⟩), .string s] w fun e w' => e = .returned (.tuple #[.pointer none, .int .i64 ((e0 : Nat) : Int)]) ∧ w' = w) := hfd
  clear h hfd hfm c4 c2
  go_enter Try.func30, Try.ntmps30
  go_wp2_with (go_at_call 50; refine HFD.out.mono ?_; rintro e w1 ⟨rfl, rfl⟩)
  go_ret2
  exact ⟨rfl, rfl⟩
theorem strokesD {w : World} {B db sb nb N : Nat} {dm : DM} {mv : Value} {fs : List Nat} {fv : Nat → FV} (h : DiskIs w B db sb nb N dm mv fs fv) :
    Calls Try.prog 27 #[.pointer (some ⟨db, 0, none⟩)] w fun e w' => e = .returned (.int .i64 (dm.st : Nat)) ∧ w' = w := by
  have c5 : w.cell? ⟨db, 5, none⟩ = some (.int .i64 (dm.st : Nat)) := h.row.cell (i := 5) (by decide)
  clear h
  generalize dm.st = S at *
  go_enter Try.func27, Try.ntmps27
  go_wp2_with fail
  go_ret
  exact ⟨rfl, rfl⟩
theorem roomD {w : World} {B db sb nb N : Nat} {dm : DM} {mv : Value} {fs : List Nat} {fv : Nat → FV} (h : DiskIs w B db sb nb N dm mv fs fv) :
    Calls Try.prog 19 #[.pointer (some ⟨db, 0, none⟩)] w fun e w' => e = .returned (.int .i64 (dm.room : Nat)) ∧ w' = w := by
  have c0 : w.cell? ⟨db, 0, none⟩ = some (.int .i64 (dm.room : Nat)) := h.row.cell (i := 0) (by decide)
  clear h
  generalize dm.room = S at *
  go_enter Try.func19, Try.ntmps19
  go_wp2_with fail
  go_ret
  exact ⟨rfl, rfl⟩
theorem listD {w : World} {B db sb nb N : Nat} {dm : DM} {mv : Value} {fs : List Nat} {fv : Nat → FV} (h : DiskIs w B db sb nb N dm mv fs fv) {es : List (Lit × DataW Nat)} (hes : dm.seen = .map es) (hN : NamesE es) (hn : es.length ≤ 1000000) (hoff : dm.off = false) :
    Calls Try.prog 29 #[.pointer (some ⟨db, 0, none⟩)] w fun e w' => ∃ a c, e = .returned (.tuple #[.slice a es.length c, .int .i64 0]) ∧ (∀ (i : Nat) (q : Lit × DataW Nat), es[i]? = some q → ∃ g, a = some ⟨g, 0, none⟩ ∧ w'.cell? ⟨g, i, none⟩ = some (.string (nameB q)) ∧ w.heap.size ≤ g) ∧ Below w.heap.size w w' := by
  have c4 : w.cell? ⟨db, 4, none⟩ = some (.bool dm.off) := h.row.cell (i := 4) (by decide)
  have c2 : w.cell? ⟨db, 2, none⟩ = some (.map (some nb)) := h.row.cell (i := 2) (by decide)
  rw [hoff] at c4
  have hD := h.seen
  rw [hes] at hD
  have hs := sorted_es hD hN hn
  clear h hD hN hn hes
  generalize es.length = L at *
  go_enter Try.func29, Try.ntmps29
  go_wp2_with fail
  refine hs.mono ?_
  rintro e w1 ⟨a, c, rfl, hc, hb⟩
  have HC : Hid _ := hc
  clear hs hc
  go_wp2_with fail
  go_ret2
  exact ⟨a, c, rfl, HC.out, hb⟩
theorem listD_off {w : World} {B db sb nb N : Nat} {dm : DM} {mv : Value} {fs : List Nat} {fv : Nat → FV} (h : DiskIs w B db sb nb N dm mv fs fv) (hoff : dm.off = true) :
    Calls Try.prog 29 #[.pointer (some ⟨db, 0, none⟩)] w fun e w' => e = .returned (.tuple #[.slice none 0 0, .int .i64 45]) ∧ w' = w := by
  have c4 : w.cell? ⟨db, 4, none⟩ = some (.bool dm.off) := h.row.cell (i := 4) (by decide)
  rw [hoff] at c4
  clear h
  go_enter Try.func29, Try.ntmps29
  go_wp2_with fail
  go_ret2
  exact ⟨rfl, rfl⟩
end Go.Proofs.Ytbnlgohaaadgeaa

/- Package disk: pick, Crash on any disk. -/
namespace Go.Proofs.Ytbnlgohaaadgeaa
open Go.RowKit Go.Maps Go.Sort Go.Shelf
set_option maxRecDepth 100000
set_option maxRecDepth 100000

/-- A list of numbers, as it lies in memory. -/
def PicksL (w : World) (a : Option Addr) (ps : List Int) : Prop := ∀ j, j < ps.length → ∃ b o, a = some ⟨b, o, none⟩ ∧ w.cell? ⟨b, o + j, none⟩ = some (.int .i64 (ps.getD j 0))
theorem PicksL.on {w w' : World} {a : Option Addr} {ps : List Int} (h : PicksL w a ps) (hb : Below w.heap.size w w') : PicksL w' a ps := fun j hj => by
  obtain ⟨b, o, e, hc⟩ := h j hj
  exact ⟨b, o, e, cel_on hb hc⟩
theorem pick_any (a : Option Addr) (c : Nat) (ps : List Int) (i ch : Nat) (w : World) (h : PicksL w a ps) (hch : ch ≤ 1099511627776) :
    Calls Try.prog 39 #[.slice a ps.length c, .int .i64 i, .int .i64 ch] w fun e w' => e = .returned (.int .i64 (pickM ps i ch : Nat)) ∧ w' = w := by
  by_cases hlt : ps.length ≤ i
  · have hz : ((ps.length : Nat) : Int) ≤ (i : Int) := by omega
    have e : pickM ps i ch = 0 := by unfold pickM; rw [List.getElem?_eq_none hlt]
    rw [e]
    clear h
    go_enter Try.func39, Try.ntmps39
    go_wp2_with fail
    go_ret
    exact ⟨rfl, rfl⟩
  · obtain ⟨b, o, rfl, hc⟩ := h i (by omega)
    have hz : ¬ ((ps.length : Nat) : Int) ≤ (i : Int) := by omega
    have hz2 : (i : Int) < ((ps.length : Nat) : Int) := by omega
    obtain ⟨p, hp⟩ : ∃ p, ps.getD i 0 = p := ⟨_, rfl⟩
    rw [hp] at hc
    have hpi : ps[i]? = some p := by
      rw [List.getElem?_eq_getElem (by omega), ← hp]
      simp [List.getD, List.getElem?_eq_getElem (show i < ps.length by omega)]
    obtain ⟨u, hu⟩ : ∃ u : Int, (ch : Int) + 1 = u := ⟨_, rfl⟩
    have hu0 : (0 : Int) < u := by omega
    have hune : (u == 0) = false := beq_eq_false_iff_ne.2 (by omega)
    have hun1 : (u == -1) = false := beq_eq_false_iff_ne.2 (by omega)
    have hwu : IntKind.i64.wrap u = u := by rw [IntKind.wrap_i64]; omega
    obtain ⟨r, hr⟩ : ∃ r, p.tmod u = r := ⟨_, rfl⟩
    have r1 := Int.tmod_lt_of_pos p hu0
    have r2 := Int.lt_tmod_of_pos p hu0
    rw [hr] at r1 r2
    have hwr : IntKind.i64.wrap r = r := by rw [IntKind.wrap_i64]; omega
    obtain ⟨s, hs⟩ : ∃ s : Int, r + u = s := ⟨_, rfl⟩
    have hws : IntKind.i64.wrap s = s := by rw [IntKind.wrap_i64]; omega
    obtain ⟨t, ht⟩ : ∃ t, s.tmod u = t := ⟨_, rfl⟩
    have t1 := Int.tmod_lt_of_pos s hu0
    have t2 : 0 ≤ s.tmod u := Int.tmod_nonneg u (by omega)
    rw [ht] at t1 t2
    have hwt : IntKind.i64.wrap t = t := by rw [IntKind.wrap_i64]; omega
    have e : ((pickM ps i ch : Nat) : Int) = t := by
      unfold pickM
      rw [hpi]
      show ((((p.tmod ((ch : Int) + 1) + ((ch : Int) + 1)).tmod ((ch : Int) + 1)).toNat : Nat) : Int) = t
      rw [hu, hr, hs, ht]
      omega
    rw [e]
    have hne : u ≠ 0 := by omega
    clear h e hpi hp r1 r2 t1 t2 hch hlt hu0
    go_enter Try.func39, Try.ntmps39
    go_wp2_with fail
    go_ret
    exact ⟨rfl, rfl⟩

/-- An image in memory. -/
def nmI (I : Image) (i : Nat) : ByteArray := ⟨((I.map (·.1)).getD i []).toArray⟩
def dtI (I : Image) (i : Nat) : List Nat := (I.map (·.2)).getD i []
def ImgI (w : World) (a : Option Addr) (I : Image) : Prop := Img w a I.length (nmI I) (fun i => (dtI I i).length) (fun i j => (dtI I i).getD j 0)
theorem nmI_at {I : Image} {i : Nat} {s : List UInt8} {l : List Nat} (h : I[i]? = some (s, l)) : nmI I i = ⟨s.toArray⟩ ∧ dtI I i = l := by
  unfold nmI dtI
  constructor
  · simp [List.getD, h]
  · simp [List.getD, h]
theorem ImgI.on {w w' : World} {a : Option Addr} {I : Image} (h : ImgI w a I) (hb : Below w.heap.size w w') : ImgI w' a I := Img.on h hb

/-- The image as it grows. -/
structure CrG (w wx : World) (gb cb N i : Nat) (es : List (Lit × DataW Nat)) (I : Image) : Prop where
  below : Below w.heap.size w wx
  map : wx.ownsMap Try.prog 9 Rf cb N (.map es)
  row : ∃ F, wx.rowIs gb 51 (es.length * 2) F
  done : ∀ k s l, k < i → I[k]? = some (s, l) → wx.cell? ⟨gb, k * 2, none⟩ = some (.string ⟨s.toArray⟩) ∧ ∃ v, wx.cell? ⟨gb, k * 2 + 1, none⟩ = some v ∧ OwnL wx w.heap.size v l ∧ v.ownBlock ≠ some gb
theorem CrG.on {w wx wy : World} {gb cb N i : Nat} {es : List (Lit × DataW Nat)} {I : Image} (h : CrG w wx gb cb N i es I) (hb : Below wx.heap.size wx wy) : CrG w wy gb cb N i es I := by
  obtain ⟨F, hF⟩ := h.row
  refine ⟨h.below.trans (hb.mono h.below.size), map_on h.map hb, ⟨F, hF.of_block (hb.block _ hF.lt)⟩, fun k s l hk hI => ?_⟩
  obtain ⟨h1, v, h2, h3, h4⟩ := h.done k s l hk hI
  exact ⟨cel_on hb h1, v, cel_on hb h2, h3.on (fun k e => hb.block k (h3.lt k e).2), h4⟩
theorem CrG.store {w wx : World} {gb cb N i : Nat} {es : List (Lit × DataW Nat)} {I : Image} (h : CrG w wx gb cb N i es I) (hgb : w.heap.size ≤ gb) {v : Value} {s : List UInt8} {l : List Nat} (hv : OwnL wx w.heap.size v l) (hne : v.ownBlock ≠ some gb) (hI : I[i]? = some (s, l)) (hi : i < es.length) :
    CrG w ((wx.setCell ⟨gb, i * 2, none⟩ (.string ⟨s.toArray⟩)).setCell ⟨gb, i * 2 + 1, none⟩ v) gb cb N (i + 1) es I := by
  obtain ⟨F, hF⟩ := h.row
  have r1 := hF.set (i * 2) (.string ⟨s.toArray⟩)
  have r2 := r1.set (i * 2 + 1) v
  have hset : ∀ b, b ≠ gb → ((wx.setCell ⟨gb, i * 2, none⟩ (.string ⟨s.toArray⟩)).setCell ⟨gb, i * 2 + 1, none⟩ v).heap[b]? = wx.heap[b]? := fun b hb => (Below.heap_setCell _ _ _ _ hb).trans (Below.heap_setCell _ _ _ _ hb)
  have hown : ∀ v' l', OwnL wx w.heap.size v' l' → v'.ownBlock ≠ some gb → OwnL ((wx.setCell ⟨gb, i * 2, none⟩ (.string ⟨s.toArray⟩)).setCell ⟨gb, i * 2 + 1, none⟩ v) w.heap.size v' l' := fun v' l' ho hn => ho.on (fun k e => hset k (fun e2 => hn (e2 ▸ e)))
  refine ⟨(h.below.setCell hgb _).setCell hgb _, ?_, ⟨_, r2⟩, fun k s' l' hk hI' => ?_⟩
  · have hm := h.map
    obtain ⟨es', clock, hx, Ft, hs, hD⟩ := hm
    have hne : cb ≠ gb := by
      rintro rfl
      obtain ⟨c, hc, _⟩ := hF
      rw [hx] at hc
      cases hc
    exact ⟨es', clock, (hset cb hne).trans hx, Ft, hs, hD⟩
  · by_cases e : k = i
    · subst e
      rw [hI] at hI'
      obtain ⟨rfl, rfl⟩ : s = s' ∧ l = l' := by simpa using hI'
      refine ⟨?_, v, ?_, hown v l hv hne, hne⟩
      · rw [r2.cell (i := k * 2) (by omega)]
        simp
      · rw [r2.cell (i := k * 2 + 1) (by omega)]
        simp
    · obtain ⟨h1, v', h2, h3, h4⟩ := h.done k s' l' (by omega) hI'
      have hkl : k < es.length := by omega
      rw [hF.cell (i := k * 2) (by omega)] at h1
      rw [hF.cell (i := k * 2 + 1) (by omega)] at h2
      refine ⟨?_, v', ?_, hown v' l' h3 h4, h4⟩
      · rw [r2.cell (i := k * 2) (by omega), if_neg (by omega), if_neg (by omega)]
        exact h1
      · rw [r2.cell (i := k * 2 + 1) (by omega), if_neg (by omega), if_neg (by omega)]
        exact h2
theorem CrG.lies {w wx : World} {gb cb N : Nat} {es : List (Lit × DataW Nat)} {I : Image} (h : CrG w wx gb cb N es.length es I) (hgb : w.heap.size ≤ gb) (hl : I.length = es.length) : Lies w.heap.size wx.heap.size wx (fun W => ImgI W (some ⟨gb, 0, none⟩) I) := by
  refine ⟨Nat.le_refl _, fun W hW i hi => ?_⟩
  obtain ⟨q, hq⟩ : ∃ q, I[i]? = some q := ⟨_, List.getElem?_eq_getElem hi⟩
  obtain ⟨s, l⟩ := q
  obtain ⟨h1, v, h2, h3, h4⟩ := h.done i s l (by omega) hq
  obtain ⟨e1, e2⟩ := nmI_at hq
  have hc : ∀ j x, wx.cell? ⟨gb, j, none⟩ = some x → W.cell? ⟨gb, j, none⟩ = some x := fun j x hx => by
    rw [World.cell?_of_block (a := ⟨gb, j, none⟩) (hW gb hgb (World.block_lt_of_cell? _ _ hx))]
    exact hx
  have h3' : OwnL W w.heap.size v l := h3.on (fun k e => hW k (h3.lt k e).1 (h3.lt k e).2)
  obtain ⟨a', c', ev, _, hbl, _⟩ := h3'.bl
  refine ⟨gb, 0, rfl, ?_, a', c', ?_, ?_⟩
  · rw [Nat.zero_add, e1]; exact hc _ _ h1
  · show W.cell? ⟨gb, 0 + i * 2 + 1, none⟩ = some (.slice a' (dtI I i).length c')
    rw [Nat.zero_add, e2, ← ev]; exact hc _ _ h2
  · show Byt W a' (dtI I i).length (fun j => (dtI I i).getD j 0)
    rw [e2]; exact hbl

set_option maxHeartbeats 3200000 in
theorem crash_gen {w : World} {B db sb nb N : Nat} {dm : DM} {mv : Value} {fs : List Nat} {fv : Nat → FV} (h : DiskIs w B db sb nb N dm mv fs fv) (hok : ∀ (i : Nat) (m : Mov), dm.ms[i]? = some m → m.ok) (hN : N + dm.ms.length ≤ 1099511627776) (ps : List Int) (pa : Option Addr) (pc : Nat) (hp : PicksL w pa ps) {es : List (Lit × DataW Nat)} (hes : movesOn dm.safe (dm.ms.take (pickM ps 0 dm.ms.length)) = .map es) (hnm : NamesE es) (hlen : es.length ≤ 64)
    (hfl : ∀ q ∈ es, ∃ fb, q.2 = .held fb ∧ fb ∈ fs ∧ (dm.fm fb).fit ∧ unitsM (dm.fm fb).chs ≤ 1099511627776) :
    Calls Try.prog 12 #[.pointer (some ⟨db, 0, none⟩), .slice pa ps.length pc] w fun e w' => ∃ g, e = .returned (.slice (some ⟨g, 0, none⟩) es.length es.length) ∧ Lies w.heap.size w'.heap.size w' (fun W => ImgI W (some ⟨g, 0, none⟩) (es.mapIdx (fun i q => (keyB q.1, leftB (fileOf dm.fm q.2) ps i)))) ∧ Below w.heap.size w w' := by
  have c3 : w.cell? ⟨db, 3, none⟩ = some mv := h.row.cell (i := 3) (by decide)
  obtain ⟨ma, mc, emv⟩ : ∃ a c, mv = .slice a dm.ms.length c := by
    rcases h.mow.2 with ⟨e, h0⟩ | ⟨g, cc, cur, e, _⟩
    · exact ⟨none, 0, by rw [e]; have h0 : dm.ms.length = 0 := h0; rw [h0]⟩
    · exact ⟨_, cc, e⟩
  have HP : Hid (∀ W i ch, Below w.heap.size w W → ch ≤ 1099511627776 → Calls Try.prog 39 #[.slice pa ps.length pc, .int .i64 ((i : Nat) : Int), .int .i64 ((ch : Nat) : Int)] W fun e w' => e = .returned (.int .i64 (pickM ps i ch : Nat)) ∧ w' = W) := fun W i ch hb hc => pick_any pa pc ps i ch W (hp.on hb) hc
  have HP0 : Hid (∀ W, Below w.heap.size w W → Calls Try.prog 39 #[.slice pa ps.length pc, .int .i64 0, .int .i64 ((dm.ms.length : Nat) : Int)] W fun e w' => e = .returned (.int .i64 (pickM ps 0 dm.ms.length : Nat)) ∧ w' = W) := fun W hb => pick_any pa pc ps 0 _ W (hp.on hb) (by omega)
  have hk := pickM_le ps 0 dm.ms.length
  have HA : Hid (∀ W, Below w.heap.size w W → Calls Try.prog 38 #[.pointer (some ⟨db, 1, none⟩), .int .i64 (pickM ps 0 dm.ms.length : Nat)] W fun e w' => ∃ cb, e = .returned (.map (some cb)) ∧ w'.ownsMap Try.prog 9 Rf cb (N + dm.ms.length) (.map es) ∧ Below W.heap.size W w') := fun W hb => by
    have hW := h.on hb
    refine (namesAfterK hW.row (by decide) rfl rfl hW.mow hW.safe hN hok (pickM ps 0 dm.ms.length) hk).mono fun e w' ⟨cb, he, hm, _, hbb⟩ => ⟨cb, he, ?_, hbb⟩
    rw [hes] at hm
    exact map_wide hm (by omega)
  have HF : Hid (∀ W q, Below w.heap.size w W → q ∈ es → ∃ fb, q.2 = .held fb ∧ Calls Try.prog 42 #[.pointer (some ⟨fb, 0, none⟩)] W (fun e w' => e = .returned (.int .i64 (unitsM (fileOf dm.fm q.2).chs : Nat)) ∧ Below W.heap.size W w') ∧ unitsM (fileOf dm.fm q.2).chs ≤ 1099511627776 ∧ ∀ n, n ≤ 1099511627776 → Calls Try.prog 41 #[.pointer (some ⟨fb, 0, none⟩), .int .i64 (n : Nat)] W (fun e w' => ∃ v, e = .returned v ∧ OwnL w' W.heap.size v (aftM (fileOf dm.fm q.2).safe (fileOf dm.fm q.2).chs n) ∧ Below W.heap.size W w')) := fun W q hb hq => by
    obtain ⟨fb, e, hf, hfit, hU⟩ := hfl q hq
    have hFi := (h.files fb hf).on hb
    have ef : fileOf dm.fm q.2 = dm.fm fb := by rw [e]; rfl
    rw [ef]
    obtain ⟨q1, q2, q3, q4⟩ := hfit
    refine ⟨fb, e, units_any hFi hU, hU, fun n hn => ?_⟩
    exact after_any hFi q1 q2 q3 n (by omega)
  have HI : Hid (NamesE es) := hnm
  obtain ⟨I, HIm⟩ : ∃ I, Hid (es.mapIdx (fun i q => (keyB q.1, leftB (fileOf dm.fm q.2) ps i)) = I) := ⟨_, rfl⟩
  have HIl : Hid (I.length = es.length) := by rw [← HIm.out]; exact List.length_mapIdx
  have HIa : Hid (∀ i q, es[i]? = some q → I[i]? = some (keyB q.1, leftB (fileOf dm.fm q.2) ps i)) := fun i q hq => by
    rw [← HIm.out, List.getElem?_mapIdx, hq]
    rfl
  rw [HIm.out]
  clear h hp hnm hok hfl hes hk HIm
  subst emv
  generalize pickM ps 0 dm.ms.length = K at *
  generalize dm.ms.length = ML at *
  have b0 : Below w.heap.size w w := Below.refl _ _
  have b0d : Below w.heap.size w w.drew := (Below.refl _ _).drew
  go_enter Try.func12, Try.ntmps12
  go_upto_region 1 with fail
  go_region_held3 (fun W => W.cell? ⟨db, 3, none⟩ = some (.slice ma ML mc))
    (first | exact c3 | exact cel_on hbA c3)
    (first
      | (go_at_call 39; refine (HP0.out _ (by first | exact b0 | exact b0d)).mono ?_; rintro e w1 ⟨rfl, rfl⟩)
      | (go_at_call 38; refine (HA.out _ (by first | exact b0 | exact b0d)).mono ?_; rintro e w2 ⟨cb, rfl, hmp, hbA⟩))
  all_goals
    have hb2 : Below w.heap.size w w2 := b0d.trans hbA
    have hlen2 := hmp.len Try.underlying74 3
    rw [size_eq] at hlen2
    obtain ⟨W3, hmk, hb3, hrow, hz3⟩ := made_fb w2 es.length (by omega)
    have hmk' := hmk .i64 .i64
    have hmp3 := map_on hmp hb3
    have HSO : Hid (Calls Try.prog 40 #[.map (some cb)] W3 fun e w' => ∃ a c, e = .returned (.slice a es.length c) ∧ (∀ (i : Nat) (q : Lit × DataW Nat), es[i]? = some q → ∃ g, a = some ⟨g, 0, none⟩ ∧ w'.cell? ⟨g, i, none⟩ = some (.string (nameB q)) ∧ W3.heap.size ≤ g) ∧ Below W3.heap.size W3 w') := sorted_es hmp3 HI.out (by omega)
    have hC0 : CrG w W3 w2.heap.size cb (N + ML) 0 es I := ⟨hb2.trans (hb3.mono hb2.size), hmp3, hrow, fun k _ _ hk => absurd hk (Nat.not_lt_zero _)⟩
    have HG : Hid (w.heap.size ≤ w2.heap.size ∧ w2.heap.size < W3.heap.size) := ⟨hb2.size, by omega⟩
    clear hmk hmp hmp3 hrow hz3 hb3 hb2 hbA c3
    obtain ⟨n, hn⟩ : ∃ n, es.length = n := ⟨_, rfl⟩
    rw [hn] at hmk' HSO hlen2
    go_wp2_with fail
    refine HSO.out.mono ?_
    rintro e w4 ⟨a, c, rfl, hnames, hb4⟩
    have hC4 := hC0.on hb4
    have HG4 : Hid (w.heap.size ≤ w2.heap.size ∧ w2.heap.size < w4.heap.size) := ⟨HG.out.1, Nat.lt_of_lt_of_le HG.out.2 hb4.size⟩
    have HN : Hid (∀ (i : Nat) (q : Lit × DataW Nat), es[i]? = some q → ∃ g, a = some ⟨g, 0, none⟩ ∧ w4.cell? ⟨g, i, none⟩ = some (.string (nameB q)) ∧ g ≠ w2.heap.size) := fun i q hi => by
      obtain ⟨g, e, hc, hge⟩ := hnames i q hi
      exact ⟨g, e, hc, by have := HG.out.2; omega⟩
    clear HSO hC0 hnames HG hmk' hlen2
    generalize w2.heap.size = gb at *
    go_wp2_with fail
    go_loopg [28] n (fun q s28 wx => ∃ (i : Nat), i ≤ n ∧ q = n - i ∧ s28 = .int .i64 i ∧ CrG w wx gb cb (N + ML) i es I ∧ gb < wx.heap.size ∧ ∀ (i : Nat) (q : Lit × DataW Nat), es[i]? = some q → ∃ g, a = some ⟨g, 0, none⟩ ∧ wx.cell? ⟨g, i, none⟩ = some (.string (nameB q)) ∧ g ≠ gb)
    case atStart => exact ⟨0, Nat.zero_le _, rfl, rfl, hC4, HG4.out.2, HN.out⟩
    case round =>
      obtain ⟨i, hi, rfl, rfl, hC, hgl, hnm⟩ := hrel
      have HNM : Hid (∀ (i : Nat) (q : Lit × DataW Nat), es[i]? = some q → ∃ g, a = some ⟨g, 0, none⟩ ∧ wr.cell? ⟨g, i, none⟩ = some (.string (nameB q)) ∧ g ≠ gb) := hnm
      have hgb := HG4.out.1
      clear hnm hC4 HN HG4
      by_cases hlt : i < n
      · have hz : (i : Int) < (n : Int) := by omega
        obtain ⟨q, hq⟩ : ∃ q, es[i]? = some q := ⟨_, List.getElem?_eq_getElem (by omega)⟩
        obtain ⟨g, rfl, hcn, hgn⟩ := HNM.out i q hq
        have hqm := List.mem_of_getElem? hq
        obtain ⟨fb, e2, hu, hUle, haf⟩ := HF.out wr q hC.below hqm
        obtain ⟨ok1, ok2, _⟩ := HI.out.name hqm
        have hat : (DataW.map es).atKey (.string (nameB q).data.toList) .nil = .held fb := by
          rw [← ok2, ← e2]
          refine WideAt.atKey_mem .nil ?_ HI.out.apart hqm
          rw [ok2]; exact litS _
        obtain ⟨v, vps, hlk, hR⟩ := hC.map.lookup strK Try.underlying74 (z := .pointer none) (Try.zeroValue85 wr) (zd := .nil) (zp := []) rfl (key_str (nameB q) (by have := (okN_size ok1).2; omega))
        rw [hat] at hR
        have ev := Rf_inv hR
        subst ev
        have hpk := HP.out wr (i + 1) (unitsM (fileOf dm.fm q.2).chs) hC.below hUle
        have hkle := pickM_le ps (i + 1) (unitsM (fileOf dm.fm q.2).chs)
        have hIq := HIa.out i q hq
        unfold leftB at hIq
        have HAF : Hid (∀ W, Below wr.heap.size wr W → Calls Try.prog 41 #[.pointer (some ⟨fb, 0, none⟩), .int .i64 (pickM ps (i + 1) (unitsM (fileOf dm.fm q.2).chs) : Nat)] W (fun e w' => ∃ v, e = .returned v ∧ OwnL w' W.heap.size v (aftM (fileOf dm.fm q.2).safe (fileOf dm.fm q.2).chs (pickM ps (i + 1) (unitsM (fileOf dm.fm q.2).chs))) ∧ Below W.heap.size W w')) := fun W hb => by
          obtain ⟨fb', e2', _, _, haf'⟩ := HF.out W q (hC.below.trans (hb.mono hC.below.size)) hqm
          have : fb' = fb := by rw [e2] at e2'; injection e2' with q; exact q.symm
          rw [← this]
          exact haf' _ (by omega)
        have HPK : Hid (∀ W, Below wr.heap.size wr W → Calls Try.prog 39 #[.slice pa ps.length pc, .int .i64 ((i : Int) + 1), .int .i64 ((unitsM (fileOf dm.fm q.2).chs : Nat) : Int)] W fun e w' => e = .returned (.int .i64 (pickM ps (i + 1) (unitsM (fileOf dm.fm q.2).chs) : Nat)) ∧ w' = W) := fun W hb => by
          have := HP.out W (i + 1) (unitsM (fileOf dm.fm q.2).chs) (hC.below.trans (hb.mono hC.below.size)) hUle
          have hcast : ((i + 1 : Nat) : Int) = (i : Int) + 1 := by omega
          rwa [hcast] at this
        have HU : Hid (Calls Try.prog 42 #[.pointer (some ⟨fb, 0, none⟩)] wr (fun e w' => e = .returned (.int .i64 (unitsM (fileOf dm.fm q.2).chs : Nat)) ∧ Below wr.heap.size wr w')) := hu
        have hwi : IntKind.i64.wrap ((i : Int) + 1) = (i : Int) + 1 := by rw [IntKind.wrap_i64]; omega
        clear hpk haf hu hkle hUle hat hR HF
        generalize aftM (fileOf dm.fm q.2).safe (fileOf dm.fm q.2).chs (pickM ps (i + 1) (unitsM (fileOf dm.fm q.2).chs)) = L at *
        generalize pickM ps (i + 1) (unitsM (fileOf dm.fm q.2).chs) = K1 at *
        generalize unitsM (fileOf dm.fm q.2).chs = U1 at *
        have HIQ : Hid (I[i]? = some (keyB q.1, L)) := hIq
        clear ok1 ok2 hq e2 hqm hIq
        go_wp2_with fail
        refine HU.out.mono ?_
        rintro e w5 ⟨rfl, hb5⟩
        clear HU hlk
        go_wp2_with fail
        refine (HPK.out w5 hb5).mono ?_
        rintro e w5' ⟨rfl, rfl⟩
        clear HPK
        go_wp2_with fail
        refine (HAF.out _ hb5).mono ?_
        rintro e w6 ⟨v6, rfl, ho6, hb6⟩
        clear HAF hcn
        have hbb := hb5.trans (hb6.mono hb5.size)
        have hC6 := hC.on hbb
        have ho6' : OwnL w6 w.heap.size v6 L := by
          refine ⟨ho6.1, ?_⟩
          have hz5 : w.heap.size ≤ w5'.heap.size := Nat.le_trans hC.below.size hb5.size
          rcases ho6.2 with q | ⟨g', cap, cur, e1, e2, e3⟩
          · exact .inl q
          · exact .inr ⟨g', cap, cur, e1, Nat.le_trans hz5 e2, e3⟩
        have hne6 : v6.ownBlock ≠ some gb := fun e => by
          have := (ho6.lt gb e).1
          have := hb5.size
          omega
        have hst := hC6.store hgb ho6' hne6 HIQ.out (by omega)
        obtain ⟨F, hF2⟩ := hC.row
        rw [hn] at hF2
        have hF6 := hF2.of_block (hbb.block _ hF2.lt)
        have k0 := hF6.cell (i := i * 2) (by omega)
        have f0 := hF6.frozen (i * 2)
        have hF7 := hF6.set (i * 2) (.string (nameB q))
        have k1 := hF7.cell (i := i * 2 + 1) (by omega)
        have f1 := hF7.frozen (i * 2 + 1)
        rw [if_neg (by omega)] at k1
        have hgl6 : gb < w6.heap.size := Nat.lt_of_lt_of_le hgl hbb.size
        obtain ⟨a6, c6, ev6, _, _, _⟩ := ho6.bl
        have HNM6 : Hid (∀ (j : Nat) (p : Lit × DataW Nat), es[j]? = some p → ∃ g', (some ⟨g, 0, none⟩ : Option Addr) = some ⟨g', 0, none⟩ ∧ ((w6.setCell ⟨gb, i * 2, none⟩ (.string (nameB q))).setCell ⟨gb, i * 2 + 1, none⟩ v6).cell? ⟨g', j, none⟩ = some (.string (nameB p)) ∧ g' ≠ gb) := fun j p hj => by
          obtain ⟨g', e, hc', hne⟩ := HNM.out j p hj
          refine ⟨g', e, ?_, hne⟩
          rw [World.cell?_of_block (a := ⟨g', j, none⟩) ((Below.heap_setCell _ _ _ _ hne).trans (Below.heap_setCell _ _ _ _ hne))]
          exact cel_on hbb hc'
        have HST : Hid (CrG w ((w6.setCell ⟨gb, i * 2, none⟩ (.string (nameB q))).setCell ⟨gb, i * 2 + 1, none⟩ v6) gb cb (N + ML) (i + 1) es I) := hst
        clear HNM hC6 hC hb6 hbb hb5 hF2 hF6 hF7 ho6 ho6' hne6 hst HIQ
        subst ev6
        generalize nameB q = s at *
        go_wp2_with fail
        go_roundg (n - (i + 1))
        case measure => go_light; omega
        case rel => go_light; exact ⟨i + 1, by omega, rfl, by simp, HST.out, by simpa [World.setCell] using hgl6, HNM6.out⟩
      · obtain rfl : i = n := by omega
        have HFIN : Hid (Lies w.heap.size wr.heap.size wr (fun W => ImgI W (some ⟨gb, 0, none⟩) I) ∧ Below w.heap.size w wr) := by
          have hC' := hC
          rw [← hn] at hC'
          exact ⟨hC'.lies hgb HIl.out, hC.below⟩
        clear hC HNM
        have hz : ¬ ((i : Int) < (i : Int)) := by omega
        go_wp2_with fail
        go_ret
        exact ⟨gb, rfl, HFIN.out.1, HFIN.out.2⟩
end Go.Proofs.Ytbnlgohaaadgeaa

/- Package disk: Append. -/
namespace Go.Proofs.Ytbnlgohaaadgeaa
open Go.RowKit Go.Maps Go.Sort
set_option maxRecDepth 100000
set_option maxRecDepth 100000

theorem or_any {w : World} {g : Nat} {e : Nat} (c0 : w.cell? ⟨g, 0, none⟩ = some (.int .i64 (e : Nat))) (c1 : w.cell? ⟨g, 1, none⟩ = some (.int .i64 44)) :
    Calls Try.prog 54 #[.slice (some ⟨g, 0, none⟩) 2 2] w fun r w' => r = .returned (.int .i64 (orE e : Nat)) ∧ w' = w := by
  by_cases h : e = 0
  · subst h
    have er : ((orE 0 : Nat) : Int) = 44 := rfl
    rw [er]
    clear er
    go_enter Try.func54, Try.ntmps54
    go_wp2_with fail
    go_loopg [8] 2 (fun q s8 wx => (q = 2 ∧ s8 = .int .i64 0 ∧ w = wx) ∨ (q = 1 ∧ s8 = .int .i64 1 ∧ w = wx))
    case atStart => exact .inl ⟨rfl, rfl, rfl⟩
    case round =>
      rcases hrel with ⟨rfl, rfl, rfl⟩ | ⟨rfl, rfl, rfl⟩
      · go_wp2_with fail
        go_roundg 1
        case measure => go_light; omega
        case rel => go_light; exact .inr ⟨rfl, rfl, rfl⟩
      · go_wp2_with fail
        go_ret
        exact ⟨rfl, rfl⟩
  · have er : orE e = e := if_neg h
    rw [er]
    have hne : (((e : Nat) : Int) != 0) = true := by simp only [bne_iff_ne, ne_eq]; omega
    clear er
    go_enter Try.func54, Try.ntmps54
    go_wp2_with fail
    go_loopg [8] 1 (fun q s8 wx => q = 1 ∧ s8 = .int .i64 0 ∧ w = wx)
    case atStart => exact ⟨rfl, rfl, rfl⟩
    case round =>
      obtain ⟨rfl, rfl, rfl⟩ := hrel
      go_wp2_with fail
      go_ret
      exact ⟨rfl, rfl⟩

theorem hitB_err (dm : DM) : ((strokeE dm : Nat) : Int) = 0 ∨ ((strokeE dm : Nat) : Int) = 45 := by
  rcases strokeE_cases dm with h | h <;> rw [h]
  · exact .inl rfl
  · exact .inr rfl

set_option maxHeartbeats 6400000 in
theorem append_any {w : World} {B db sb nb N : Nat} {dm : DM} {mv : Value} {fs : List Nat} {fv : Nat → FV} (h : DiskIs w B db sb nb N dm mv fs fv) (hF : Files dm.seen) (hled : ∀ s b, (findM dm.off dm.seen s).1 = some b → b ∈ fs ∧ (dm.fm b).fit) (hes : ∀ es, dm.seen = .map es → ∀ p ∈ es, ∃ fb, p.2 = .held fb ∧ fb ∈ fs) (hN : N ≤ 1099511627776) (hk : dm.ms.length ≤ 1099511627776) (hs : dm.st < 1152921504606846975) (ha : dm.ah ≤ dm.st) (hroom : dm.room ≤ 1099511627776) (hused : usedM dm ≤ 1099511627776) (s : ByteArray) (a : Option Addr) (c : Nat) (l : List Nat) (hl : l.length ≤ 1099511627776) (hb : BL w a l) (hnil : a = none → l.length = 0 ∧ c = 0) (hfr : ∀ ad, a = some ad → 0 < l.length → ad.block < w.heap.size ∧ ¬ DFt db sb nb dm mv fs fv ad.block) :
    Calls Try.prog 32 #[.pointer (some ⟨db, 0, none⟩), .string s, .slice a l.length c] w fun e w' => ∃ fb, w.heap.size ≤ fb ∧ e = .returned (.int .i64 ((appD dm s l fb).2 : Nat)) ∧ ∃ mv' N' fs' fv', N' ≤ N + 1 ∧ DiskIs w' B db sb nb N' (appD dm s l fb).1 mv' fs' fv' ∧ Mv (DFt db sb nb dm mv fs fv) (DFt db sb nb (appD dm s l fb).1 mv' fs' fv') w w' ∧ (if madeM dm s l then fs' = fb :: fs else fs' = fs) := by
  have c4 : w.cell? ⟨db, 4, none⟩ = some (.bool dm.off) := h.row.cell (i := 4) (by decide)
  have c2 : w.cell? ⟨db, 2, none⟩ = some (.map (some nb)) := h.row.cell (i := 2) (by decide)
  have hfd := find_gen c4 c2 h.seen hF s
  have hfl := hled s
  have hmlen := h.seen.len Try.underlying74 3
  obtain ⟨S1, HS1⟩ : ∃ S1 : World → Prop, Hid (∀ W, S1 W ↔ (DiskIs W B db sb nb N (strokeM dm) mv fs fv ∧ Mv (DFt db sb nb dm mv fs fv) (DFt db sb nb (strokeM dm) mv fs fv) w W)) := ⟨_, fun _ => Iff.rfl⟩
  have HS1d : Hid (∀ W j, S1 W → S1 (W.drewN j)) := fun W j hW => by
    obtain ⟨q1, q2⟩ := (HS1.out W).1 hW
    have hbb : Below W.heap.size W (W.drewN j) := ⟨rfl, rfl, rfl, Nat.le_refl _, fun _ _ => rfl⟩
    exact (HS1.out _).2 ⟨q1.on hbb, q2.trans (Mv.of_below hbb)⟩
  have HS1b : Hid (∀ W W', S1 W → Below W.heap.size W W' → S1 W') := fun W W' hW hbb => by
    obtain ⟨q1, q2⟩ := (HS1.out W).1 hW
    exact (HS1.out _).2 ⟨q1.on hbb, q2.trans (Mv.of_below hbb)⟩
  have HST : Hid (Calls Try.prog 51 #[.pointer (some ⟨db, 4, none⟩)] w fun e w' => e = .returned (.int .i64 (strokeE dm : Nat)) ∧ S1 w') := (stroke_disk h (by omega) ha).mono fun e w' ⟨he, q1, q2⟩ => ⟨he, (HS1.out _).2 ⟨q1, q2⟩⟩
  have HFU : Hid (∀ W, S1 W → Calls Try.prog 52 #[.pointer (some ⟨db, 4, none⟩)] W fun e w' => e = .returned (.bool (fullB (strokeM dm).st (strokeM dm).ah (strokeM dm).pf (strokeM dm).pt)) ∧ S1 w') := fun W hW => by
    obtain ⟨q1, q2⟩ := (HS1.out W).1 hW
    refine (isFull_disk q1 (by show dm.st + 1 ≤ _; omega) (by show dm.ah ≤ dm.st + 1; omega)).mono fun e w' ⟨he, j, hj⟩ => ⟨he, ?_⟩
    rw [hj]
    exact HS1d.out W j hW
  have HRO : Hid (∀ W, S1 W → Calls Try.prog 53 #[.pointer (some ⟨db, 0, none⟩), .int .i64 (l.length : Nat)] W fun e w' => e = .returned (.bool (decide (l.length + usedM (strokeM dm) ≤ (strokeM dm).room))) ∧ S1 w') := fun W hW => by
    obtain ⟨q1, q2⟩ := (HS1.out W).1 hW
    exact (hasRoom_disk q1 hes hroom hused l.length).mono fun e w' ⟨he, hbb⟩ => ⟨he, HS1b.out W w' hW hbb⟩
  have HOR : Hid (∀ W, S1 W → Calls Try.prog 54 #[.slice (some ⟨W.heap.size, 0, none⟩) 2 2] (W.alloc (.cells #[.int .i64 (strokeE dm : Nat), .int .i64 44] 38)) fun e w' => e = .returned (.int .i64 (orE (strokeE dm) : Nat)) ∧ S1 w') := fun W hW => by
    refine (or_any (World.cell?_alloc_at (w := W) _ _ _ 0 rfl) (World.cell?_alloc_at (w := W) _ _ _ 1 rfl)).mono fun e w' ⟨he, hw⟩ => ⟨he, ?_⟩
    rw [hw]
    exact HS1b.out W _ hW ((Below.refl _ _).alloc (Nat.le_refl _) _)
  have HBL : Hid (∀ F' W, Mv (DFt db sb nb dm mv fs fv) F' w W → BL W a l ∧ ∀ ad, a = some ad → 0 < l.length → ad.block < w.heap.size ∧ ¬ F' ad.block) := fun F' W q2 => by
    refine ⟨fun j hj => ?_, fun ad e h0 => ⟨(hfr ad e h0).1, fun hd => ?_⟩⟩
    · obtain ⟨b', o', e', hc'⟩ := hb j hj
      obtain ⟨r1, r2⟩ := hfr _ e' (Nat.lt_of_le_of_lt (Nat.zero_le _) hj)
      exact ⟨b', o', e', by rw [World.cell?_of_block (a := ⟨b', o' + j, none⟩) (q2.block _ r1 r2)]; exact hc'⟩
    · rcases q2.foot _ hd with r | r
      · exact (hfr ad e h0).2 r
      · have := (hfr ad e h0).1; omega
  obtain ⟨o, e0, hfm⟩ : ∃ o e0, findM dm.off dm.seen s = (o, e0) := ⟨_, _, rfl⟩
  have hmade : madeM dm s l = (decide ((o, e0) = ((none : Option Nat), 42)) && !decide (64 ≤ size dm.seen) && !fullM (strokeM dm) l.length) := by unfold madeM; rw [hfm]
  have hapd : ∀ fb, appD dm s l fb = (match (o, e0) with
    | (some b, _) => if fullM (strokeM dm) l.length then (strokeM dm, orE (strokeE dm)) else ({ strokeM dm with fm := put1 dm.fm b (addM (dm.fm b) l) }, strokeE dm)
    | (none, e) => if e = 42 then (if 64 ≤ size dm.seen then (dm, 41) else if fullM (strokeM dm) l.length then (strokeM dm, orE (strokeE dm)) else
      ({ changeM (strokeM dm) ⟨some fb, ⟨#[]⟩, s⟩ with fm := put1 dm.fm fb (addM m0 l) }, strokeE dm)) else (dm, e)) := fun fb => by
    unfold appD
    rw [hfm]
    cases o <;> rfl
  rw [hfm] at hfd hfl
  have hfullE : fullM (strokeM dm) l.length = (fullB (strokeM dm).st (strokeM dm).ah (strokeM dm).pf (strokeM dm).pt || !decide (l.length + usedM (strokeM dm) ≤ (strokeM dm).room)) := rfl
  -- nothing but the stroke
  have HFULL : Hid ((∀ fb, appD dm s l fb = (strokeM dm, orE (strokeE dm))) → madeM dm s l = false → Calls Try.prog 32 #[.pointer (some ⟨db, 0, none⟩), .string s, .slice a l.length c] w (fun e w' => e = .returned (.int .i64 (orE (strokeE dm) : Nat)) ∧ S1 w') → Calls Try.prog 32 #[.pointer (some ⟨db, 0, none⟩), .string s, .slice a l.length c] w fun e w' => ∃ fb, w.heap.size ≤ fb ∧ e = .returned (.int .i64 ((appD dm s l fb).2 : Nat)) ∧ ∃ mv' N' fs' fv', N' ≤ N + 1 ∧ DiskIs w' B db sb nb N' (appD dm s l fb).1 mv' fs' fv' ∧ Mv (DFt db sb nb dm mv fs fv) (DFt db sb nb (appD dm s l fb).1 mv' fs' fv') w w' ∧ (if madeM dm s l then fs' = fb :: fs else fs' = fs)) := fun h1 h2 h3 => h3.mono fun e w' ⟨he, hW⟩ => by
    obtain ⟨q1, q2⟩ := (HS1.out w').1 hW
    refine ⟨w.heap.size, Nat.le_refl _, ?_, mv, N, fs, fv, Nat.le_succ N, ?_, ?_, ?_⟩
    · rw [h1]; exact he
    · rw [h1]; exact q1
    · rw [h1]; exact q2
    · rw [h2]; rfl
  have HSAME : Hid (∀ E : Nat, (∀ fb, appD dm s l fb = (dm, E)) → madeM dm s l = false → Calls Try.prog 32 #[.pointer (some ⟨db, 0, none⟩), .string s, .slice a l.length c] w (fun e w' => e = .returned (.int .i64 (E : Nat)) ∧ w' = w) → Calls Try.prog 32 #[.pointer (some ⟨db, 0, none⟩), .string s, .slice a l.length c] w fun e w' => ∃ fb, w.heap.size ≤ fb ∧ e = .returned (.int .i64 ((appD dm s l fb).2 : Nat)) ∧ ∃ mv' N' fs' fv', N' ≤ N + 1 ∧ DiskIs w' B db sb nb N' (appD dm s l fb).1 mv' fs' fv' ∧ Mv (DFt db sb nb dm mv fs fv) (DFt db sb nb (appD dm s l fb).1 mv' fs' fv') w w' ∧ (if madeM dm s l then fs' = fb :: fs else fs' = fs)) := fun E h1 h2 h3 => h3.mono fun e w' ⟨he, hW⟩ => by
    rw [hW]
    refine ⟨w.heap.size, Nat.le_refl _, ?_, mv, N, fs, fv, Nat.le_succ N, ?_, ?_, ?_⟩
    · rw [h1]; exact he
    · rw [h1]; exact h
    · rw [h1]; exact Mv.refl _ _
    · rw [h2]; rfl
  clear c4
  cases o with
  | none =>
    have hne : (((e0 : Nat) : Int) != 0) = true := by
      have := findM_none hfm
      simp only [bne_iff_ne, ne_eq]; omega
    have HFD : Hid (Calls Try.prog 50 #[.pointer (some ⟨db, 0, none⟩), .string s] w fun e w' => e = .returned (.tuple #[.pointer none, .int .i64 ((e0 : Nat) : Int)]) ∧ w' = w) := hfd
    by_cases e42 : e0 = 42
    · subst e42
      have hok := (findM_none_ok hfm).1
      have hsz := okN_size hok
      have hd42 : decide (((none : Option Nat), 42) = ((none : Option Nat), 42)) = true := decide_eq_true rfl
      rw [hd42] at hmade
      by_cases h64 : 64 ≤ size dm.seen
      · have h64' : (64 : Int) ≤ ((size dm.seen : Nat) : Int) := by omega
        rw [decide_eq_true h64] at hmade
        refine HSAME.out 41 (fun fb => by rw [hapd fb]; show (if 42 = 42 then (if 64 ≤ size dm.seen then _ else _) else _ : DM × Nat) = _; rw [if_pos rfl, if_pos h64]) hmade ?_
        clear h hfd hfm hled hfl hes HS1 HS1d HS1b HST HFU HRO HOR HBL hfr hb h64 hfullE HFULL HSAME hapd hmade hd42
        generalize size dm.seen = SZ at *
        go_enter Try.func32, Try.ntmps32
        go_wp2_with (go_at_call 50; refine HFD.out.mono ?_; rintro e w1 ⟨rfl, rfl⟩)
        go_ret
        exact ⟨rfl, rfl⟩
      · have h64' : ¬ (64 : Int) ≤ ((size dm.seen : Nat) : Int) := by omega
        rw [decide_eq_false h64] at hmade
        cases hF : fullM (strokeM dm) l.length with
        | true =>
          rw [hF] at hmade
          refine HFULL.out (fun fb => by rw [hapd fb]; show (if 42 = 42 then (if 64 ≤ size dm.seen then _ else if fullM (strokeM dm) l.length = true then _ else _) else _ : DM × Nat) = _; rw [if_pos rfl, if_neg h64, if_pos hF]) hmade ?_
          clear h hfd hfm hled hfl hes HS1 HS1d HS1b HBL hfr hb hapd hmade hd42 HFULL HSAME
          rw [hfullE] at hF
          clear hfullE
          generalize fullB (strokeM dm).st (strokeM dm).ah (strokeM dm).pf (strokeM dm).pt = X1 at *
          generalize decide (l.length + usedM (strokeM dm) ≤ (strokeM dm).room) = X2 at *
          generalize strokeE dm = SE at *
          generalize size dm.seen = SZ at *
          cases X1 with
          | true =>
            go_enter Try.func32, Try.ntmps32
            go_wp2_with (first
              | (go_at_call 50; refine HFD.out.mono ?_; rintro e w1 ⟨rfl, rfl⟩)
              | (go_at_call 51; refine HST.out.mono ?_; rintro e w2 ⟨rfl, hS2⟩)
              | (go_at_call 52; refine (HFU.out _ hS2).mono ?_; rintro e w3 ⟨rfl, hS3⟩)
              | (go_at_call 54; refine (HOR.out _ hS3).mono ?_; rintro e w4 ⟨rfl, hS4⟩))
            go_ret
            exact ⟨rfl, hS4⟩
          | false =>
            have hX2 : X2 = false := by simpa using hF
            subst hX2
            clear hF
            go_enter Try.func32, Try.ntmps32
            go_wp2_with (first
              | (go_at_call 50; refine HFD.out.mono ?_; rintro e w1 ⟨rfl, rfl⟩)
              | (go_at_call 51; refine HST.out.mono ?_; rintro e w2 ⟨rfl, hS2⟩)
              | (go_at_call 52; refine (HFU.out _ hS2).mono ?_; rintro e w3 ⟨rfl, hS3⟩)
              | (go_at_call 53; refine (HRO.out _ hS3).mono ?_; rintro e w5 ⟨rfl, hS5⟩)
              | (go_at_call 54; refine (HOR.out _ hS5).mono ?_; rintro e w4 ⟨rfl, hS4⟩))
            go_ret
            exact ⟨rfl, hS4⟩
        | false =>
          rw [hF] at hmade
          have hap2 : ∀ fb, appD dm s l fb = ({ changeM (strokeM dm) ⟨some fb, ⟨#[]⟩, s⟩ with fm := put1 dm.fm fb (addM m0 l) }, strokeE dm) := fun fb => by
            rw [hapd fb]; show (if 42 = 42 then (if 64 ≤ size dm.seen then _ else if fullM (strokeM dm) l.length = true then _ else _) else _ : DM × Nat) = _; rw [if_pos rfl, if_neg h64, if_neg (by rw [hF]; simp)]
          obtain ⟨S2, HS2⟩ : ∃ S2 : Nat → World → Prop, Hid (∀ fb W, S2 fb W ↔ (w.heap.size ≤ fb ∧ ∃ fv', DiskIs W B db sb nb N { strokeM dm with fm := put1 dm.fm fb m0 } mv (fb :: fs) fv' ∧ Mv (DFt db sb nb dm mv fs fv) (DFt db sb nb { strokeM dm with fm := put1 dm.fm fb m0 } mv (fb :: fs) fv') w W)) := ⟨_, fun _ _ => Iff.rfl⟩
          obtain ⟨S3, HS3⟩ : ∃ S3 : Nat → World → Prop, Hid (∀ fb W, S3 fb W ↔ (w.heap.size ≤ fb ∧ ∃ mv' fv', DiskIs W B db sb nb (N + 1) (changeM { strokeM dm with fm := put1 dm.fm fb m0 } ⟨some fb, ⟨#[]⟩, s⟩) mv' (fb :: fs) fv' ∧ Mv (DFt db sb nb dm mv fs fv) (DFt db sb nb (changeM { strokeM dm with fm := put1 dm.fm fb m0 } ⟨some fb, ⟨#[]⟩, s⟩) mv' (fb :: fs) fv') w W)) := ⟨_, fun _ _ => Iff.rfl⟩
          obtain ⟨S4, HS4⟩ : ∃ S4 : Nat → World → Prop, Hid (∀ fb W, S4 fb W ↔ (w.heap.size ≤ fb ∧ ∃ mv' fv', DiskIs W B db sb nb (N + 1) { changeM (strokeM dm) ⟨some fb, ⟨#[]⟩, s⟩ with fm := put1 dm.fm fb (addM m0 l) } mv' (fb :: fs) fv' ∧ Mv (DFt db sb nb dm mv fs fv) (DFt db sb nb { changeM (strokeM dm) ⟨some fb, ⟨#[]⟩, s⟩ with fm := put1 dm.fm fb (addM m0 l) } mv' (fb :: fs) fv') w W)) := ⟨_, fun _ _ => Iff.rfl⟩
          have HNEW : Hid (∀ W, S1 W → Calls Try.prog 47 #[.slice none 0 0] W fun e w' => ∃ fb, e = .returned (.pointer (some ⟨fb, 0, none⟩)) ∧ S2 fb w') := fun W hW => by
            obtain ⟨q1, q2⟩ := (HS1.out W).1 hW
            refine (newFile_is none 0 [] W B q1.lb.2.2.2 (Nat.zero_le _) (fun j hj => absurd hj (Nat.not_lt_zero _))).mono fun e w' ⟨fb, v, he, hbb, hFi, hnew⟩ => ⟨fb, he, (HS2.out fb w').2 ?_⟩
            have hb0 : W.heap.size ≤ fb := hnew fb (.inl rfl)
            obtain ⟨r1, r2⟩ := q1.born hbb hFi hnew
            exact ⟨Nat.le_trans q2.size hb0, _, r1, q2.trans r2⟩
          have HCHG : Hid (∀ W fb, S2 fb W → Calls Try.prog 55 #[.pointer (some ⟨db, 1, none⟩), .agg #[.pointer (some ⟨fb, 0, none⟩), .string ⟨#[]⟩, .string s]] W fun e w' => e = .returned (.tuple #[]) ∧ S3 fb w') := fun W fb hW => by
            obtain ⟨q0, fv', q1, q2⟩ := (HS2.out fb W).1 hW
            refine (change_disk q1 hN hk ⟨some fb, ⟨#[]⟩, s⟩ ⟨Nat.zero_le _, hsz.2, fun _ => ⟨fb, rfl⟩⟩).mono fun e w' ⟨he, mv', r1, r2⟩ => ⟨he, (HS3.out fb w').2 ⟨q0, mv', fv', r1, q2.trans r2⟩⟩
          have HADD : Hid (∀ W fb, S3 fb W → Calls Try.prog 56 #[.pointer (some ⟨fb, 0, none⟩), .slice a l.length c] W fun e w' => e = .returned (.tuple #[]) ∧ S4 fb w') := fun W fb hW => by
            obtain ⟨q0, mv', fv', q1, q2⟩ := (HS3.out fb W).1 hW
            obtain ⟨hbl, hfree⟩ := HBL.out _ W q2
            have hmem : fb ∈ fb :: fs := by simp
            have hfi := q1.files fb hmem
            have efm : (changeM { strokeM dm with fm := put1 dm.fm fb m0 } ⟨some fb, ⟨#[]⟩, s⟩).fm fb = m0 := put1_at _ _ _
            rw [efm] at hfi
            refine (add_any hfi q1.lb.2.2.2 (Nat.zero_le _) (Nat.zero_le _) (Nat.zero_le _) a c l hl hbl hnil (fun ad e h0 e2 => (hfree ad e h0).2 (.inr (.inr (.inr (.inr ⟨fb, hmem, .inl e2⟩)))))).mono fun e w' ⟨he, rv', cv', av', hF', hM'⟩ => ?_
            have hM2 : Mv ((fv' fb).ft fb ((changeM { strokeM dm with fm := put1 dm.fm fb m0 } ⟨some fb, ⟨#[]⟩, s⟩).fm fb).chs.length) ((FV.mk rv' cv' av').ft fb (addM m0 l).chs.length) W w' := by rw [efm]; exact hM'
            obtain ⟨r1, r2⟩ := q1.file hmem (m' := addM m0 l) (v' := ⟨rv', cv', av'⟩) hF' hM2
            have e3 : ({ changeM { strokeM dm with fm := put1 dm.fm fb m0 } ⟨some fb, ⟨#[]⟩, s⟩ with fm := put1 (changeM { strokeM dm with fm := put1 dm.fm fb m0 } ⟨some fb, ⟨#[]⟩, s⟩).fm fb (addM m0 l) } : DM) = { changeM (strokeM dm) ⟨some fb, ⟨#[]⟩, s⟩ with fm := put1 dm.fm fb (addM m0 l) } := by
              have : put1 (changeM { strokeM dm with fm := put1 dm.fm fb m0 } ⟨some fb, ⟨#[]⟩, s⟩).fm fb (addM m0 l) = put1 dm.fm fb (addM m0 l) := put1_put1 dm.fm fb m0 (addM m0 l)
              rw [this]
              rfl
            rw [e3] at r1 r2
            exact ⟨he, (HS4.out fb w').2 ⟨q0, mv', _, r1, q2.trans r2⟩⟩
          have hgoal : Calls Try.prog 32 #[.pointer (some ⟨db, 0, none⟩), .string s, .slice a l.length c] w (fun e w' => e = .returned (.int .i64 (strokeE dm : Nat)) ∧ ∃ fb, S4 fb w') := by
            rw [hfullE, Bool.or_eq_false_iff] at hF
            obtain ⟨hX1, hX2⟩ := hF
            clear h hfd hfm hled hfl hes HS1 HS1d HS1b HBL hfr hb hapd hmade hd42 HFULL HSAME HS2 HS3 HS4 hap2 hfullE hsz
            generalize fullB (strokeM dm).st (strokeM dm).ah (strokeM dm).pf (strokeM dm).pt = X1 at *
            generalize decide (l.length + usedM (strokeM dm) ≤ (strokeM dm).room) = X2 at *
            generalize strokeE dm = SE at *
            generalize size dm.seen = SZ at *
            subst hX1
            have hX2 : X2 = true := by simpa using hX2
            subst hX2
            go_enter Try.func32, Try.ntmps32
            go_wp2_with (first
              | (go_at_call 50; refine HFD.out.mono ?_; rintro e w1 ⟨rfl, rfl⟩)
              | (go_at_call 51; refine HST.out.mono ?_; rintro e w2 ⟨rfl, hS2⟩)
              | (go_at_call 52; refine (HFU.out _ hS2).mono ?_; rintro e w3 ⟨rfl, hS3⟩)
              | (go_at_call 53; refine (HRO.out _ hS3).mono ?_; rintro e w5 ⟨rfl, hS5⟩)
              | (go_at_call 47; refine (HNEW.out _ hS5).mono ?_; rintro e w6 ⟨fb, rfl, hS6⟩)
              | (go_at_call 55; refine (HCHG.out _ _ hS6).mono ?_; rintro e w7 ⟨rfl, hS7⟩)
              | (go_at_call 56; refine (HADD.out _ _ hS7).mono ?_; rintro e w8 ⟨rfl, hS8⟩))
            go_ret
            exact ⟨rfl, fb, hS8⟩
          refine hgoal.mono fun e w' ⟨he, fb, hS⟩ => ?_
          obtain ⟨q0, mv', fv', q1, q2⟩ := (HS4.out fb w').1 hS
          refine ⟨fb, q0, ?_, mv', N + 1, fb :: fs, fv', Nat.le_refl _, ?_, ?_, ?_⟩
          · rw [hap2]; exact he
          · rw [hap2]; exact q1
          · rw [hap2]; exact q2
          · rw [hmade]; rfl
    · have h42 : (((e0 : Nat) : Int) == 42) = false := beq_eq_false_iff_ne.2 (by omega)
      have hd42 : decide (((none : Option Nat), e0) = ((none : Option Nat), 42)) = false := decide_eq_false (by simp [e42])
      rw [hd42] at hmade
      refine HSAME.out e0 (fun fb => by rw [hapd fb]; show (if e0 = 42 then _ else _ : DM × Nat) = _; rw [if_neg e42]) hmade ?_
      clear h hfd hfm hled hfl hes HS1 HS1d HS1b HST HFU HRO HOR HBL hfr hb hfullE hmlen HFULL HSAME hapd hmade hd42
      go_enter Try.func32, Try.ntmps32
      go_wp2_with (go_at_call 50; refine HFD.out.mono ?_; rintro e w1 ⟨rfl, rfl⟩)
      go_ret
      exact ⟨rfl, rfl⟩
  | some b =>
    obtain ⟨hbf, hfit⟩ := hfl b rfl
    have he0 := findM_some hfm
    subst he0
    have hd42 : decide ((some b, 0) = ((none : Option Nat), 42)) = false := decide_eq_false (by simp)
    rw [hd42] at hmade
    have HFD : Hid (Calls Try.prog 50 #[.pointer (some ⟨db, 0, none⟩), .string s] w fun e w' => e = .returned (.tuple #[.pointer (some ⟨b, 0, none⟩), .int .i64 0]) ∧ w' = w) := hfd
    cases hF : fullM (strokeM dm) l.length with
    | true =>
      refine HFULL.out (fun fb => by rw [hapd fb]; show (if fullM (strokeM dm) l.length = true then _ else _ : DM × Nat) = _; rw [if_pos hF]) hmade ?_
      clear h hfd hfm hled hfl hes HS1 HS1d HS1b HBL hfr hb hapd hmade hd42 HFULL HSAME hmlen hfit
      rw [hfullE] at hF
      clear hfullE
      generalize fullB (strokeM dm).st (strokeM dm).ah (strokeM dm).pf (strokeM dm).pt = X1 at *
      generalize decide (l.length + usedM (strokeM dm) ≤ (strokeM dm).room) = X2 at *
      generalize strokeE dm = SE at *
      cases X1 with
      | true =>
        go_enter Try.func32, Try.ntmps32
        go_wp2_with (first
          | (go_at_call 50; refine HFD.out.mono ?_; rintro e w1 ⟨rfl, rfl⟩)
          | (go_at_call 51; refine HST.out.mono ?_; rintro e w2 ⟨rfl, hS2⟩)
          | (go_at_call 52; refine (HFU.out _ hS2).mono ?_; rintro e w3 ⟨rfl, hS3⟩)
          | (go_at_call 54; refine (HOR.out _ hS3).mono ?_; rintro e w4 ⟨rfl, hS4⟩))
        go_ret
        exact ⟨rfl, hS4⟩
      | false =>
        have hX2 : X2 = false := by simpa using hF
        subst hX2
        clear hF
        go_enter Try.func32, Try.ntmps32
        go_wp2_with (first
          | (go_at_call 50; refine HFD.out.mono ?_; rintro e w1 ⟨rfl, rfl⟩)
          | (go_at_call 51; refine HST.out.mono ?_; rintro e w2 ⟨rfl, hS2⟩)
          | (go_at_call 52; refine (HFU.out _ hS2).mono ?_; rintro e w3 ⟨rfl, hS3⟩)
          | (go_at_call 53; refine (HRO.out _ hS3).mono ?_; rintro e w5 ⟨rfl, hS5⟩)
          | (go_at_call 54; refine (HOR.out _ hS5).mono ?_; rintro e w4 ⟨rfl, hS4⟩))
        go_ret
        exact ⟨rfl, hS4⟩
    | false =>
      have hap2 : ∀ fb, appD dm s l fb = ({ strokeM dm with fm := put1 dm.fm b (addM (dm.fm b) l) }, strokeE dm) := fun fb => by
        rw [hapd fb]; show (if fullM (strokeM dm) l.length = true then _ else _ : DM × Nat) = _; rw [if_neg (by rw [hF]; simp)]
      obtain ⟨S4, HS4⟩ : ∃ S4 : World → Prop, Hid (∀ W, S4 W ↔ (∃ fv', DiskIs W B db sb nb N { strokeM dm with fm := put1 dm.fm b (addM (dm.fm b) l) } mv fs fv' ∧ Mv (DFt db sb nb dm mv fs fv) (DFt db sb nb { strokeM dm with fm := put1 dm.fm b (addM (dm.fm b) l) } mv fs fv') w W)) := ⟨_, fun _ => Iff.rfl⟩
      have HADD : Hid (∀ W, S1 W → Calls Try.prog 56 #[.pointer (some ⟨b, 0, none⟩), .slice a l.length c] W fun e w' => e = .returned (.tuple #[]) ∧ S4 w') := fun W hW => by
        obtain ⟨q1, q2⟩ := (HS1.out W).1 hW
        obtain ⟨hbl, hfree⟩ := HBL.out _ W q2
        obtain ⟨f1, f2, f3, f4⟩ := hfit
        refine (add_any (q1.files b hbf) q1.lb.2.2.2 f3 f4 (by show sumB (dm.fm b).chs ≤ _; omega) a c l hl hbl hnil (fun ad e h0 e2 => (hfree ad e h0).2 (.inr (.inr (.inr (.inr ⟨b, hbf, .inl e2⟩)))))).mono fun e w' ⟨he, rv', cv', av', hF', hM'⟩ => ?_
        obtain ⟨r1, r2⟩ := q1.file hbf (m' := addM (dm.fm b) l) (v' := ⟨rv', cv', av'⟩) hF' hM'
        exact ⟨he, (HS4.out w').2 ⟨_, r1, q2.trans r2⟩⟩
      have hgoal : Calls Try.prog 32 #[.pointer (some ⟨db, 0, none⟩), .string s, .slice a l.length c] w (fun e w' => e = .returned (.int .i64 (strokeE dm : Nat)) ∧ S4 w') := by
        rw [hfullE, Bool.or_eq_false_iff] at hF
        obtain ⟨hX1, hX2⟩ := hF
        clear h hfd hfm hled hfl hes HS1 HS1d HS1b HBL hfr hb hapd hmade hd42 HFULL HSAME HS4 hap2 hfullE hmlen hfit
        generalize fullB (strokeM dm).st (strokeM dm).ah (strokeM dm).pf (strokeM dm).pt = X1 at *
        generalize decide (l.length + usedM (strokeM dm) ≤ (strokeM dm).room) = X2 at *
        generalize strokeE dm = SE at *
        subst hX1
        have hX2 : X2 = true := by simpa using hX2
        subst hX2
        go_enter Try.func32, Try.ntmps32
        go_wp2_with (first
          | (go_at_call 50; refine HFD.out.mono ?_; rintro e w1 ⟨rfl, rfl⟩)
          | (go_at_call 51; refine HST.out.mono ?_; rintro e w2 ⟨rfl, hS2⟩)
          | (go_at_call 52; refine (HFU.out _ hS2).mono ?_; rintro e w3 ⟨rfl, hS3⟩)
          | (go_at_call 53; refine (HRO.out _ hS3).mono ?_; rintro e w5 ⟨rfl, hS5⟩)
          | (go_at_call 56; refine (HADD.out _ hS5).mono ?_; rintro e w8 ⟨rfl, hS8⟩))
        go_ret
        exact ⟨rfl, hS8⟩
      refine hgoal.mono fun e w' ⟨he, hS⟩ => ?_
      obtain ⟨fv', q1, q2⟩ := (HS4.out w').1 hS
      refine ⟨w.heap.size, Nat.le_refl _, ?_, mv, N, fs, fv', Nat.le_succ _, ?_, ?_, ?_⟩
      · rw [hap2]; exact he
      · rw [hap2]; exact q1
      · rw [hap2]; exact q2
      · rw [hmade]; rfl
end Go.Proofs.Ytbnlgohaaadgeaa

/- Package disk: a disk in memory, told as plain data; each step of it. -/
namespace Go.Proofs.Ytbnlgohaaadgeaa
open Go.RowKit Go.Maps Go.Sort
set_option maxRecDepth 100000
set_option maxRecDepth 100000

theorem renM_mk (ρ : Nat → Nat) (b : Nat) (s t : ByteArray) : renM ρ ⟨some b, s, t⟩ = ⟨some (ρ b), s, t⟩ := rfl
theorem Ren.fnd {ρ : Nat → Nat} {n : Nat} {p d : DM} (h : Ren ρ n p d) (s : ByteArray) : findM d.off d.seen s = ((findM p.off p.seen s).1.map ρ, (findM p.off p.seen s).2) := by
  rw [h.off, h.seen]; exact renD_findM ρ p.off p.seen s
theorem Ren.app {ρ : Nat → Nat} {n T : Nat} {p d : DM} (h : Ren ρ n p d) (hI : Inv p n T) (s : ByteArray) (l : List Nat) (fb : Nat) (hfb : ∀ i, i < n → ρ i ≠ fb) :
    (appD d s l fb).2 = (appD p s l n).2 ∧ madeM d s l = madeM p s l ∧ Ren (if madeM p s l then put1 ρ n fb else ρ) (appN p n s l) (appD p s l n).1 (appD d s l fb).1 := by
  have hfu := h.stroke.full (show Ents n (strokeM p).seen from hI.ents) l.length
  have hsz : size d.seen = size p.seen := by rw [h.seen, renD_size]
  have hE := h.strE
  unfold appN
  have hf2 := h.fnd s
  obtain ⟨q, e, hf⟩ : ∃ q e, findM p.off p.seen s = (q, e) := ⟨_, _, rfl⟩
  rw [hf] at hf2
  have hf2 : findM d.off d.seen s = (q.map ρ, e) := hf2
  unfold appD madeM
  rw [hf2, hf, hfu, hsz, hE]
  cases q with
  | some b =>
    have hb := hI.ents.found hf
    have e1 : (decide ((some b, e) = ((none : Option Nat), 42))) = false := decide_eq_false (by simp)
    have e2 : (decide (((some b).map ρ, e) = ((none : Option Nat), 42))) = false := decide_eq_false (by simp)
    rw [e1, e2]
    show (if fullM (strokeM p) l.length = true then _ else _ : DM × Nat).2 = (if fullM (strokeM p) l.length = true then _ else _ : DM × Nat).2 ∧ _ ∧ Ren ρ n (if fullM (strokeM p) l.length = true then _ else _ : DM × Nat).1 (if fullM (strokeM p) l.length = true then _ else _ : DM × Nat).1
    by_cases hF : fullM (strokeM p) l.length = true
    · rw [if_pos hF, if_pos hF]
      exact ⟨rfl, rfl, h.stroke⟩
    · rw [if_neg hF, if_neg hF]
      refine ⟨rfl, rfl, ?_⟩
      have := h.stroke.setF hb (addM (p.fm b) l)
      rw [← h.fm b hb] at this
      rw [← h.fm b hb]
      exact this
  | none =>
    by_cases e42 : e = 42
    · subst e42
      have e1 : (decide (((none : Option Nat), 42) = ((none : Option Nat), 42))) = true := decide_eq_true rfl
      have e2 : (decide (((none : Option Nat).map ρ, 42) = ((none : Option Nat), 42))) = true := decide_eq_true rfl
      rw [e1, e2]
      simp only [Option.map_none, if_true, Bool.true_and]
      by_cases h64 : 64 ≤ size p.seen
      · simp only [if_pos h64, decide_eq_true h64, Bool.not_true, Bool.false_and, Bool.false_eq_true, if_false]
        exact ⟨trivial, trivial, h⟩
      · simp only [if_neg h64, decide_eq_false h64, Bool.not_false, Bool.true_and]
        by_cases hF : fullM (strokeM p) l.length = true
        · simp only [hF, if_true, Bool.not_true, Bool.false_eq_true, if_false]
          exact ⟨trivial, trivial, h.stroke⟩
        · have hF' : fullM (strokeM p) l.length = false := by simpa using hF
          simp only [hF', Bool.false_eq_true, if_false, Bool.not_false, if_true]
          refine ⟨trivial, trivial, ?_⟩
          have hS := hI.stroke
          have q1 := Ren.born h.stroke hS.safe hS.ents hS.ms hfb (addM m0 l)
          obtain ⟨hok, _, _⟩ := findM_none_ok hf
          have q2 := q1.change (m := ⟨some n, ⟨#[]⟩, s⟩) ⟨Nat.zero_le _, (okN_size hok).2, fun _ => ⟨n, rfl⟩⟩
          rw [renM_mk, put1_at] at q2
          exact q2
    · have e1 : (decide (((none : Option Nat), e) = ((none : Option Nat), 42))) = false := decide_eq_false (by simp [e42])
      have e2 : (decide (((none : Option Nat).map ρ, e) = ((none : Option Nat), 42))) = false := decide_eq_false (by simp [e42])
      rw [e1, e2]
      simp only [Option.map_none, if_neg e42, Bool.false_and, Bool.false_eq_true, if_false]
      exact ⟨trivial, trivial, h⟩
theorem Ren.cut {ρ : Nat → Nat} {n T : Nat} {p d : DM} (h : Ren ρ n p d) (hI : Inv p n T) (s : ByteArray) (k : Int) : (cutD d s k).2 = (cutD p s k).2 ∧ Ren ρ n (cutD p s k).1 (cutD d s k).1 := by
  have hE := h.strE
  have hf2 := h.fnd s
  obtain ⟨q, e, hf⟩ : ∃ q e, findM p.off p.seen s = (q, e) := ⟨_, _, rfl⟩
  rw [hf] at hf2
  have hf2 : findM d.off d.seen s = (q.map ρ, e) := hf2
  unfold cutD
  rw [hf2, hf, hE]
  cases q with
  | none => exact ⟨rfl, h⟩
  | some b =>
    have hb := hI.ents.found hf
    show (if k < 0 ∨ ((d.fm (ρ b)).sz : Int) < k then _ else _ : DM × Nat).2 = (if k < 0 ∨ ((p.fm b).sz : Int) < k then _ else _ : DM × Nat).2 ∧ Ren ρ n (if k < 0 ∨ ((p.fm b).sz : Int) < k then _ else _ : DM × Nat).1 (if k < 0 ∨ ((d.fm (ρ b)).sz : Int) < k then _ else _ : DM × Nat).1
    rw [h.fm b hb]
    by_cases hk : k < 0 ∨ ((p.fm b).sz : Int) < k
    · rw [if_pos hk, if_pos hk]; exact ⟨rfl, h⟩
    · rw [if_neg hk, if_neg hk]
      exact ⟨rfl, h.stroke.setF hb _⟩
theorem Ren.sync {ρ : Nat → Nat} {n T : Nat} {p d : DM} (h : Ren ρ n p d) (hI : Inv p n T) (s : ByteArray) : (syncM d s).2 = (syncM p s).2 ∧ Ren ρ n (syncM p s).1 (syncM d s).1 := by
  have hE := h.strE
  have hf2 := h.fnd s
  obtain ⟨q, e, hf⟩ : ∃ q e, findM p.off p.seen s = (q, e) := ⟨_, _, rfl⟩
  rw [hf] at hf2
  have hf2 : findM d.off d.seen s = (q.map ρ, e) := hf2
  unfold syncM
  rw [hf2, hf, hE]
  cases q with
  | none => exact ⟨rfl, h⟩
  | some b =>
    have hb := hI.ents.found hf
    show (if strokeE p = 0 then _ else _ : DM × Nat).2 = (if strokeE p = 0 then _ else _ : DM × Nat).2 ∧ Ren ρ n (if strokeE p = 0 then _ else _ : DM × Nat).1 (if strokeE p = 0 then ({ strokeM d with fm := put1 d.fm (ρ b) (safeM (d.fm (ρ b))) }, 0) else _ : DM × Nat).1
    rw [h.fm b hb]
    by_cases hk : strokeE p = 0
    · rw [if_pos hk, if_pos hk]
      exact ⟨rfl, h.stroke.setF hb _⟩
    · rw [if_neg hk, if_neg hk]; exact ⟨rfl, h.stroke⟩
theorem Ren.names {ρ : Nat → Nat} {n T : Nat} {p d : DM} (h : Ren ρ n p d) (hI : Inv p n T) : (syncN d).2 = (syncN p).2 ∧ Ren ρ n (syncN p).1 (syncN d).1 := by
  have hE := h.strE
  unfold syncN
  rw [hE, h.off]
  by_cases ho : p.off = true
  · rw [if_pos ho, if_pos ho]; exact ⟨rfl, h⟩
  · rw [if_neg ho, if_neg ho]
    by_cases hk : strokeE p = 0
    · rw [if_pos hk, if_pos hk]
      exact ⟨rfl, h.stroke.safeN (fun m hm => (hI.ms m hm).ok)⟩
    · rw [if_neg hk, if_neg hk]; exact ⟨rfl, h.stroke⟩
theorem Ren.ren {ρ : Nat → Nat} {n T : Nat} {p d : DM} (h : Ren ρ n p d) (hI : Inv p n T) (s t : ByteArray) : (renameD d s t).2 = (renameD p s t).2 ∧ Ren ρ n (renameD p s t).1 (renameD d s t).1 := by
  have hE := h.strE
  have hf2 := h.fnd s
  obtain ⟨q, e, hf⟩ : ∃ q e, findM p.off p.seen s = (q, e) := ⟨_, _, rfl⟩
  rw [hf] at hf2
  have hf2 : findM d.off d.seen s = (q.map ρ, e) := hf2
  unfold renameD
  rw [hf2, hf, hE]
  cases q with
  | none => exact ⟨rfl, h⟩
  | some b =>
    have hb := hI.ents.found hf
    show (if okN t = true then _ else _ : DM × Nat).2 = (if okN t = true then _ else _ : DM × Nat).2 ∧ Ren ρ n (if okN t = true then _ else _ : DM × Nat).1 (if okN t = true then _ else _ : DM × Nat).1
    by_cases ht : okN t = true
    · rw [if_pos ht, if_pos ht]
      refine ⟨rfl, ?_⟩
      show Ren ρ n (if s.toList = t.toList then _ else _) (if s.toList = t.toList then _ else _)
      by_cases hst : s.toList = t.toList
      · rw [if_pos hst, if_pos hst]; exact h.stroke
      · rw [if_neg hst, if_neg hst]
        obtain ⟨hok, _, _⟩ := findM_ok hf
        exact h.stroke.change (m := ⟨some b, s, t⟩) ⟨(okN_size hok).2, (okN_size ht).2, fun _ => ⟨b, rfl⟩⟩
    · rw [if_neg ht, if_neg ht]; exact ⟨rfl, h⟩
theorem Ren.rem {ρ : Nat → Nat} {n : Nat} {p d : DM} (h : Ren ρ n p d) (s : ByteArray) : (removeD d s).2 = (removeD p s).2 ∧ Ren ρ n (removeD p s).1 (removeD d s).1 := by
  have hE := h.strE
  have hf2 := h.fnd s
  obtain ⟨q, e, hf⟩ : ∃ q e, findM p.off p.seen s = (q, e) := ⟨_, _, rfl⟩
  rw [hf] at hf2
  have hf2 : findM d.off d.seen s = (q.map ρ, e) := hf2
  unfold removeD
  rw [hf2, hf, hE]
  cases q with
  | none => exact ⟨rfl, h⟩
  | some b =>
    obtain ⟨hok, _, _⟩ := findM_ok hf
    exact ⟨rfl, h.stroke.change (m := ⟨none, s, ⟨#[]⟩⟩) ⟨(okN_size hok).2, Nat.zero_le _, fun q => absurd rfl q⟩⟩

theorem map_blk {w w' : World} {b N : Nat} {D : DataW Nat} (h : w.ownsMap Try.prog 9 Rf b N D) (hb : w'.heap[b]? = w.heap[b]?) : w'.ownsMap Try.prog 9 Rf b N D := by
  obtain ⟨es, clock, hx, q⟩ := h
  exact ⟨es, clock, hb.trans hx, q⟩
theorem DiskIs.keep {w w' : World} {B db sb nb N : Nat} {dm : DM} {mv : Value} {fs : List Nat} {fv : Nat → FV} (h : DiskIs w B db sb nb N dm mv fs fv) (hz : w.heap.size ≤ w'.heap.size) (hb : ∀ k, DFt db sb nb dm mv fs fv k → w'.heap[k]? = w.heap[k]?) : DiskIs w' B db sb nb N dm mv fs fv :=
  ⟨h.row.of_block (hb _ (.inl rfl)), map_blk h.safe (hb _ (.inr (.inl rfl))), map_blk h.seen (hb _ (.inr (.inr (.inl rfl)))), rows_keep h.mow (fun k e => hb k (.inr (.inr (.inr (.inl e))))), fun b hf => (h.files b hf).later (fun k hk => hb k (.inr (.inr (.inr (.inr ⟨b, hf, hk⟩))))), h.apart, h.sn, ⟨h.lb.1, h.lb.2.1, h.lb.2.2.1, Nat.le_trans h.lb.2.2.2 hz⟩⟩
theorem DiskIs.ge {w : World} {B db sb nb N : Nat} {dm : DM} {mv : Value} {fs : List Nat} {fv : Nat → FV} (h : DiskIs w B db sb nb N dm mv fs fv) : ∀ k, DFt db sb nb dm mv fs fv k → B ≤ k := by
  rintro k (e | e | e | e | ⟨b, hb, e⟩)
  · rw [e]; exact h.lb.1
  · rw [e]; exact h.lb.2.1
  · rw [e]; exact h.lb.2.2.1
  · exact (rows_lt h.mow k e).1
  · exact ((h.files b hb).ge k e).1

/-- A disk in memory, told as plain data: F is what of memory is its own. -/
structure DK (w : World) (B db : Nat) (p : DM) (n T : Nat) (F : Nat → Prop) : Prop where
  inv : Inv p n T
  mem : ∃ sb nb N mv fs fv ρ d, DiskIs w B db sb nb N d mv fs fv ∧ Ren ρ n p d ∧ (∀ b, b ∈ fs ↔ ∃ i, i < n ∧ ρ i = b) ∧ N + p.ms.length ≤ T ∧ F = DFt db sb nb d mv fs fv
theorem DK.keep {w w' : World} {B db : Nat} {p : DM} {n T : Nat} {F : Nat → Prop} (h : DK w B db p n T F) (hz : w.heap.size ≤ w'.heap.size) (hb : ∀ k, F k → w'.heap[k]? = w.heap[k]?) : DK w' B db p n T F := by
  obtain ⟨hI, sb, nb, N, mv, fs, fv, ρ, d, hD, hR, hfs, hN, rfl⟩ := h
  exact ⟨hI, sb, nb, N, mv, fs, fv, ρ, d, hD.keep hz hb, hR, hfs, hN, rfl⟩
theorem DK.lt {w : World} {B db : Nat} {p : DM} {n T : Nat} {F : Nat → Prop} (h : DK w B db p n T F) : ∀ k, F k → B ≤ k ∧ k < w.heap.size := by
  obtain ⟨hI, sb, nb, N, mv, fs, fv, ρ, d, hD, hR, hfs, hN, rfl⟩ := h
  exact fun k hk => ⟨hD.ge k hk, hD.lt k hk⟩
theorem DK.base {w : World} {B db : Nat} {p : DM} {n T : Nat} {F : Nat → Prop} (h : DK w B db p n T F) : B ≤ w.heap.size := by
  obtain ⟨hI, sb, nb, N, mv, fs, fv, ρ, d, hD, hR, hfs, hN, rfl⟩ := h
  exact hD.lb.2.2.2
theorem DK.on {w w' : World} {B db : Nat} {p : DM} {n T : Nat} {F : Nat → Prop} (h : DK w B db p n T F) (hb : Below w.heap.size w w') : DK w' B db p n T F := h.keep hb.size (fun k hk => hb.block k (h.lt k hk).2)
theorem DK.mono {w : World} {B db : Nat} {p : DM} {n T T' : Nat} {F : Nat → Prop} (h : DK w B db p n T F) (hT : T ≤ T') : DK w B db p n T' F := by
  obtain ⟨hI, sb, nb, N, mv, fs, fv, ρ, d, hD, hR, hfs, hN, e⟩ := h
  exact ⟨hI.mono hT, sb, nb, N, mv, fs, fv, ρ, d, hD, hR, hfs, by omega, e⟩
/-- Two disks apart: a step of the one leaves the other. -/
theorem DK.other {w w' : World} {B db : Nat} {p : DM} {n T : Nat} {F G G' : Nat → Prop} (h : DK w B db p n T F) (hne : ∀ k, F k → ¬ G k) (hm : Mv G G' w w') : DK w' B db p n T F ∧ ∀ k, F k → ¬ G' k :=
  ⟨h.keep hm.size (fun k hk => hm.block k (h.lt k hk).2 (hne k hk)), fun k hk hg => by
    rcases hm.foot k hg with e | e
    · exact hne k hk e
    · have := (h.lt k hk).2; omega⟩
theorem Ren.filesOf {ρ : Nat → Nat} {n : Nat} {p d : DM} (h : Ren ρ n p d) (h2 : Ents n p.seen) : Files d.seen := fun k => by
  rw [h.seen, renD_at]
  rcases h2.files k with e | ⟨i, _, e⟩
  · rw [e]; exact .inl rfl
  · rw [e]; exact .inr ⟨ρ i, rfl⟩
theorem Ren.led {ρ : Nat → Nat} {n T : Nat} {p d : DM} (h : Ren ρ n p d) (hI : Inv p n T) {fs : List Nat} (hfs : ∀ b, b ∈ fs ↔ ∃ i, i < n ∧ ρ i = b) (hT : T ≤ 1099511627776) (s : ByteArray) (b : Nat) (hb : (findM d.off d.seen s).1 = some b) : b ∈ fs ∧ (d.fm b).fit := by
  rw [h.fnd s] at hb
  obtain ⟨q, e, hf⟩ : ∃ q e, findM p.off p.seen s = (q, e) := ⟨_, _, rfl⟩
  rw [hf] at hb
  cases q with
  | none => cases hb
  | some i =>
    have hi := hI.ents.found hf
    have : ρ i = b := Option.some.inj hb
    subst this
    exact ⟨(hfs _).2 ⟨i, hi, rfl⟩, by rw [h.fm i hi]; exact (hI.fit i hi).fit hT⟩
theorem Ren.heldIn {ρ : Nat → Nat} {n : Nat} {p d : DM} (h : Ren ρ n p d) (h2 : Ents n p.seen) {fs : List Nat} (hfs : ∀ b, b ∈ fs ↔ ∃ i, i < n ∧ ρ i = b) : ∀ es, d.seen = .map es → ∀ q ∈ es, ∃ fb, q.2 = .held fb ∧ fb ∈ fs := fun es e q hq => by
  obtain ⟨es0, e0, _, hall⟩ := h2
  rw [h.seen, e0] at e
  have e : es0.map (renE ρ) = es := by injection e
  rw [← e] at hq
  obtain ⟨q0, hq0, rfl⟩ := List.mem_map.1 hq
  obtain ⟨_, _, _, i, hi, h3⟩ := hall q0 hq0
  exact ⟨ρ i, by show renV ρ q0.2 = _; rw [h3]; rfl, (hfs _).2 ⟨i, hi, rfl⟩⟩
theorem allL_le {sz : Nat → Nat} {T : Nat} : ∀ es, (∀ q ∈ es, ∀ b, q.2 = DataW.held b → sz b ≤ T) → allL sz es ≤ es.length * T
  | [], _ => by simp [allL, sumE]
  | q :: es, h => by
    have ih := allL_le (sz := sz) (T := T) es (fun p hp => h p (by simp [hp]))
    have h1 : szD sz q.2 ≤ T := by
      have := h q (by simp)
      cases hq : q.2 <;> first | exact Nat.zero_le _ | skip
      rw [hq] at this
      exact this _ rfl
    show szD sz q.2 + allL sz es ≤ (es.length + 1) * T
    rw [Nat.succ_mul]
    omega
theorem Inv.used {p : DM} {n T : Nat} (h : Inv p n T) : usedM p ≤ 64 * T := by
  have hc := h.cnt
  obtain ⟨es, e, _, hall⟩ := h.ents
  unfold usedM
  rw [e] at hc ⊢
  have := allL_le (sz := fun b => (p.fm b).sz) (T := T) es (fun q hq b hb => by
    obtain ⟨_, _, _, i, hi, h3⟩ := hall q hq
    rw [h3] at hb
    injection hb with hb
    show (p.fm b).sz ≤ T
    rw [← hb]
    exact (h.fit i hi).szle)
  have hc : es.length ≤ 64 := hc
  exact Nat.le_trans this (Nat.mul_le_mul_right T hc)
end Go.Proofs.Ytbnlgohaaadgeaa

/- Package disk: the calls that change a disk, told as plain data. -/
namespace Go.Proofs.Ytbnlgohaaadgeaa
open Go.RowKit Go.Maps Go.Sort
set_option maxRecDepth 100000
set_option maxRecDepth 100000

theorem DK.cut {w : World} {B db : Nat} {p : DM} {n T : Nat} {F : Nat → Prop} (h : DK w B db p n T F) (hT : T ≤ 1099511627000) (s : ByteArray) (k : Int) :
    Calls Try.prog 33 #[.pointer (some ⟨db, 0, none⟩), .string s, .int .i64 k] w fun e w' => e = .returned (.int .i64 ((cutD p s k).2 : Nat)) ∧ ∃ F', DK w' B db (cutD p s k).1 n (T + 2) F' ∧ Mv F F' w w' := by
  obtain ⟨hI, sb, nb, N, mv, fs, fv, ρ, d, hD, hR, hfs, hN, rfl⟩ := h
  have h1 := hI.st
  have h2 := hI.ah
  have h3 := hR.st
  have h4 := hR.ah
  refine (cutD_any hD (hR.filesOf hI.ents) (fun s b hb => hR.led hI hfs (by omega) s b hb) (by omega) (by omega) s k).mono fun e w' ⟨he, fv', hD', hM⟩ => ?_
  obtain ⟨r1, r2⟩ := hR.cut hI s k
  refine ⟨by rw [he, r1], _, ⟨hI.cut s k, sb, nb, N, mv, fs, fv', ρ, _, hD', r2, hfs, ?_, rfl⟩, hM⟩
  have : (cutD p s k).1.ms = p.ms := by
    unfold cutD
    split
    · split <;> rfl
    · rfl
  rw [this]; omega
theorem DK.sync {w : World} {B db : Nat} {p : DM} {n T : Nat} {F : Nat → Prop} (h : DK w B db p n T F) (hT : T ≤ 1099511627000) (s : ByteArray) :
    Calls Try.prog 34 #[.pointer (some ⟨db, 0, none⟩), .string s] w fun e w' => e = .returned (.int .i64 ((syncM p s).2 : Nat)) ∧ ∃ F', DK w' B db (syncM p s).1 n (T + 2) F' ∧ Mv F F' w w' := by
  obtain ⟨hI, sb, nb, N, mv, fs, fv, ρ, d, hD, hR, hfs, hN, rfl⟩ := h
  have h1 := hI.st
  have h2 := hI.ah
  have h3 := hR.st
  have h4 := hR.ah
  refine (sync_any hD (hR.filesOf hI.ents) (fun s b hb => hR.led hI hfs (by omega) s b hb) (by omega) (by omega) s).mono fun e w' ⟨he, fv', hD', hM⟩ => ?_
  obtain ⟨r1, r2⟩ := hR.sync hI s
  refine ⟨by rw [he, r1], _, ⟨hI.sync s, sb, nb, N, mv, fs, fv', ρ, _, hD', r2, hfs, ?_, rfl⟩, hM⟩
  have : (syncM p s).1.ms = p.ms := by
    unfold syncM
    split
    · split <;> rfl
    · rfl
  rw [this]; omega
theorem Ren.movOk {ρ : Nat → Nat} {n T : Nat} {p d : DM} (h : Ren ρ n p d) (hI : Inv p n T) : ∀ (i : Nat) (m : Mov), d.ms[i]? = some m → m.ok := fun i m hm => by
  rw [h.ms, List.getElem?_map] at hm
  obtain ⟨m', hm', rfl⟩ := Option.map_eq_some_iff.1 hm
  obtain ⟨q1, q2, q3⟩ := (hI.ms m' (List.mem_of_getElem? hm')).ok
  refine ⟨q1, q2, fun h0 => ?_⟩
  obtain ⟨b, hb⟩ := q3 h0
  exact ⟨ρ b, by show m'.f.map ρ = _; rw [hb]; rfl⟩
theorem Ren.mslen {ρ : Nat → Nat} {n : Nat} {p d : DM} (h : Ren ρ n p d) : d.ms.length = p.ms.length := by rw [h.ms, List.length_map]
theorem DK.names {w : World} {B db : Nat} {p : DM} {n T : Nat} {F : Nat → Prop} (h : DK w B db p n T F) (hT : T ≤ 1099511627000) :
    Calls Try.prog 35 #[.pointer (some ⟨db, 0, none⟩)] w fun e w' => e = .returned (.int .i64 ((syncN p).2 : Nat)) ∧ ∃ F', DK w' B db (syncN p).1 n (T + 2) F' ∧ Mv F F' w w' := by
  obtain ⟨hI, sb, nb, N, mv, fs, fv, ρ, d, hD, hR, hfs, hN, rfl⟩ := h
  have h1 := hI.st
  have h2 := hI.ah
  have h3 := hR.st
  have h4 := hR.ah
  have hml := hR.mslen
  have hoff := hR.off
  have hsE := hR.strE
  obtain ⟨r1, r2⟩ := hR.names hI
  refine (syncNames_any hD (by omega) (hR.movOk hI) (by omega) (by omega)).mono fun e w' ⟨he, mv', N', hN', hD', hM⟩ => ?_
  refine ⟨by rw [he, r1], _, ⟨hI.names, sb, nb, N', mv', fs, fv, ρ, _, hD', r2, hfs, ?_, rfl⟩, hM⟩
  rw [r2.mslen] at hN'
  omega
theorem DK.rem {w : World} {B db : Nat} {p : DM} {n T : Nat} {F : Nat → Prop} (h : DK w B db p n T F) (hT : T ≤ 1099511627000) (s : ByteArray) :
    Calls Try.prog 37 #[.pointer (some ⟨db, 0, none⟩), .string s] w fun e w' => e = .returned (.int .i64 ((removeD p s).2 : Nat)) ∧ ∃ F', DK w' B db (removeD p s).1 n (T + 2) F' ∧ Mv F F' w w' := by
  obtain ⟨hI, sb, nb, N, mv, fs, fv, ρ, d, hD, hR, hfs, hN, rfl⟩ := h
  have h1 := hI.st
  have h2 := hI.ah
  have h3 := hR.st
  have h4 := hR.ah
  have hml := hR.mslen
  refine (remove_any hD (hR.filesOf hI.ents) (by omega) (by omega) (by omega) (by omega) s).mono fun e w' ⟨he, mv', N', hN', hD', hM⟩ => ?_
  obtain ⟨r1, r2⟩ := hR.rem s
  refine ⟨by rw [he, r1], _, ⟨hI.rem s, sb, nb, N', mv', fs, fv, ρ, _, hD', r2, hfs, ?_, rfl⟩, hM⟩
  have : (removeD p s).1.ms.length ≤ p.ms.length + 1 := by
    unfold removeD
    split
    · show (p.ms ++ [_]).length ≤ _; rw [List.length_append]; exact Nat.le_refl _
    · exact Nat.le_succ _
  omega
theorem DK.ren {w : World} {B db : Nat} {p : DM} {n T : Nat} {F : Nat → Prop} (h : DK w B db p n T F) (hT : T ≤ 1099511627000) (s t : ByteArray) :
    Calls Try.prog 36 #[.pointer (some ⟨db, 0, none⟩), .string s, .string t] w fun e w' => e = .returned (.int .i64 ((renameD p s t).2 : Nat)) ∧ ∃ F', DK w' B db (renameD p s t).1 n (T + 2) F' ∧ Mv F F' w w' := by
  obtain ⟨hI, sb, nb, N, mv, fs, fv, ρ, d, hD, hR, hfs, hN, rfl⟩ := h
  have h1 := hI.st
  have h2 := hI.ah
  have h3 := hR.st
  have h4 := hR.ah
  have hml := hR.mslen
  refine (rename_any hD (hR.filesOf hI.ents) (by omega) (by omega) (by omega) (by omega) s t).mono fun e w' ⟨he, mv', N', hN', hD', hM⟩ => ?_
  obtain ⟨r1, r2⟩ := hR.ren hI s t
  refine ⟨by rw [he, r1], _, ⟨hI.ren s t, sb, nb, N', mv', fs, fv, ρ, _, hD', r2, hfs, ?_, rfl⟩, hM⟩
  have : (renameD p s t).1.ms.length ≤ p.ms.length + 1 := by
    unfold renameD
    split
    · split
      · show (if _ then _ else _ : DM).ms.length ≤ _
        split
        · exact Nat.le_succ _
        · show (p.ms ++ [_]).length ≤ _; rw [List.length_append]; exact Nat.le_refl _
      · exact Nat.le_succ _
    · exact Nat.le_succ _
  omega
theorem DK.app {w : World} {B db : Nat} {p : DM} {n T : Nat} {F : Nat → Prop} (h : DK w B db p n T F) (hT : T ≤ 17179869184) (s : ByteArray) (a : Option Addr) (c : Nat) (l : List Nat) (hl : l.length ≤ 1099511627776) (hb : BL w a l) (hnil : a = none → l.length = 0 ∧ c = 0) (hfr : ∀ ad, a = some ad → 0 < l.length → ad.block < w.heap.size ∧ ¬ F ad.block) :
    Calls Try.prog 32 #[.pointer (some ⟨db, 0, none⟩), .string s, .slice a l.length c] w fun e w' => e = .returned (.int .i64 ((appD p s l n).2 : Nat)) ∧ ∃ F', DK w' B db (appD p s l n).1 (appN p n s l) (T + l.length + 2) F' ∧ Mv F F' w w' := by
  obtain ⟨hI, sb, nb, N, mv, fs, fv, ρ, d, hD, hR, hfs, hN, rfl⟩ := h
  have h1 := hI.st
  have h2 := hI.ah
  have h3 := hR.st
  have h4 := hR.ah
  have h5 := hR.room
  have h6 := hI.room
  have h7 := hR.used hI.ents
  have h8 := hI.used
  have hml := hR.mslen
  refine (append_any hD (hR.filesOf hI.ents) (fun s b hb => hR.led hI hfs (by omega) s b hb) (hR.heldIn hI.ents hfs) (by omega) (by omega) (by omega) (by omega) (by omega) (by omega) s a c l hl hb hnil hfr).mono fun e w' ⟨fb, hfb, he, mv', N', fs', fv', hN', hD', hM, hfs'⟩ => ?_
  obtain ⟨r1, r2, r3⟩ := hR.app hI s l fb (fun i hi e => by
    have := ((hD.files _ ((hfs _).2 ⟨i, hi, rfl⟩)).ge _ (.inl rfl)).2
    omega)
  rw [r2] at hfs'
  refine ⟨by rw [he, r1], _, ⟨hI.app s l, sb, nb, N', mv', fs', fv', _, _, hD', r3, ?_, ?_, rfl⟩, hM⟩
  · unfold appN
    cases hm : madeM p s l with
    | true =>
      rw [hm, if_pos rfl] at hfs'
      rw [if_pos rfl, if_pos rfl, hfs']
      intro b
      constructor
      · intro hb
        rcases List.mem_cons.1 hb with e | hb
        · exact ⟨n, by omega, by rw [put1_at]; exact e.symm⟩
        · obtain ⟨i, hi, e⟩ := (hfs b).1 hb
          exact ⟨i, by omega, by rw [put1_ne _ _ (by omega)]; exact e⟩
      · rintro ⟨i, hi, e⟩
        by_cases ei : i = n
        · rw [ei, put1_at] at e
          rw [← e]; simp
        · rw [put1_ne _ _ ei] at e
          exact List.mem_cons_of_mem _ ((hfs b).2 ⟨i, by omega, e⟩)
    | false =>
      rw [hm, if_neg (by simp)] at hfs'
      rw [if_neg (by simp), if_neg (by simp), hfs']
      exact hfs
  · have : (appD p s l n).1.ms.length ≤ p.ms.length + 1 := by
      unfold appD
      split
      · split <;> exact Nat.le_succ _
      · split
        · split
          · exact Nat.le_succ _
          · split
            · exact Nat.le_succ _
            · show (p.ms ++ [_]).length ≤ _; rw [List.length_append]; exact Nat.le_refl _
        · exact Nat.le_succ _
    omega
end Go.Proofs.Ytbnlgohaaadgeaa

/- Package disk: the calls that tell, as plain data: Crash, Read, Size, List, Strokes, Room; Plan. -/
namespace Go.Proofs.Ytbnlgohaaadgeaa
open Go.RowKit Go.Maps Go.Sort
set_option maxRecDepth 100000
set_option maxRecDepth 100000

theorem Ren.fileAt {ρ : Nat → Nat} {n : Nat} {p d : DM} (h : Ren ρ n p d) {D : DataW Nat} (h2 : Ents n D) {q : Lit × DataW Nat} (hq : q ∈ entsOf D) : ∃ i, i < n ∧ q.2 = .held i ∧ (renE ρ q).2 = .held (ρ i) ∧ d.fm (ρ i) = p.fm i ∧ fileOf d.fm (renE ρ q).2 = fileOf p.fm q.2 := by
  obtain ⟨es, rfl, _, hall⟩ := h2
  obtain ⟨_, _, _, i, hi, h3⟩ := hall q hq
  refine ⟨i, hi, h3, ?_, h.fm i hi, ?_⟩
  · show renV ρ q.2 = _
    rw [h3]; rfl
  · show fileOf d.fm (renV ρ q.2) = fileOf p.fm q.2
    rw [h3]
    show d.fm (ρ i) = p.fm i
    exact h.fm i hi
theorem renD_ents (ρ : Nat → Nat) {n : Nat} {D : DataW Nat} (h : Ents n D) : renD ρ D = .map ((entsOf D).map (renE ρ)) := by
  obtain ⟨es, rfl, _, _⟩ := h
  rfl

theorem DK.crash {w : World} {B db : Nat} {p : DM} {n T : Nat} {F : Nat → Prop} (h : DK w B db p n T F) (hT : T ≤ 1099511627000) (ps : List Int) (pa : Option Addr) (pc : Nat) (hp : PicksL w pa ps) :
    Calls Try.prog 12 #[.pointer (some ⟨db, 0, none⟩), .slice pa ps.length pc] w fun e w' => ∃ g, e = .returned (.slice (some ⟨g, 0, none⟩) (crashI p ps).length (crashI p ps).length) ∧ Lies w.heap.size w'.heap.size w' (fun W => ImgI W (some ⟨g, 0, none⟩) (crashI p ps)) ∧ Below w.heap.size w w' := by
  obtain ⟨hI, sb, nb, N, mv, fs, fv, ρ, d, hD, hR, hfs, hN, rfl⟩ := h
  have hml := hR.mslen
  obtain ⟨hE, hsz⟩ := hI.left ps
  have hes : movesOn d.safe (d.ms.take (pickM ps 0 d.ms.length)) = .map ((entsOf (leftM p ps)).map (renE ρ)) := by
    rw [hR.safe, hR.ms, List.length_map, ← List.map_take, renM_moves ρ _ _ (fun m hm => ((hI.ms m (List.mem_of_mem_take hm)).ok).2.2), ← renD_ents ρ hE]
    rfl
  have hlen : (entsOf (leftM p ps)).length ≤ 64 := by
    obtain ⟨es, e, _, _⟩ := hE
    rw [e] at hsz ⊢
    exact hsz
  have him : ((entsOf (leftM p ps)).map (renE ρ)).mapIdx (fun i q => (keyB q.1, leftB (fileOf d.fm q.2) ps i)) = crashI p ps := by
    unfold crashI
    apply List.ext_getElem?
    intro i
    rw [List.getElem?_mapIdx, List.getElem?_mapIdx, List.getElem?_map, Option.map_map]
    cases hq : (entsOf (leftM p ps))[i]? with
    | none => rfl
    | some q =>
      obtain ⟨_, _, _, _, _, e⟩ := hR.fileAt hE (List.mem_of_getElem? hq)
      show some (keyB q.1, leftB (fileOf d.fm (renE ρ q).2) ps i) = some (keyB q.1, leftB (fileOf p.fm q.2) ps i)
      rw [e]
  have hcl : (crashI p ps).length = (entsOf (leftM p ps)).length := List.length_mapIdx
  refine (crash_gen hD (hR.movOk hI) (by omega) ps pa pc hp hes (hE.names.1.ren ρ) (by rw [List.length_map]; exact hlen) (fun q hq => ?_)).mono fun e w' ⟨g, he, hl, hb⟩ => ⟨g, ?_, ?_, hb⟩
  · obtain ⟨q0, hq0, rfl⟩ := List.mem_map.1 hq
    obtain ⟨i, hi, _, e2, e3, _⟩ := hR.fileAt hE hq0
    have hf := hI.fit i hi
    have hu := unitsM_le (p.fm i).chs
    have := hf.2.2
    exact ⟨ρ i, e2, (hfs _).2 ⟨i, hi, rfl⟩, by rw [e3]; exact hf.fit (by omega), by rw [e3]; omega⟩
  · rw [he, hcl, List.length_map]
  · rw [him] at hl; exact hl

/-- What Read tells. -/
def readM (p : DM) (s : ByteArray) : List Nat × Nat := match findM p.off p.seen s with
  | (some i, _) => ((p.fm i).all, 0)
  | (none, e) => ([], e)
theorem DK.read {w : World} {B db : Nat} {p : DM} {n T : Nat} {F : Nat → Prop} (h : DK w B db p n T F) (hT : T ≤ 1099511627000) (s : ByteArray) :
    Calls Try.prog 28 #[.pointer (some ⟨db, 0, none⟩), .string s] w fun e w' => ∃ v, e = .returned (.tuple #[v, .int .i64 ((readM p s).2 : Nat)]) ∧ OwnL w' w.heap.size v (readM p s).1 ∧ Below w.heap.size w w' := by
  obtain ⟨hI, sb, nb, N, mv, fs, fv, ρ, d, hD, hR, hfs, hN, rfl⟩ := h
  have hf2 := hR.fnd s
  obtain ⟨q, e, hf⟩ : ∃ q e, findM p.off p.seen s = (q, e) := ⟨_, _, rfl⟩
  rw [hf] at hf2
  unfold readM
  rw [hf]
  cases q with
  | none =>
    refine (readD_none hD (hR.filesOf hI.ents) s (e0 := e) hf2).mono fun r w' ⟨he, hw⟩ => ⟨_, he, ?_, by rw [hw]; exact Below.refl _ _⟩
    exact own_nil _ _ _
  | some i =>
    have hi := hI.ents.found hf
    have hfi := hI.fit i hi
    have hu := unitsM_le (p.fm i).chs
    have h3 := hfi.2.2
    refine (readD_some hD (hR.filesOf hI.ents) s (b := ρ i) (e0 := e) hf2 ((hfs _).2 ⟨i, hi, rfl⟩) (by rw [hR.fm i hi]; exact hfi.fit (by omega)) (by rw [hR.fm i hi]; omega)).mono fun r w' ⟨v, he, ho, hb⟩ => ⟨v, he, ?_, hb⟩
    rw [hR.fm i hi, aftM_all _ _ _ (Nat.le_refl _)] at ho
    exact ho
theorem DK.strokes {w : World} {B db : Nat} {p : DM} {n T : Nat} {F : Nat → Prop} (h : DK w B db p n T F) :
    Calls Try.prog 27 #[.pointer (some ⟨db, 0, none⟩)] w fun e w' => e = .returned (.int .i64 (p.st : Nat)) ∧ w' = w := by
  obtain ⟨hI, sb, nb, N, mv, fs, fv, ρ, d, hD, hR, hfs, hN, rfl⟩ := h
  have := strokesD hD
  rw [hR.st] at this
  exact this
theorem DK.room {w : World} {B db : Nat} {p : DM} {n T : Nat} {F : Nat → Prop} (h : DK w B db p n T F) :
    Calls Try.prog 19 #[.pointer (some ⟨db, 0, none⟩)] w fun e w' => e = .returned (.int .i64 (p.room : Nat)) ∧ w' = w := by
  obtain ⟨hI, sb, nb, N, mv, fs, fv, ρ, d, hD, hR, hfs, hN, rfl⟩ := h
  have := roomD hD
  rw [hR.room] at this
  exact this
theorem DK.sizeOff {w : World} {B db : Nat} {p : DM} {n T : Nat} {F : Nat → Prop} (h : DK w B db p n T F) (s : ByteArray) (hoff : p.off = true) :
    Calls Try.prog 30 #[.pointer (some ⟨db, 0, none⟩), .string s] w fun e w' => e = .returned (.tuple #[.int .i64 0, .int .i64 45]) ∧ w' = w := by
  obtain ⟨hI, sb, nb, N, mv, fs, fv, ρ, d, hD, hR, hfs, hN, rfl⟩ := h
  refine sizeD_none hD (hR.filesOf hI.ents) s (e0 := 45) ?_
  rw [hR.off, hoff]; rfl
/-- The names that are seen. -/
def namesI (p : DM) : List (List UInt8) := (entsOf p.seen).map (fun q => keyB q.1)
def NamesAt (W : World) (a : Option Addr) (ns : List (List UInt8)) : Prop := ∀ (i : Nat) (s : List UInt8), ns[i]? = some s → ∃ g, a = some ⟨g, 0, none⟩ ∧ W.cell? ⟨g, i, none⟩ = some (.string ⟨s.toArray⟩)
theorem DK.list {w : World} {B db : Nat} {p : DM} {n T : Nat} {F : Nat → Prop} (h : DK w B db p n T F) (hoff : p.off = false) :
    Calls Try.prog 29 #[.pointer (some ⟨db, 0, none⟩)] w fun e w' => ∃ a c, e = .returned (.tuple #[.slice a (namesI p).length c, .int .i64 0]) ∧ Lies w.heap.size w'.heap.size w' (fun W => NamesAt W a (namesI p)) ∧ Below w.heap.size w w' := by
  obtain ⟨hI, sb, nb, N, mv, fs, fv, ρ, d, hD, hR, hfs, hN, rfl⟩ := h
  have hE := hI.ents
  have hsz := hI.cnt
  have hlen : (entsOf p.seen).length ≤ 64 := by
    obtain ⟨es, e, _, _⟩ := hE
    rw [e] at hsz ⊢
    exact hsz
  have hnl : (namesI p).length = ((entsOf p.seen).map (renE ρ)).length := by unfold namesI; rw [List.length_map, List.length_map]
  refine (listD hD (by rw [hR.seen]; exact renD_ents ρ hE) (hE.names.1.ren ρ) (by rw [List.length_map]; omega) (by rw [hR.off]; exact hoff)).mono fun e w' ⟨a, c, he, hc, hb⟩ => ⟨a, c, by rw [he, hnl], ⟨Nat.le_refl _, fun W hW i s hs => ?_⟩, hb⟩
  unfold namesI at hs
  rw [List.getElem?_map] at hs
  obtain ⟨q, hq, rfl⟩ := Option.map_eq_some_iff.1 hs
  obtain ⟨g, e1, e2, e3⟩ := hc i (renE ρ q) (by rw [List.getElem?_map, hq]; rfl)
  refine ⟨g, e1, ?_⟩
  rw [World.cell?_of_block (a := ⟨g, i, none⟩) (hW g e3 (World.block_lt_of_cell? _ _ e2))]
  exact e2
theorem DK.listOff {w : World} {B db : Nat} {p : DM} {n T : Nat} {F : Nat → Prop} (h : DK w B db p n T F) (hoff : p.off = true) :
    Calls Try.prog 29 #[.pointer (some ⟨db, 0, none⟩)] w fun e w' => e = .returned (.tuple #[.slice none 0 0, .int .i64 45]) ∧ w' = w := by
  obtain ⟨hI, sb, nb, N, mv, fs, fv, ρ, d, hD, hR, hfs, hN, rfl⟩ := h
  exact listD_off hD (by rw [hR.off]; exact hoff)
end Go.Proofs.Ytbnlgohaaadgeaa

/- Package disk: Plan. -/
namespace Go.Proofs.Ytbnlgohaaadgeaa
open Go.RowKit Go.Maps Go.Sort
set_option maxRecDepth 100000
set_option maxRecDepth 100000

def planM (p : DM) (po pf pt : Int) : DM := if p.off then p else { p with po := po, pf := pf, pt := pt, ah := p.st }
theorem mv_set {F F' : Nat → Prop} {w w' : World} {b i : Nat} {v : Value} (h : Mv F F' w w') (hb : F' b) : Mv F F' w (w'.setCell ⟨b, i, none⟩ v) :=
  h.trans ⟨rfl, rfl, rfl, by simp [World.setCell], fun k _ hn => Below.heap_setCell _ _ _ _ (fun e => hn (e ▸ hb)), fun k hk => .inl hk⟩
set_option maxHeartbeats 1600000 in
theorem planD {w : World} {B db sb nb N : Nat} {dm : DM} {mv : Value} {fs : List Nat} {fv : Nat → FV} (h : DiskIs w B db sb nb N dm mv fs fv) (po pf pt : Int) :
    Calls Try.prog 25 #[.pointer (some ⟨db, 0, none⟩), .agg #[.int .i64 po, .int .i64 pf, .int .i64 pt]] w fun e w' => e = .returned (.tuple #[]) ∧ DiskIs w' B db sb nb N (planM dm po pf pt) mv fs fv ∧ Mv (DFt db sb nb dm mv fs fv) (DFt db sb nb (planM dm po pf pt) mv fs fv) w w' := by
  have bA : Below w.heap.size w (w.alloc (.cells #[.int .i64 po, .int .i64 pf, .int .i64 pt] 31)) := (Below.refl _ _).alloc (Nat.le_refl _) _
  have hA := h.on bA
  have x0 : (w.alloc (.cells #[.int .i64 po, .int .i64 pf, .int .i64 pt] 31)).cell? ⟨w.heap.size, 0, none⟩ = some (.int .i64 po) := World.cell?_alloc_at (w := w) _ _ _ 0 rfl
  have x1 : (w.alloc (.cells #[.int .i64 po, .int .i64 pf, .int .i64 pt] 31)).cell? ⟨w.heap.size, 1, none⟩ = some (.int .i64 pf) := World.cell?_alloc_at (w := w) _ _ _ 1 rfl
  have x2 : (w.alloc (.cells #[.int .i64 po, .int .i64 pf, .int .i64 pt] 31)).cell? ⟨w.heap.size, 2, none⟩ = some (.int .i64 pt) := World.cell?_alloc_at (w := w) _ _ _ 2 rfl
  have hmA : Mv (DFt db sb nb dm mv fs fv) (DFt db sb nb dm mv fs fv) w (w.alloc (.cells #[.int .i64 po, .int .i64 pf, .int .i64 pt] 31)) := Mv.of_below bA
  obtain ⟨W, HW⟩ : ∃ W, Hid (w.alloc (.cells #[.int .i64 po, .int .i64 pf, .int .i64 pt] 31) = W) := ⟨_, rfl⟩
  rw [HW.out] at bA hA x0 x1 x2 hmA
  have c4 : W.cell? ⟨db, 4, none⟩ = some (.bool dm.off) := hA.row.cell (i := 4) (by decide)
  by_cases hoff : dm.off = true
  · have eP : planM dm po pf pt = dm := if_pos hoff
    rw [eP]
    rw [hoff] at c4
    clear eP
    have HR : Hid (DiskIs W B db sb nb N dm mv fs fv ∧ Mv (DFt db sb nb dm mv fs fv) (DFt db sb nb dm mv fs fv) w W) := ⟨hA, hmA⟩
    clear h hA hmA hoff bA
    go_enter Try.func25, Try.ntmps25
    go_upto_region 1 with fail
    rw [HW.out]
    go_wp2_with fail
    try simp only [Exit.inBlock, Exit.then]
    refine bodyPost_ret (results_none rfl _ _ _) rfl ?_
    exact ⟨rfl, HR.out⟩
  · have e0 : planM dm po pf pt = { dm with po := po, pf := pf, pt := pt, ah := dm.st } := if_neg hoff
    rw [e0]
    have hoff : dm.off = false := by simpa using hoff
    rw [hoff] at c4
    have r1 := hA.row.set 7 (.int .i64 po)
    have r2 := r1.set 8 (.int .i64 pf)
    have r3 := r2.set 9 (.int .i64 pt)
    have r4 := r3.set 6 (.int .i64 (dm.st : Nat))
    have k7 : W.cell? ⟨db, 7, none⟩ = some (.int .i64 dm.po) := hA.row.cell (i := 7) (by decide)
    have f7 := hA.row.frozen 7
    have k8 : (W.setCell ⟨db, 7, none⟩ (.int .i64 po)).cell? ⟨db, 8, none⟩ = some (.int .i64 dm.pf) := r1.cell (i := 8) (by decide)
    have f8 := r1.frozen 8
    have k9 : ((W.setCell ⟨db, 7, none⟩ (.int .i64 po)).setCell ⟨db, 8, none⟩ (.int .i64 pf)).cell? ⟨db, 9, none⟩ = some (.int .i64 dm.pt) := r2.cell (i := 9) (by decide)
    have f9 := r2.frozen 9
    have k5 : (((W.setCell ⟨db, 7, none⟩ (.int .i64 po)).setCell ⟨db, 8, none⟩ (.int .i64 pf)).setCell ⟨db, 9, none⟩ (.int .i64 pt)).cell? ⟨db, 5, none⟩ = some (.int .i64 (dm.st : Nat)) := r3.cell (i := 5) (by decide)
    have k6 : (((W.setCell ⟨db, 7, none⟩ (.int .i64 po)).setCell ⟨db, 8, none⟩ (.int .i64 pf)).setCell ⟨db, 9, none⟩ (.int .i64 pt)).cell? ⟨db, 6, none⟩ = some (.int .i64 (dm.ah : Nat)) := r3.cell (i := 6) (by decide)
    have f6 := r3.frozen 6
    have hM0 : Mv (fun k => k = db) (fun k => k = db) W ((((W.setCell ⟨db, 7, none⟩ (.int .i64 po)).setCell ⟨db, 8, none⟩ (.int .i64 pf)).setCell ⟨db, 9, none⟩ (.int .i64 pt)).setCell ⟨db, 6, none⟩ (.int .i64 (dm.st : Nat))) := mv_set (mv_set (mv_set (mv_set (Mv.refl _ _) rfl) rfl) rfl) rfl
    obtain ⟨q1, q2⟩ := hA.turnRow (dm' := { dm with po := po, pf := pf, pt := pt, ah := dm.st }) rfl rfl rfl rfl (r4.congr (fun i hi => by
      match i, hi with
      | 0, _ => rfl
      | 1, _ => rfl
      | 2, _ => rfl
      | 3, _ => rfl
      | 4, _ => rfl
      | 5, _ => rfl
      | 6, _ => rfl
      | 7, _ => rfl
      | 8, _ => rfl
      | 9, _ => rfl)) hM0
    have HR : Hid (DiskIs _ B db sb nb N { dm with po := po, pf := pf, pt := pt, ah := dm.st } mv fs fv ∧ Mv (DFt db sb nb dm mv fs fv) (DFt db sb nb { dm with po := po, pf := pf, pt := pt, ah := dm.st } mv fs fv) w _) := ⟨q1, hmA.trans q2⟩
    clear h hA hmA hoff bA q1 q2 hM0 r1 r2 r3 r4 e0
    generalize ({ dm with po := po, pf := pf, pt := pt, ah := dm.st } : DM) = D2 at *
    generalize dm.st = ST at *
    generalize dm.ah = AH at *
    generalize dm.po = PO at *
    generalize dm.pf = PF at *
    generalize dm.pt = PT at *
    go_enter Try.func25, Try.ntmps25
    go_upto_region 1 with fail
    rw [HW.out]
    go_wp2_with fail
    go_end0
    exact ⟨rfl, HR.out⟩
theorem DK.plan {w : World} {B db : Nat} {p : DM} {n T : Nat} {F : Nat → Prop} (h : DK w B db p n T F) (po pf pt : Int) :
    Calls Try.prog 25 #[.pointer (some ⟨db, 0, none⟩), .agg #[.int .i64 po, .int .i64 pf, .int .i64 pt]] w fun e w' => e = .returned (.tuple #[]) ∧ ∃ F', DK w' B db (planM p po pf pt) n T F' ∧ Mv F F' w w' := by
  obtain ⟨hI, sb, nb, N, mv, fs, fv, ρ, d, hD, hR, hfs, hN, rfl⟩ := h
  refine (planD hD po pf pt).mono fun e w' ⟨he, hD', hM⟩ => ⟨he, _, ⟨?_, sb, nb, N, mv, fs, fv, ρ, _, hD', ?_, hfs, ?_, rfl⟩, hM⟩
  · unfold planM
    split
    · exact hI
    · exact ⟨hI.safe, hI.seen, hI.ms, hI.few, hI.fit, Nat.le_refl _, hI.st, hI.room⟩
  · by_cases ho : p.off = true
    · have e1 : planM p po pf pt = p := if_pos ho
      have e2 : planM d po pf pt = d := if_pos (by rw [hR.off]; exact ho)
      rw [e1, e2]; exact hR
    · have e1 : planM p po pf pt = { p with po := po, pf := pf, pt := pt, ah := p.st } := if_neg ho
      have e2 : planM d po pf pt = { d with po := po, pf := pf, pt := pt, ah := d.st } := if_neg (by rw [hR.off]; exact ho)
      rw [e1, e2]
      exact ⟨hR.room, hR.off, hR.st, hR.st, rfl, rfl, rfl, hR.safe, hR.seen, hR.ms, hR.fm, hR.inj⟩
  · have : (planM p po pf pt).ms = p.ms := by unfold planM; split <;> rfl
    rw [this]; exact hN
end Go.Proofs.Ytbnlgohaaadgeaa

/- Package disk: Load and New, as plain data. -/
namespace Go.Proofs.Ytbnlgohaaadgeaa
open Go.RowKit Go.Maps Go.Sort
set_option maxRecDepth 100000
set_option maxRecDepth 100000

def loadP (room : Nat) (nm : Nat → ByteArray) (ds : Nat → List Nat) (i : Nat) : DM := ⟨room, nmD nm (fun j => j) i, nmD nm (fun j => j) i, [], false, 0, 0, 0, 0, 0, fun j => ⟨ds j, [], (ds j).length⟩⟩
theorem nmD_ents (nm : Nat → ByteArray) : ∀ n, (∀ i, i < n → okN (nm i) = true) → Ents n (nmD nm (fun j => j) n)
  | 0, _ => Ents.empty 0
  | n + 1, h => ((nmD_ents nm n (fun i hi => h i (by omega))).mono (Nat.le_succ n)).put (h n (by omega)) (Nat.lt_succ_self n)
/-- While a disk is loaded. -/
structure Ld (w0 w : World) (db sb nb room i : Nat) (nm : Nat → ByteArray) (ds : Nat → List Nat) : Prop where
  mem : ∃ fs fv fb d, DiskIs w w0.heap.size db sb nb i d (.slice none 0 0) fs fv ∧ Ren fb i (loadP room nm ds i) d ∧ (∀ b, b ∈ fs ↔ ∃ j, j < i ∧ fb j = b)
  below : Below w0.heap.size w0 w
structure Ld1 (w0 w : World) (db sb nb room i f : Nat) (nm : Nat → ByteArray) (ds : Nat → List Nat) : Prop where
  mem : ∃ fs fv fb d, DiskIs w w0.heap.size db sb nb i d (.slice none 0 0) fs fv ∧ Ren fb (i + 1) (loadP room nm ds i) d ∧ (∀ b, b ∈ fs ↔ ∃ j, j < i + 1 ∧ fb j = b) ∧ fb i = f
  below : Below w0.heap.size w0 w
theorem Ld.on {w0 w w' : World} {db sb nb room i : Nat} {nm : Nat → ByteArray} {ds : Nat → List Nat} (h : Ld w0 w db sb nb room i nm ds) (hb : Below w.heap.size w w') : Ld w0 w' db sb nb room i nm ds := by
  obtain ⟨⟨fs, fv, fb, d, h1, h2, h3⟩, h4⟩ := h
  exact ⟨⟨fs, fv, fb, d, h1.on hb, h2, h3⟩, h4.trans (hb.mono h4.size)⟩
theorem put1_self {α : Type} (f : Nat → α) (i : Nat) : put1 f i (f i) = f := by
  funext j
  by_cases e : j = i
  · rw [e, put1_at]
  · rw [put1_ne _ _ e]
theorem Ld.born {w0 w : World} {db sb nb room i : Nat} {nm : Nat → ByteArray} {ds : Nat → List Nat} (h : Ld w0 w db sb nb room i nm ds) (hok : ∀ j, j < i → okN (nm j) = true) {a : Option Addr} {c : Nat} (hb : BL w a (ds i)) (hm : (ds i).length ≤ 140737488355328) :
    Calls Try.prog 47 #[.slice a (ds i).length c] w fun e w' => ∃ f, e = .returned (.pointer (some ⟨f, 0, none⟩)) ∧ Below w.heap.size w w' ∧ Ld1 w0 w' db sb nb room i f nm ds := by
  obtain ⟨⟨fs, fv, fb, d, h1, h2, h3⟩, h4⟩ := h
  refine (newFile_is a c (ds i) w w0.heap.size h4.size hm hb).mono fun e w' ⟨f, v, he, hbb, hF, hnew⟩ => ⟨f, he, hbb, ?_⟩
  obtain ⟨q1, _⟩ := h1.born hbb hF hnew
  have hE := nmD_ents nm i hok
  have hfb : ∀ j, j < i → fb j ≠ f := fun j hj e => by
    have l1 := ((h1.files _ ((h3 _).2 ⟨j, hj, rfl⟩)).ge _ (.inl rfl)).2
    have l2 : w.heap.size ≤ f := hnew f (.inl rfl)
    omega
  have q2 := h2.born hE hE (fun m hm => by simp [loadP] at hm) hfb ⟨ds i, [], (ds i).length⟩
  have e1 : ({ loadP room nm ds i with fm := put1 (loadP room nm ds i).fm i ⟨ds i, [], (ds i).length⟩ } : DM) = loadP room nm ds i := by
    have : put1 (loadP room nm ds i).fm i ⟨ds i, [], (ds i).length⟩ = (loadP room nm ds i).fm := put1_self (fun j => (⟨ds j, [], (ds j).length⟩ : FM)) i
    rw [this]
  rw [e1] at q2
  refine ⟨⟨_, _, _, _, q1, q2, fun b => ?_, put1_at _ _ _⟩, h4.trans (hbb.mono h4.size)⟩
  constructor
  · intro hb
    rcases List.mem_cons.1 hb with e | hb
    · exact ⟨i, by omega, by rw [put1_at]; exact e.symm⟩
    · obtain ⟨j, hj, e⟩ := (h3 b).1 hb
      exact ⟨j, by omega, by rw [put1_ne _ _ (by omega)]; exact e⟩
  · rintro ⟨j, hj, e⟩
    by_cases ej : j = i
    · rw [ej, put1_at] at e
      rw [← e]; simp
    · rw [put1_ne _ _ ej] at e
      exact List.mem_cons_of_mem _ ((h3 b).2 ⟨j, by omega, e⟩)
theorem Ld1.lay {w0 w : World} {db sb nb room i f : Nat} {nm : Nat → ByteArray} {ds : Nat → List Nat} (h : Ld1 w0 w db sb nb room i f nm ds) (hi : i ≤ 64) (hs : (nm i).size ≤ 1048576) :
    Calls Try.prog 46 #[.pointer (some ⟨db, 1, none⟩), .string (nm i), .pointer (some ⟨f, 0, none⟩)] w fun e w' => e = .returned (.tuple #[]) ∧ Ld w0 w' db sb nb room (i + 1) nm ds ∧ (∀ b j v, w.cell? ⟨b, j, none⟩ = some v → w'.cell? ⟨b, j, none⟩ = some v) := by
  obtain ⟨⟨fs, fv, fb, d, h1, h2, h3, h5⟩, h4⟩ := h
  have c1 : w.cell? ⟨db, 1, none⟩ = some (.map (some sb)) := h1.row.cell (i := 1) (by decide)
  have c2 : w.cell? ⟨db, 2, none⟩ = some (.map (some nb)) := h1.row.cell (i := 2) (by decide)
  have hsame : d.seen = d.safe := by rw [h2.seen, h2.safe]; rfl
  have hseen := h1.seen
  rw [hsame] at hseen
  refine (lay_any c1 c2 h1.safe hseen h1.sn (by omega) (nm i) hs f).mono fun e w' ⟨he, m1, m2, w1, g1, g2, es2, cl2, hm2⟩ => ?_
  obtain ⟨es1, cl1, hm1⟩ : ∃ es cl, w.heap[sb]? = some (.map es cl) := by
    obtain ⟨es, cl, hx, _⟩ := h1.safe
    exact ⟨es, cl, hx⟩
  have cc : ∀ b i v, w.cell? ⟨b, i, none⟩ = some v → w'.cell? ⟨b, i, none⟩ = some v := fun b i v hc => by
    have n1 := cells_ne hc hm1
    have hc1 : w1.cell? ⟨b, i, none⟩ = some v := by
      rw [World.cell?_of_block (a := ⟨b, i, none⟩) (g1.block b (World.block_lt_of_cell? _ _ hc) (fun e => n1 (Option.some.inj e)))]; exact hc
    have n2 := cells_ne hc1 hm2
    rw [World.cell?_of_block (a := ⟨b, i, none⟩) (g2.block b (World.block_lt_of_cell? _ _ hc1) (fun e => n2 (Option.some.inj e)))]; exact hc1
  have hM : Mv (NF2 db sb nb (.slice none 0 0)) (NF2 db sb nb (.slice none 0 0)) w w' := ⟨g2.os.trans g1.os, g2.tape.trans g1.tape, g2.output.trans g1.output, Nat.le_trans g1.size g2.size, fun k hk hn => (g2.block k (Nat.lt_of_lt_of_le hk g1.size) (fun e => hn (.inr (.inr (.inl (Option.some.inj e)))))).trans (g1.block k hk (fun e => hn (.inr (.inl (Option.some.inj e))))), fun k hk => .inl hk⟩
  have hdb1 := row_map h1.row h1.safe
  have hdb2 := row_map h1.row h1.seen
  have hrow : w'.rowIs db 81 10 (dCell d sb nb (.slice none 0 0)) := by
    refine (h1.row.of_block (w' := w1) (g1.block db h1.row.lt (fun e => hdb1 (Option.some.inj e)))).of_block (g2.block db ?_ (fun e => hdb2 (Option.some.inj e)))
    exact Nat.lt_of_lt_of_le h1.row.lt g1.size
  have hms : d.ms = [] := by rw [h2.ms]; rfl
  have hmow : w'.ownsRow w0.heap.size 103 3 (.slice none 0 0) d.ms.length (mvCells d.ms) := by rw [hms]; exact ⟨rfl, .inl ⟨rfl, rfl⟩⟩
  obtain ⟨q1, q2⟩ := h1.turnNames (dm' := { d with safe := d.safe.put (.string (nm i).data.toList) (.held f), seen := d.safe.put (.string (nm i).data.toList) (.held f) }) (mv' := .slice none 0 0) (N' := i + 1) rfl (hrow.congr (fun i _ => rfl)) m1 m2 hmow hM
  refine ⟨he, ⟨⟨fs, fv, fb, _, q1, ?_, h3⟩, ?_⟩, cc⟩
  · have e2 : d.safe.put (.string (nm i).data.toList) (.held f) = renD fb (nmD nm (fun j => j) (i + 1)) := by
      show _ = renD fb ((nmD nm (fun j => j) i).put _ _)
      rw [renD_put, h5, h2.safe]
      rfl
    exact ⟨h2.room, h2.off, h2.st, h2.ah, h2.po, h2.pf, h2.pt, e2, e2, h2.ms, h2.fm, h2.inj⟩
  · refine Mv.below h4 h4.size (fun k hk => ?_) hM
    rcases hk with e | e | e | e
    · rw [e]; exact h1.lb.1
    · rw [e]; exact h1.lb.2.1
    · rw [e]; exact h1.lb.2.2.1
    · simp [Value.ownBlock] at e
theorem sumL_at (dl : Nat → Nat) {i n : Nat} (h : i < n) : dl i ≤ sumL dl n := by
  have := sumL_mono dl (i := i + 1) (n := n) h
  have e : sumL dl (i + 1) = sumL dl i + dl i := rfl
  omega
theorem loadP_inv {room : Nat} {nm : Nat → ByteArray} {ds : Nat → List Nat} {n T : Nat} (hr : room ≤ 67108864) (hi : imgB n nm = true) (hd : ∀ i, i < n → (ds i).length ≤ T) : Inv (loadP room nm ds n) n T := by
  have hE := nmD_ents nm n (fun i h => img_ok hi h)
  refine ⟨hE, rfl, fun m hm => by simp [loadP] at hm, fun k _ => ?_, fun i h => ⟨trivial, rfl, hd i h⟩, Nat.le_refl _, Nat.zero_le _, hr⟩
  show size (movesOn (nmD nm (fun j => j) n) (([] : List Mov).take k)) ≤ 64
  rw [List.take_nil]
  show size (nmD nm (fun j => j) n) ≤ 64
  rw [nmD_size nm _ n (img_inj hi)]
  exact img_64 hi

set_option maxHeartbeats 3200000 in
theorem load_is (a : Option Addr) (n c : Nat) (nm : Nat → ByteArray) (ds : Nat → List Nat) (room T : Nat) (w : World) (h : Img w a n nm (fun i => (ds i).length) (fun i j => (ds i).getD j 0)) (hr : room ≤ 67108864) (hi : imgB n nm = true) (hf : sumL (fun i => (ds i).length) n ≤ room) (hT : 64 ≤ T) (hd : ∀ i, i < n → (ds i).length ≤ T) :
    Calls Try.prog 13 #[.slice a n c, .int .i64 room] w fun e w' => ∃ db F, e = .returned (.tuple #[.pointer (some ⟨db, 0, none⟩), .int .i64 0]) ∧ DK w' w.heap.size db (loadP room nm ds n) n T F ∧ Below w.heap.size w w' := by
  have hn64 : n ≤ 64 := img_64 hi
  have hii := isImage_any a n c nm _ _ w h
  rw [hi] at hii
  have HFI : Hid (∀ W, Below w.heap.size w W → Calls Try.prog 44 #[.slice a n c, .int .i64 room] W fun e w' => e = .returned (.bool true) ∧ Below W.heap.size W w') := fun W hb => by
    have := fits_any a n c nm _ _ room W (h.on hb) (by omega) hr
    rwa [decide_eq_true hf] at this
  have z0 : ¬ (room : Int) < 0 := by omega
  have z1 : ¬ (67108864 : Int) < (room : Int) := by omega
  have HI : Hid (Img w a n nm (fun i => (ds i).length) (fun i j => (ds i).getD j 0)) := h
  have HS : Hid (∀ i, i < n → okN (nm i) = true) := fun i h => img_ok hi h
  have HD : Hid (∀ i, i < n → (ds i).length ≤ 67108864) := fun i h => by have := sumL_at (fun i => (ds i).length) h; exact Nat.le_trans this (by omega)
  have HINV : Hid (Inv (loadP room nm ds n) n T) := loadP_inv hr hi hd
  clear hi hf h hd
  go_enter Try.func13, Try.ntmps13
  go_wp2_with fail
  refine hii.mono ?_
  rintro e w1 ⟨rfl, hb1⟩
  clear hii
  have hf1 := HFI.out w1 hb1
  go_wp2_with fail
  refine hf1.mono ?_
  rintro e w2 ⟨rfl, hb2⟩
  clear hf1 HFI
  have hbw2 := hb1.trans (hb2.mono hb1.size)
  go_wp2_with fail
  refine (newNames_any w2).mono ?_
  rintro e w3 ⟨sb, nb, rfl, m1, m2, hne, l1, l2, hb3⟩
  have hbw3 := hbw2.trans (hb3.mono hbw2.size)
  have hL0 : Ld w (w3.alloc (.cells #[.int .i64 room, .map (some sb), .map (some nb), .slice none 0 0, .bool false, .int .i64 0, .int .i64 0, .int .i64 0, .int .i64 0, .int .i64 0] 81)) w3.heap.size sb nb room 0 nm ds :=
    ⟨⟨[], fun _ => ⟨.slice none 0 0, .slice none 0 0, fun _ => .slice none 0 0⟩, fun j => j, loadP room nm ds 0, ⟨World.rowIs_alloc w3 #[.int .i64 room, .map (some sb), .map (some nb), .slice none 0 0, .bool false, .int .i64 0, .int .i64 0, .int .i64 0, .int .i64 0, .int .i64 0] _ _ (fun i hi => by
      match i, hi with
      | 0, _ => rfl
      | 1, _ => rfl
      | 2, _ => rfl
      | 3, _ => rfl
      | 4, _ => rfl
      | 5, _ => rfl
      | 6, _ => rfl
      | 7, _ => rfl
      | 8, _ => rfl
      | 9, _ => rfl), m1.alloc _, m2.alloc _, ⟨rfl, .inl ⟨rfl, rfl⟩⟩, fun b hb => by simp at hb, fun b c hb => by simp at hb, hne, ⟨hbw3.size, Nat.le_trans hbw2.size l1, Nat.le_trans hbw2.size l2, (hbw3.alloc hbw3.size _).size⟩⟩, ⟨rfl, rfl, rfl, rfl, rfl, rfl, rfl, rfl, rfl, rfl, fun _ _ => rfl, fun _ _ _ _ e => e⟩, fun b => by simp⟩, hbw3.alloc hbw3.size _⟩
  clear m1 m2 hne l1 l2 hb3 hb1 hb2 hbw2 hbw3
  go_upto_region 6 with fail
  generalize w3.alloc (.cells #[.int .i64 room, .map (some sb), .map (some nb), .slice none 0 0, .bool false, .int .i64 0, .int .i64 0, .int .i64 0, .int .i64 0, .int .i64 0] 81) = W4 at *
  generalize w3.heap.size = db at *
  go_wp2_with fail
  go_loopg [30] n (fun q s30 wx => ∃ (i : Nat), i ≤ n ∧ q = n - i ∧ s30 = .int .i64 i ∧ Ld w wx db sb nb room i nm ds)
  case atStart => exact ⟨0, Nat.zero_le _, rfl, rfl, hL0⟩
  case round =>
    obtain ⟨i, hi, rfl, rfl, hL⟩ := hrel
    clear hL0
    by_cases hlt : i < n
    · have hz : (i : Int) < (n : Int) := by omega
      obtain ⟨b, o, rfl, h1, da, dc, h2, h3⟩ := HI.out.on hL.below i hlt
      have bq : Below wr.heap.size wr (wr.alloc (.cells #[.string (nm i), .slice da (ds i).length dc] 51)) := (Below.refl _ _).alloc (Nat.le_refl _) _
      have k0 : (wr.alloc (.cells #[.string (nm i), .slice da (ds i).length dc] 51)).cell? ⟨wr.heap.size, 0, none⟩ = some (.string (nm i)) := World.cell?_alloc_at (w := wr) _ _ _ 0 rfl
      have k1 : (wr.alloc (.cells #[.string (nm i), .slice da (ds i).length dc] 51)).cell? ⟨wr.heap.size, 1, none⟩ = some (.slice da (ds i).length dc) := World.cell?_alloc_at (w := wr) _ _ _ 1 rfl
      have hL2 := hL.on bq
      have h32 := h3.on bq
      have h1' : wr.cell? ⟨b, o + i * 2, none⟩ = some (.string (nm i)) := h1
      have h2' : wr.cell? ⟨b, o + i * 2 + 1, none⟩ = some (.slice da (ds i).length dc) := h2
      clear h1 h2
      go_upto_region 9 with fail
      clear h1' h2' h3 bq hL
      generalize wr.alloc (.cells #[.string (nm i), .slice da (ds i).length dc] 51) = W2 at *
      generalize wr.heap.size = ib at *
      have HN : Hid (∀ W, Below W2.heap.size W2 W → Calls Try.prog 47 #[.slice da (ds i).length dc] W fun e w' => ∃ f, e = .returned (.pointer (some ⟨f, 0, none⟩)) ∧ Below W.heap.size W w' ∧ Ld1 w w' db sb nb room i f nm ds) := fun W hb =>
        (hL2.on hb).born (fun j hj => HS.out j (by omega)) (h32.on hb) (by have := HD.out i hlt; omega)
      have HY : Hid (∀ W f, Ld1 w W db sb nb room i f nm ds → Calls Try.prog 46 #[.pointer (some ⟨db, 1, none⟩), .string (nm i), .pointer (some ⟨f, 0, none⟩)] W fun e w' => e = .returned (.tuple #[]) ∧ Ld w w' db sb nb room (i + 1) nm ds ∧ (∀ b j v, W.cell? ⟨b, j, none⟩ = some v → w'.cell? ⟨b, j, none⟩ = some v)) := fun W f hF =>
        hF.lay (by omega) (by have := (okN_size (HS.out i hlt)).2; omega)
      have hB2 : Below W2.heap.size W2 W2 := Below.refl _ _
      have hB2d : Below W2.heap.size W2 W2.drew := (Below.refl _ _).drew
      clear hL2 h32
      generalize (ds i).length = d at *
      generalize nm i = s at *
      go_region_held3 (fun W => W.cell? ⟨ib, 0, none⟩ = some (.string s) ∧ W.cell? ⟨ib, 1, none⟩ = some (.slice da d dc))
        (first | exact ⟨k0, k1⟩ | exact ⟨cel_on hbN k0, cel_on hbN k1⟩ | exact ⟨hcc _ _ _ (cel_on hbN k0), hcc _ _ _ (cel_on hbN k1)⟩)
        (first
          | (go_at_call 47; refine (HN.out _ (by first | exact hB2 | exact hB2d)).mono ?_; rintro e w5 ⟨f, rfl, hbN, hFF⟩)
          | (go_at_call 46; refine (HY.out _ _ hFF).mono ?_; rintro e w6 ⟨rfl, hL6, hcc⟩))
      all_goals
        go_wp2_with fail
        go_roundg (n - (i + 1))
        case measure => go_light; omega
        case rel => go_light; exact ⟨i + 1, by omega, rfl, by simp, hL6⟩
    · obtain rfl : i = n := by omega
      have HE : Hid (∃ F, DK wr w.heap.size db (loadP room nm ds i) i T F ∧ Below w.heap.size w wr) := by
        obtain ⟨⟨fs, fv, fb, d, q1, q2, q3⟩, q4⟩ := hL
        exact ⟨_, ⟨HINV.out, sb, nb, i, _, fs, fv, fb, d, q1, q2, q3, by show i + 0 ≤ T; omega, rfl⟩, q4⟩
      clear hL HINV
      obtain ⟨F, hDK, hbl⟩ := HE.out
      go_wp2_with fail
      go_ret2
      exact ⟨db, F, rfl, hDK, hbl⟩
end Go.Proofs.Ytbnlgohaaadgeaa
