/- Own texts, joined: PlaneCopies1, PlaneCopies2, ST8, ST9, ST10, ST11, ST12, STM. -/
import Derived.Test.YtdhhjdacidhmjaaGreatM3
import Derived.Test.YtdhhjdacidhmjaaGreatM2

/- Package plane: squares, byNearness. -/
namespace Go.Proofs.YtdhhjdacidhmjaaGreat
open Go.RowKit Go.Shelf Go.Sort
set_option maxRecDepth 100000
set_option maxRecDepth 100000

theorem intInfo : (Tryz.prog.info? 3).map (fun i => (i.zero, i.size, i.bytes)) = some (some (.int .i64 0), 1, 8) := by kernel_rfl

theorem fi_le (k : Nat) : fiM k ≤ pairsM k + 1 ∧ stM k - fiM k ≤ pairsM k + 1 := by
  have := st_le k
  have e : fiM k = min (stM k) (pairsM k + 1) := rfl
  omega

/-- How far a step's point is from the middle. -/
theorem sp_bound (k : Nat) : (spM k).1.natAbs ≤ 2 * pairsM k + 1 ∧ (spM k).2.natAbs ≤ 2 * pairsM k + 1 := by
  obtain ⟨h1, h2⟩ := fi_le k
  unfold spM spQ
  split <;> constructor <;> simp only <;> omega

theorem sp_near (k : Nat) (hk : k ≤ 1099511627776) : (spM k).1.natAbs ≤ 2097151 ∧ (spM k).2.natAbs ≤ 2097151 := by
  have h := pairs_lt k hk
  obtain ⟨h1, h2⟩ := sp_bound k
  omega

/-- Where a shard stands. -/
def shardM (s : Nat) : Int × Int := turnN 1 (spM (s + 1))
/-- The square of a node's distance from a shard. -/
def apD (s j : Nat) : Int := apM (spM j) (shardM s)

theorem squares_any (s n : Nat) (hs : s < 8) (hn : 1 ≤ n) (hn9 : n ≤ 9) (w : World) :
    Calls Tryz.prog 73 #[.int .i64 s, .int .i64 n] w fun e w' => ∃ b, e = .returned (.slice (some ⟨b, 0, none⟩) n n) ∧ w.heap.size ≤ b ∧ w'.rowIs b 3 n (fun j => .int .i64 (apD s j)) ∧ Below w.heap.size w w' := by
  have hsp := fun w => spiral_in (s + 1) (by omega) w
  have e1 : ((s + 1 : Nat) : Int) = (s : Int) + 1 := by omega
  rw [e1] at hsp
  have hmk := fun w => run_make_row' (P := Tryz.prog) 30 3 (.int .i64 0) 8 Tryz.underlying30 intInfo rfl .i64 .i64 n (by omega) (by omega) w
  obtain ⟨q1, q2⟩ := sp_near (s + 1) (by omega)
  have hz9 : (n : Int) ≤ 9 := by omega
  go_enter Tryz.func73, Tryz.ntmps73
  go_wp2_with fail
  refine (hsp _).mono ?_
  rintro e w1 ⟨a, b, rfl, fa, fb, b1⟩
  go_wp2_with fail
  refine (turn_any 1 fa fb _).mono ?_
  rintro e w1 ⟨r, t, rfl, fr, ft, rfl⟩
  have hat : turnN (1 % 4 : Int).toNat ((spM (s + 1)).1, (spM (s + 1)).2) = shardM s := rfl
  rw [hat] at fr ft
  have hmk1 := hmk w1
  have hrow := World.rowIs_made w1 (.int .i64 0) n 3
  have hb2 := b1.alloc b1.size (.cells (madeCells #[.int .i64 0] n) 3)
  have hz2 : (w1.alloc (.cells (madeCells #[.int .i64 0] n) 3)).heap.size = w1.heap.size + 1 := by simp
  have hsz := b1.size
  have hsh : (shardM s).1.natAbs ≤ 2097151 ∧ (shardM s).2.natAbs ≤ 2097151 := by
    show (-(spM (s + 1)).2).natAbs ≤ _ ∧ (spM (s + 1)).1.natAbs ≤ _
    omega
  generalize w1.alloc (.cells (madeCells #[.int .i64 0] n) 3) = W at *
  clear hmk hsp fa fb b1 hat
  go_wp2
  go_loopg [7, 16] n (fun q v k wr => ∃ i : Nat, i ≤ n ∧ q = n - i ∧ k = .int .i64 i ∧ wr.rowIs w1.heap.size 3 n (fun j => if j < i then .int .i64 (apD s j) else .int .i64 0) ∧ Below w.heap.size w wr)
  case atStart => exact ⟨0, Nat.zero_le _, rfl, rfl, hrow.congr (fun j _ => by simp), hb2⟩
  case round =>
    obtain ⟨i, hi, rfl, rfl, hR, hB⟩ := hrel
    by_cases hlt : i < n
    · have hz : (i : Int) < (n : Int) := by omega
      obtain ⟨p1, p2⟩ := sp_near i (by omega)
      have hwr : w1.heap.size < wr.heap.size := hR.lt
      have HR : Hid (wr.rowIs w1.heap.size 3 n (fun j => if j < i then .int .i64 (apD s j) else .int .i64 0)) := hR
      clear hR
      go_wp2_with fail
      refine (spiral_in i (by omega) _).mono ?_
      rintro e w3 ⟨c, d, rfl, fc, fd, b3⟩
      go_wp2_with fail
      refine (apart_any fc fd fr ft (by omega) (by omega) _).mono ?_
      rintro e w3 ⟨rfl, rfl⟩
      have he : apM ((spM i).1, (spM i).2) ((shardM s).1, (shardM s).2) = apD s i := rfl
      rw [he]
      have hR3 := HR.out.of_block (b3.block _ hwr)
      have hc3 := hR3.cell hlt
      have hf3 := hR3.frozen i
      have hw3 : w1.heap.size < w3.heap.size := hR3.lt
      have hB3 := hB.trans (b3.mono (hB.size))
      have HR3 : Hid (w3.rowIs w1.heap.size 3 n (fun j => if j < i then .int .i64 (apD s j) else .int .i64 0)) := hR3
      clear hR3 HR fc fd b3 he
      rw [if_neg (by omega)] at hc3
      obtain ⟨v, hv⟩ : ∃ v, apD s i = v := ⟨_, rfl⟩
      rw [hv]
      have HV : Hid (apD s i = v) := hv
      clear hv
      go_wp2
      go_roundg (n - (i + 1))
      case measure => omega
      case rel =>
        refine ⟨i + 1, by omega, rfl, by go_num, (HR3.out.set i (.int .i64 v)).congr (fun j hj => ?_), hB3.setCell (by show _ ≤ w1.heap.size; omega) _⟩
        show (if j = i then _ else if j < i then _ else _) = _
        by_cases e : j = i
        · subst e; rw [if_pos rfl, if_pos (by omega), HV.out]
        · rw [if_neg e]
          by_cases e2 : j < i
          · rw [if_pos e2, if_pos (by omega)]
          · rw [if_neg e2, if_neg (by omega)]
    · have hz : ¬ (i : Int) < (n : Int) := by omega
      obtain rfl : i = n := by omega
      go_wp2
      go_ret
      exact ⟨_, rfl, by omega, hR.congr (fun j hj => by rw [if_pos hj]), hB⟩

/-- The nodes 0 to m, the nearest first. -/
def nearA (D : Nat → Int) (m : Nat) : Array (Fin (m + 1)) := Sort.insertionSort (ltOf fun x y : Fin (m + 1) => nearM D x y) (Array.ofFn fun i : Fin (m + 1) => i) 0 (Array.ofFn fun i : Fin (m + 1) => i).size
def nearN (D : Nat → Int) (m j : Nat) : Nat := ((nearA D m)[j]!).val

theorem inner_size {α : Type} [Inhabited α] (lt : α → α → Bool) (a : Nat) : ∀ (j : Nat) (d : Array α), (insInner lt a j d).size = d.size
  | 0, d => rfl
  | j + 1, d => by
    unfold insInner
    split
    · rw [inner_size lt a j]; simp [swp]
    · rfl

/-- The sort's outer loop, by rounds. -/
def outN {α : Type} [Inhabited α] (lt : α → α → Bool) : Nat → Nat → Array α → Array α
  | 0, _, d => d
  | k + 1, i, d => outN lt k (i + 1) (insInner lt 0 i d)

theorem outer_eq {α : Type} [Inhabited α] (lt : α → α → Bool) (b : Nat) : ∀ (k i : Nat) (d : Array α), b - i = k → insOuter lt 0 b i d = outN lt k i d
  | 0, i, d, h => by rw [insOuter, if_neg (by omega)]; rfl
  | k + 1, i, d, h => by rw [insOuter, if_pos (by omega), outer_eq lt b k (i + 1) _ (by omega)]; rfl

theorem outN_size {α : Type} [Inhabited α] (lt : α → α → Bool) : ∀ (k i : Nat) (d : Array α), (outN lt k i d).size = d.size
  | 0, _, _ => rfl
  | k + 1, i, d => by rw [outN, outN_size lt k, inner_size]

theorem insertion_size {α : Type} [Inhabited α] (lt : α → α → Bool) (d : Array α) (b : Nat) : (Sort.insertionSort lt d 0 b).size = d.size := by
  rw [Sort.insertionSort, outer_eq lt b _ _ d rfl, outN_size]

theorem sw_block {α : Type} [Inhabited α] {enc : α → Value} {w w' : World} {blk off : Nat} {d : Array α} (h : SW enc w blk off d w') (k : Nat) (hk : k < w.heap.size) (hne : k ≠ blk) : w'.heap[k]? = w.heap[k]? := by
  obtain ⟨n, os, rfl⟩ := h
  unfold sortWorld
  rw [heap_grow_old _ _ (by rw [Sort.size_putRow]; exact hk)]
  simp only [putRow, mapBlock, Array.getElem?_modify]
  rw [if_neg (fun e => hne e.symm)]
  rfl

theorem sw_below {α : Type} [Inhabited α] {enc : α → Value} {w w' : World} {blk off : Nat} {d : Array α} (h : SW enc w blk off d w') (B : Nat) (hB : B ≤ w.heap.size) (hb : B ≤ blk) : RowKit.Below B w w' := by
  refine ⟨?_, ?_, ?_, h.le, fun k hk => sw_block h k (by omega) (by omega)⟩
  · obtain ⟨n, os, rfl⟩ := h; rfl
  · obtain ⟨n, os, rfl⟩ := h; rfl
  · obtain ⟨n, os, rfl⟩ := h; rfl

def encN (m : Nat) (x : Fin (m + 1)) : Value := .int .i64 (x.val : Nat)

theorem near_any' (D : Nat → Int) (m : Nat) (bx ab blk : Nat) (w : World) (hbb : bx < w.heap.size) (hab : ab < w.heap.size) (n1 : bx ≠ blk) (n2 : ab ≠ blk) (hbox : w.cell? ⟨bx, 0, none⟩ = some (.slice (some ⟨ab, 0, none⟩) (m + 1) (m + 1)))
    (hc : ∀ j, j < m + 1 → w.cell? ⟨ab, j, none⟩ = some (.int .i64 (D j))) (sz : Nat) :
    CmpLays1 Tryz.prog 92 #[.pointer (some ⟨bx, 0, none⟩)] (encN m) (fun x y => nearM D x y) blk 0 sz w := by
  intro k os dk _ x y
  have hS : SW (encN m) w blk 0 dk (sortWorld (encN m) w blk 0 k dk os) := ⟨k, os, rfl⟩
  have hle := hS.le
  have hcell : ∀ b i, b < w.heap.size → b ≠ blk → (sortWorld (encN m) w blk 0 k dk os).cell? ⟨b, i, none⟩ = w.cell? ⟨b, i, none⟩ := fun b i h1 h2 => World.cell?_of_block (a := ⟨b, i, none⟩) (sw_block hS b h1 h2)
  exact near_any D (m + 1) x.val y.val x.isLt y.isLt bx ab 0 (m + 1) _ (by omega) (by omega) (by rw [hcell _ _ hbb n1]; exact hbox) (by rw [Nat.zero_add, hcell _ _ hab n2]; exact hc _ x.isLt) (by rw [Nat.zero_add, hcell _ _ hab n2]; exact hc _ y.isLt)

theorem nearness_any (D : Nat → Int) (m n ab : Nat) (hn : Hid (n = m + 1)) (hn9 : n ≤ 9) (w : World) (hR : w.rowIs ab 3 n (fun j => .int .i64 (D j))) :
    Calls Tryz.prog 72 #[.slice (some ⟨ab, 0, none⟩) n n] w fun e w' => ∃ b, e = .returned (.slice (some ⟨b, 0, none⟩) n n) ∧ w.heap.size ≤ b ∧ (∀ j, j < n → w'.cell? ⟨b, j, none⟩ = some (.int .i64 (nearN D m j : Nat))) ∧ RowKit.Below w.heap.size w w' := by
  have hmk := fun w => run_make_row' (P := Tryz.prog) 30 3 (.int .i64 0) 8 Tryz.underlying30 intInfo rfl .i64 .i64 n (by omega) (by omega) w
  have hab := hR.lt
  obtain ⟨W1, hW1⟩ : ∃ W1, w.alloc (.cells #[.slice (some ⟨ab, 0, none⟩) n n] 30) = W1 := ⟨_, rfl⟩
  have hz1 : W1.heap.size = w.heap.size + 1 := by rw [← hW1]; simp
  have hbox : W1.cell? ⟨w.heap.size, 0, none⟩ = some (.slice (some ⟨ab, 0, none⟩) n n) := by rw [← hW1]; exact World.cell?_alloc_at (w := w) _ _ _ 0 rfl
  have hR1 : W1.rowIs ab 3 n (fun j => .int .i64 (D j)) := by rw [← hW1]; exact hR.alloc _
  have hB1 : RowKit.Below w.heap.size w W1 := by rw [← hW1]; exact (Below.refl _ _).alloc (Nat.le_refl _) _
  have hmk1 := hmk W1
  have hrow := World.rowIs_made W1 (.int .i64 0) n 3
  have hB2 := (RowKit.Below.refl W1.heap.size W1).alloc (Nat.le_refl _) (.cells (madeCells #[.int .i64 0] n) 3)
  generalize W1.alloc (.cells (madeCells #[.int .i64 0] n) 3) = W2 at *
  have HZ : Hid (W1.heap.size = w.heap.size + 1) := hz1
  have HR1 : Hid (W1.rowIs ab 3 n (fun j => .int .i64 (D j))) := hR1
  have HB1 : Hid (RowKit.Below w.heap.size w W1) := hB1
  have HBX : Hid (W1.cell? ⟨w.heap.size, 0, none⟩ = some (.slice (some ⟨ab, 0, none⟩) n n)) := hbox
  clear hmk hR hR1 hB1 hz1
  have hz9 : (n : Int) ≤ 9 := by omega
  go_enter Tryz.func72, Tryz.ntmps72
  go_wp2
  go_loopg [4, 10] n (fun q v k wr => ∃ i : Nat, i ≤ n ∧ q = n - i ∧ k = .int .i64 i ∧ wr.rowIs W1.heap.size 3 n (fun j => if j < i then .int .i64 (j : Nat) else .int .i64 0) ∧ RowKit.Below W1.heap.size W1 wr)
  case atStart => exact ⟨0, Nat.zero_le _, rfl, rfl, hrow.congr (fun j _ => by simp), hB2⟩
  case round =>
    obtain ⟨i, hi, rfl, rfl, hRr, hB⟩ := hrel
    by_cases hlt : i < n
    · have hz : (i : Int) < (n : Int) := by omega
      have hc3 := hRr.cell hlt
      have hf3 := hRr.frozen i
      have hw3 : W1.heap.size < wr.heap.size := hRr.lt
      rw [if_neg (by omega)] at hc3
      have HRr : Hid (wr.rowIs W1.heap.size 3 n (fun j => if j < i then .int .i64 (j : Nat) else .int .i64 0)) := hRr
      clear hRr
      go_wp2
      go_roundg (n - (i + 1))
      case measure => omega
      case rel =>
        refine ⟨i + 1, by omega, rfl, by go_num, (HRr.out.set i (.int .i64 i)).congr (fun j hj => ?_), hB.setCell (Nat.le_refl _) _⟩
        show (if j = i then _ else if j < i then _ else _) = _
        by_cases e : j = i
        · subst e; rw [if_pos rfl, if_pos (by omega)]
        · rw [if_neg e]
          by_cases e2 : j < i
          · rw [if_pos e2, if_pos (by omega)]
          · rw [if_neg e2, if_neg (by omega)]
    · have hz : ¬ (i : Int) < (n : Int) := by omega
      obtain rfl : i = n := by omega
      obtain ⟨d, hd⟩ : ∃ d : Array (Fin (m + 1)), d = Array.ofFn fun i : Fin (m + 1) => i := ⟨_, rfl⟩
      have hds : d.size = i := by rw [hd, Array.size_ofFn]; exact hn.out.symm
      have hH : Holds (encN m) wr W1.heap.size 0 d := by
        intro j hj
        have hji : j < i := by omega
        refine ⟨?_, hRr.frozen _⟩
        subst hd
        rw [Nat.zero_add, hRr.cell hji, if_pos hji, getElem!_pos _ j hj, Array.getElem_ofFn]
        rfl
      have hlt1 := hRr.lt
      have hbz : w.heap.size < W1.heap.size := by have := HZ.out; omega
      have hsort := sort_any (encN m) (fun x y => nearM D x y) 92 #[.pointer (some ⟨w.heap.size, 0, none⟩)] W1.heap.size d wr
        (enters_of Tryz.func92 (by kernel_rfl) rfl)
        (near_any' D m w.heap.size ab W1.heap.size wr (by omega) (by omega) (by omega) (by omega)
          (by rw [World.cell?_of_block (w := W1) (a := ⟨w.heap.size, 0, none⟩) (hB.block _ hbz), HBX.out, hn.out])
          (fun j hj => by rw [World.cell?_of_block (w := W1) (a := ⟨ab, j, none⟩) (hB.block _ (show ab < W1.heap.size by omega))]; exact HR1.out.cell (by have := hn.out; omega)) _)
        ⟨fun _ => rfl, hH, hlt1⟩ (by omega)
      have hcomp : Hid (∀ j, (Sort.insertionSort (ltOf fun x y : Fin (m + 1) => nearM D x y) d 0 d.size)[j]!.val = nearN D m j) := hideP (fun j => by unfold nearN nearA; rw [hd])
      have hsz := insertion_size (ltOf fun x y : Fin (m + 1) => nearM D x y) d d.size
      generalize Sort.insertionSort (ltOf fun x y : Fin (m + 1) => nearM D x y) d 0 d.size = dd at *
      rw [hds] at hsort
      have hHid : Hid (Holds (encN m) wr W1.heap.size 0 d ∧ dd.size = d.size ∧ d.size = i) := ⟨hH, hsz, hds⟩
      clear hH hRr hd hds hsz
      go_wp2_with fail
      refine hsort.mono ?_
      rintro e w5 ⟨rfl, hS⟩
      go_wp2
      go_ret
      refine ⟨_, rfl, by omega, fun j hj => ?_, HB1.out.trans ((hB.mono (by omega)).trans (sw_below hS _ (by have := HB1.out.size; have := hB.size; omega) (by omega)))⟩
      obtain ⟨g1, g2, g3⟩ := hHid.out
      have := (hS.holds hlt1 g1 g2 j (by omega)).1
      rw [Nat.zero_add] at this
      rw [this, ← hcomp.out j]
      rfl
end Go.Proofs.YtdhhjdacidhmjaaGreat

/- Package plane: mayBe, Copies; two lists of numbers that are the same; wakes. -/
namespace Go.Proofs.YtdhhjdacidhmjaaGreat
open Go.RowKit Go.Shelf Go.Sort
set_option maxRecDepth 100000
set_option maxRecDepth 100000

def goodM (s n c : Int) : Prop := 1 ≤ n ∧ n ≤ 9 ∧ 1 ≤ c ∧ c ≤ 7 ∧ c % 2 = 1 ∧ c ≤ n ∧ 0 ≤ s ∧ s < 8
instance (s n c : Int) : Decidable (goodM s n c) := by unfold goodM; infer_instance

theorem mayBe_any (s n c : Int) (w : World) : Calls Tryz.prog 71 #[.int .i64 s, .int .i64 n, .int .i64 c] w fun e w' => e = .returned (.bool (decide (goodM s n c))) ∧ w' = w := by
  by_cases h1 : n < 1
  · rw [decide_eq_false (fun h => by obtain ⟨_, _⟩ := h; omega)]
    go_enter Tryz.func71, Tryz.ntmps71
    go_wp2
    go_ret
    exact ⟨rfl, rfl⟩
  by_cases h2 : n > 9
  · rw [decide_eq_false (fun h => by obtain ⟨_, _, _⟩ := h; omega)]
    go_enter Tryz.func71, Tryz.ntmps71
    go_wp2
    go_ret
    exact ⟨rfl, rfl⟩
  by_cases h3 : c < 1
  · rw [decide_eq_false (fun h => by obtain ⟨_, _, _, _⟩ := h; omega)]
    go_enter Tryz.func71, Tryz.ntmps71
    go_wp2
    go_ret
    exact ⟨rfl, rfl⟩
  by_cases h4 : c > 7
  · rw [decide_eq_false (fun h => by obtain ⟨_, _, _, _, _⟩ := h; omega)]
    go_enter Tryz.func71, Tryz.ntmps71
    go_wp2
    go_ret
    exact ⟨rfl, rfl⟩
  have ht : c.tmod 2 = c % 2 := Int.tmod_eq_emod_of_nonneg (by omega)
  by_cases h5 : c % 2 = 0
  · rw [decide_eq_false (fun h => by obtain ⟨_, _, _, _, _, _⟩ := h; omega)]
    have ht0 : (c.tmod 2 == 0) = true := by rw [ht, h5]; rfl
    have ht1 : (c % 2 == 0) = true := by rw [h5]; rfl
    clear ht h5
    go_enter Tryz.func71, Tryz.ntmps71
    go_wp2
    go_ret
    exact ⟨rfl, rfl⟩
  have ht0 : (c.tmod 2 == 0) = false := by rw [ht]; exact beq_eq_false_iff_ne.2 h5
  have ht1 : (c % 2 == 0) = false := beq_eq_false_iff_ne.2 h5
  clear ht
  by_cases h6 : c > n
  · rw [decide_eq_false (fun h => by obtain ⟨_, _, _, _, _, _, _⟩ := h; omega)]
    clear h5
    go_enter Tryz.func71, Tryz.ntmps71
    go_wp2
    go_ret
    exact ⟨rfl, rfl⟩
  by_cases h7 : s ≥ 0
  · by_cases h8 : s < 8
    · rw [decide_eq_true (show goodM s n c from ⟨by omega, by omega, by omega, by omega, by omega, by omega, by omega, by omega⟩)]
      clear h5
      go_enter Tryz.func71, Tryz.ntmps71
      go_wp2
      go_ret
      exact ⟨rfl, rfl⟩
    · rw [decide_eq_false (fun h => by obtain ⟨_, _, _, _, _, _, _, _⟩ := h; omega)]
      clear h5
      go_enter Tryz.func71, Tryz.ntmps71
      go_wp2
      go_ret
      exact ⟨rfl, rfl⟩
  · rw [decide_eq_false (fun h => by obtain ⟨_, _, _, _, _, _, _, _⟩ := h; omega)]
    clear h5
    go_enter Tryz.func71, Tryz.ntmps71
    go_wp2
    go_ret
    exact ⟨rfl, rfl⟩

/-- The copies' numbers. -/
def copN (s n j : Nat) : Nat := nearN (apD s) (n - 1) j

theorem copies_bad (s n c : Int) (hb : ¬ goodM s n c) (w : World) : Calls Tryz.prog 35 #[.int .i64 s, .int .i64 n, .int .i64 c] w fun e w' => e = .returned (.tuple #[.slice none 0 0, .int .i64 30]) ∧ w' = w := by
  have hmb := mayBe_any s n c w
  rw [decide_eq_false hb] at hmb
  clear hb
  go_enter Tryz.func35, Tryz.ntmps35
  go_wp2_with fail
  refine hmb.mono ?_
  rintro e w ⟨rfl, rfl⟩
  go_wp2
  go_ret2
  exact ⟨rfl, rfl⟩

theorem copies_any (s n c : Nat) (hg : goodM s n c) (w : World) : Calls Tryz.prog 35 #[.int .i64 s, .int .i64 n, .int .i64 c] w fun e w' =>
    ∃ v B, e = .returned (.tuple #[v, .int .i64 0]) ∧ w.heap.size ≤ B ∧ w'.ownsRow B 3 1 v c ((List.range c).map fun j => .int .i64 (copN s n j : Nat)) ∧ v ≠ .slice none 0 0 ∧ RowKit.Below w.heap.size w w' := by
  have hmb := mayBe_any s n c w
  rw [decide_eq_true hg] at hmb
  obtain ⟨g1, g2, g3, g4, g5, g6, g7, g8⟩ := hg
  have hsq := squares_any s n (by omega) (by omega) (by omega) w
  have hcn : (c : Int) ≤ (n : Int) := g6
  have HG : Hid (c ≤ n ∧ 1 ≤ c ∧ n ≤ 9 ∧ 1 ≤ n) := ⟨by omega, by omega, by omega, by omega⟩
  clear g1 g2 g3 g4 g5 g6 g7 g8
  go_enter Tryz.func35, Tryz.ntmps35
  go_wp2_with fail
  refine hmb.mono ?_
  rintro e w ⟨rfl, rfl⟩
  go_wp2_with fail
  refine hsq.mono ?_
  rintro e w1 ⟨b, rfl, hb, hR, hB⟩
  go_wp2_with fail
  refine (nearness_any (apD s) (n - 1) n b (hideP (by have := HG.out; omega)) (by have := HG.out; omega) w1 hR).mono ?_
  rintro e w2 ⟨b2, rfl, hb2, hc2, hB2⟩
  have HC := (Any.slices_Clone_int cloneL b2 0 c n ((List.range n).map fun j => ((copN s n j : Nat) : Int)) w2 (by have := HG.out; simp; omega) (by have := HG.out; omega)
    (fun j hj => by
      have hjn : j < n := by simpa using hj
      rw [Nat.zero_add, hc2 j hjn]
      simp [List.getD, hjn, copN]))
  change Calls Tryz.prog 74 _ _ _ at HC
  clear hc2 hmb hsq hR
  go_wp2_with fail
  refine HC.mono ?_
  rintro e w3 ⟨v, rfl, hO, hv, hB3⟩
  go_wp2
  go_ret2
  have h1 := hB.size
  have h2 := hB2.size
  refine ⟨v, w2.heap.size, rfl, by omega, ?_, hv, hB.trans ((hB2.mono (by omega)).trans (hB3.mono (by omega)))⟩
  have e : ((((List.range n).map fun j => ((copN s n j : Nat) : Int)).take c).map (Value.int .i64)) = (List.range c).map fun j => .int .i64 (copN s n j : Nat) := by
    rw [← List.map_take, List.take_range, List.map_map, Nat.min_eq_left (by have := HG.out; omega)]
    rfl
  rw [e] at hO
  exact hO
end Go.Proofs.YtdhhjdacidhmjaaGreat

/- Package settle: roads are made. -/
namespace Go.Proofs.YtdhhjdacidhmjaaGreat
open Go.RowKit
set_option maxRecDepth 100000
set_option maxRecDepth 100000

/-- A configuration as a value: what settle looks at, and the rest. -/
def cfL (nodes n c m : Nat) (y3 y4 y6 y7 y8 : Value) : Array Value := #[.int .i64 (nodes : Nat), .int .i64 (n : Nat), .int .i64 (c : Nat), y3, y4, .int .i64 (m : Nat), y6, y7, y8]
theorem cf_alloc (w : World) (nodes n c m : Nat) (y3 y4 y6 y7 y8 : Value) : ∃ W, Hid (w.alloc (.cells #[.int .i64 (nodes : Nat), .int .i64 (n : Nat), .int .i64 (c : Nat), y3, y4, .int .i64 (m : Nat), y6, y7, y8] 48) = W) ∧ w.Since w.heap.size W ∧ W.cell? ⟨w.heap.size, 0, none⟩ = some (.int .i64 (nodes : Nat)) ∧ W.cell? ⟨w.heap.size, 1, none⟩ = some (.int .i64 (n : Nat)) ∧ W.cell? ⟨w.heap.size, 2, none⟩ = some (.int .i64 (c : Nat)) ∧ W.cell? ⟨w.heap.size, 5, none⟩ = some (.int .i64 (m : Nat)) ∧ W.rangeAt w.heap.size 0 (cfL nodes n c m y3 y4 y6 y7 y8).toList := by
  refine ⟨_, rfl, (World.Since.refl _ _).alloc (Nat.le_refl _) _, by simp, by simp, by simp, by simp, fun j v hj => ?_⟩
  rw [Nat.zero_add]
  refine (World.cell?_alloc_at (w := w) _ _ _ j rfl).trans ?_
  rw [← Array.getElem?_toList]
  exact hj
/-- A road that is made. -/
structure RdNew (lo : Nat) (w : World) (rb pb cb cap nodes c m i : Nat) : Prop where
  row : w.rowIs rb 115 3 (rdCell pb cb c cap 0)
  pc : PcIs w pb 0 1 m
  cp : w.ownsRow 0 3 1 (.slice (some ⟨cb, 0, none⟩) c cap) c ((List.range (c * 1)).map fun j => .int .i64 (copN i nodes j : Nat))
  ge : lo ≤ rb ∧ lo ≤ pb ∧ lo ≤ cb
theorem rd_alloc (w : World) (pb cb c cap : Nat) : ∃ W, Hid (w.alloc (.cells #[.pointer (some ⟨pb, 0, none⟩), .slice (some ⟨cb, 0, none⟩) c cap, .int .i64 0] 115) = W) ∧ w.Since w.heap.size W ∧ W.rowIs w.heap.size 115 3 (rdCell pb cb c cap 0) := by
  refine ⟨_, rfl, (World.Since.refl _ _).alloc (Nat.le_refl _) _, World.rowIs_alloc w _ _ _ (fun i hi => ?_)⟩
  have hi' : i < 3 := hi
  match i, hi' with
  | 0, _ => rfl
  | 1, _ => rfl
  | 2, _ => rfl
theorem since_of {w w' : World} (h : RowKit.Below w.heap.size w w') : w.Since w.heap.size w' := ⟨h.os, h.tape, h.output, h.size, h.block⟩
set_option maxHeartbeats 4000000 in
theorem newRoad_any {w : World} {nodes n c m i : Nat} (hg : goodM i nodes c) (h1 : 1 ≤ m) (h2 : m ≤ 64) (y3 y4 y6 y7 y8 : Value) :
    Calls Tryz.prog 16 #[.agg (cfL nodes n c m y3 y4 y6 y7 y8), .int .i64 (i : Nat)] w fun e w' => ∃ rb, e = .returned (.pointer (some ⟨rb, 0, none⟩)) ∧ (∃ pb cb cap, RdNew w.heap.size w' rb pb cb cap nodes c m i) ∧ w.Since w.heap.size w' := by
  obtain ⟨W1, HW1, s1, d0, d1, d2, d5, _⟩ := cf_alloc w nodes n c m y3 y4 y6 y7 y8
  obtain ⟨fb, HFB⟩ : ∃ x, Hid (w.heap.size = x) := ⟨_, rfl⟩
  rw [HFB.out] at d0 d1 d2 d5
  have HPN : Hid (Calls Tryz.prog 34 #[.int .i64 (m : Nat)] W1 fun e w2 => ∃ pb, e = .returned (.tuple #[.pointer (some ⟨pb, 0, none⟩), .int .i64 0]) ∧ w2.cell? ⟨fb, 0, none⟩ = some (.int .i64 (nodes : Nat)) ∧ w2.cell? ⟨fb, 2, none⟩ = some (.int .i64 (c : Nat)) ∧
      Hid (Calls Tryz.prog 35 #[.int .i64 (i : Nat), .int .i64 (nodes : Nat), .int .i64 (c : Nat)] w2 fun e w3 => ∃ cb cap, e = .returned (.tuple #[.slice (some ⟨cb, 0, none⟩) c cap, .int .i64 0]) ∧ ∃ rb W4, Hid (w3.heap.size = rb) ∧ Hid (w3.alloc (.cells #[.pointer (some ⟨pb, 0, none⟩), .slice (some ⟨cb, 0, none⟩) c cap, .int .i64 0] 115) = W4) ∧ Hid ((∃ pb cb cap, RdNew w.heap.size W4 rb pb cb cap nodes c m i) ∧ w.Since w.heap.size W4))) := by
    refine (new_any m h1 h2 W1).mono fun e w2 ⟨he, hp, hb, hlt⟩ => ?_
    have s2 := since_of hb
    refine ⟨_, he, cell_later s2 d0, cell_later s2 d2, ?_⟩
    refine (copies_any i nodes c hg w2).mono fun e w3 ⟨v, B, he3, hB, hown, hne, hb3⟩ => ?_
    have s3 := since_of hb3
    rcases hown.2 with ⟨hv, _⟩ | ⟨cb, cap, cur, hv, hcb, h5, h6⟩
    · exact absurd hv hne
    · obtain ⟨W4, HW4, s4, r4⟩ := rd_alloc w3 W1.heap.size cb c cap
      have hcl : cb < w3.heap.size := (Array.getElem?_eq_some_iff.1 h5).1
      refine ⟨cb, cap, by rw [he3, hv], _, W4, rfl, HW4, ⟨W1.heap.size, cb, cap, r4, (hp.on hb3).later (s4.block _ (hp.on hb3).row.lt), ?_, ?_⟩, ?_⟩
      · refine ⟨by simp, .inr ⟨cb, cap, cur, rfl, Nat.zero_le _, (s4.block cb hcl).trans h5, ?_⟩⟩
        obtain ⟨g1, g2, g3, g4⟩ := h6
        exact ⟨g1, g2, g3, by rw [g4, Nat.mul_one]⟩
      · have := s1.size
        have := s2.size
        have := s3.size
        exact ⟨by omega, by omega, by omega⟩
      · exact ((s1.trans (since_mono s2 s1.size)).trans (since_mono s3 (Nat.le_trans s1.size s2.size))).trans (since_mono s4 (Nat.le_trans (Nat.le_trans s1.size s2.size) s3.size))
  clear s1 d1 hg h1 h2
  unfold cfL
  go_enter Tryz.func16, Tryz.ntmps16
  go_upto_region 1 with fail
  rw [HW1.out, HFB.out]
  clear HW1
  go_upto_region 3 with (first
    | (go_at_call 34; refine HPN.out.mono ?_; rintro e w2 ⟨pb, rfl, e0, e2, HCO⟩)
    | (go_at_call 35; refine HCO.out.mono ?_; rintro e w3 ⟨cb, cap, rfl, rb, W4, HRB, HW4, HK⟩))
  go_wp2_with fail
  rw [HW4.out, HRB.out]
  go_ret
  exact ⟨rb, rfl, HK.out⟩
end Go.Proofs.YtdhhjdacidhmjaaGreat

/- Package settle: New. -/
namespace Go.Proofs.YtdhhjdacidhmjaaGreat
open Go.RowKit
set_option maxRecDepth 100000
set_option maxRecDepth 100000

theorem op_call {P : Program} {o : Oper} {a : Act} {w : World} {K : Act → World → Prop} {Q : Exit → Act → World → Prop} (f : FuncId) (args : Array Value) (hrun : (execOp a.eval o).run P w = .ok (.enter f args) w) {Post : Ending → World → Prop} (hc : Calls P f args w Post)
    (h : ∀ e w', Post e w' → ∃ v, e = .returned v ∧ K (a.put o.dst v) w') : Oper.wp P o a w K Q := by
  unfold Oper.wp
  rw [hrun, Oper.upon_enter]
  refine hc.mono fun e w'' hh => ?_
  obtain ⟨v, rfl, hk⟩ := h e w'' hh
  exact hk
theorem infoRP : (Tryz.prog.info? 68).map (fun i => (i.zero, i.size, i.bytes)) = some (some (.pointer none), 1, 8) := by kernel_rfl
theorem infoC9 : (Tryz.prog.info? 48).map (·.size) = some 9 := by kernel_rfl
theorem infoCf (nodes n c m : Nat) (y3 y4 y6 y7 y8 : Value) : (Tryz.prog.info? 48).map (·.size) = some (cfL nodes n c m y3 y4 y6 y7 y8).toList.length := infoC9
/-- The closure of New: a peer's road. -/
theorem new1_any {w : World} {fb nodes n c m i : Nat} {y3 y4 y6 y7 y8 : Value} (hc : w.rangeAt fb 0 (cfL nodes n c m y3 y4 y6 y7 y8).toList) (hg : goodM i nodes c) (h1 : 1 ≤ m) (h2 : m ≤ 64) :
    Calls Tryz.prog 15 #[.int .i64 (i : Nat), .pointer (some ⟨fb, 0, none⟩)] w fun e w' => ∃ rb, e = .returned (.pointer (some ⟨rb, 0, none⟩)) ∧ Hid ((∃ pb cb cap, RdNew w.heap.size w' rb pb cb cap nodes c m i) ∧ w.Since w.heap.size w') := by
  have HR : Hid (Calls Tryz.prog 16 #[.agg (cfL nodes n c m y3 y4 y6 y7 y8), .int .i64 (i : Nat)] w fun e w' => ∃ rb, e = .returned (.pointer (some ⟨rb, 0, none⟩)) ∧ Hid ((∃ pb cb cap, RdNew w.heap.size w' rb pb cb cap nodes c m i) ∧ w.Since w.heap.size w')) := (newRoad_any hg h1 h2 y3 y4 y6 y7 y8).mono fun e w' ⟨rb, a, b⟩ => ⟨rb, a, b⟩
  have HC := hide hc
  have HI := hide (infoCf nodes n c m y3 y4 y6 y7 y8)
  obtain ⟨CF, HCF⟩ : ∃ x, Hid (cfL nodes n c m y3 y4 y6 y7 y8 = x) := ⟨_, rfl⟩
  rw [HCF.out] at HR HC HI
  clear hc hg h1 h2
  go_enter Tryz.func15, Tryz.ntmps15
  go_upto_region 1 with fail
  refine wp_region_lit ?_
  refine wpList_load_mid rfl 48 (.tmp 1) rfl fb 0 rfl CF.toList _ HC.out Tryz.underlying48 rfl HI.out ?_
  simp only [Act.put, List.setIfInBounds_toArray, List.set_cons_zero, List.set_cons_succ]
  refine wpList_plain rfl fun _ hK => op_run (.int .i64 (i : Nat)) (by kernel_rfl) (hK _ _ ?_)
  simp only [Act.put, List.setIfInBounds_toArray, List.set_cons_zero, List.set_cons_succ]
  refine wpList_plain rfl fun _ hK => op_call 16 #[.agg CF, .int .i64 (i : Nat)] (by kernel_rfl) HR.out ?_
  rintro e w2 ⟨rb, rfl, HK⟩
  refine ⟨_, rfl, hK _ _ ?_⟩
  clear hK
  simp only [Act.put, List.setIfInBounds_toArray, List.set_cons_zero, List.set_cons_succ]
  go_wp2_with fail
  go_ret
  exact ⟨rb, rfl, HK⟩
/-- The roads that are made so far. -/
def FR (w : World) (b n own nodes c m i : Nat) (W : World) : Prop := ∃ (O : Nat → Nat) (rb pb cb cap : Nat → Nat), W.rowIs b 68 n (fun j => .pointer (if j < i ∧ j ≠ own then some ⟨rb j, 0, none⟩ else none)) ∧ O b = 1 ∧ w.heap.size ≤ b ∧ (∀ j, j < i → j ≠ own → RowC O (10 + 3 * j) W (rb j) 115 3 (rdCell (pb j) (cb j) c (cap j) 0) ∧ (PcIs W (pb j) 0 1 m ∧ O (pb j) = 11 + 3 * j) ∧ Li O (12 + 3 * j) W 3 1 (.slice (some ⟨cb j, 0, none⟩) c (cap j)) c (fun k => .int .i64 (copN j nodes k : Nat)) ∧ w.heap.size ≤ rb j ∧ w.heap.size ≤ pb j ∧ w.heap.size ≤ cb j) ∧ w.Since w.heap.size W
theorem FR.step {w W W2 : World} {b n own nodes c m i : Nat} (h : FR w b n own nodes c m i W) (hi : i < n) (hio : i ≠ own) {rb : Nat} (hr : ∃ pb cb cap, RdNew W.heap.size W2 rb pb cb cap nodes c m i) (hs : W.Since W.heap.size W2) : (∃ y, W2.cell? ⟨b, i, none⟩ = some y) ∧ W2.frozen? ⟨b, i, none⟩ = false ∧ FR w b n own nodes c m (i + 1) (W2.setCell ⟨b, i, none⟩ (.pointer (some ⟨rb, 0, none⟩))) := by
  obtain ⟨O, rbs, pbs, cbs, caps, h1, hb1, hge, h2, h3⟩ := h
  obtain ⟨pb, cb, cap, hn⟩ := hr
  have r2 := h1.of_block (hs.block b h1.lt)
  have hbl := h1.lt
  obtain ⟨g1, g2, g3⟩ := hn.ge
  have hrp : rb ≠ pb := rowIs_apart hn.row hn.pc.row (by decide)
  have hcc : ∃ F, W2.rowIs cb 3 (cap * 1) F := by
    rcases hn.cp.2 with ⟨hv, _⟩ | ⟨g, cap', cur, hv, _, h5, _, _, h8, _⟩
    · cases hv
    · injection hv with e1 _ e3
      obtain rfl : cb = g := congrArg Addr.block (Option.some.inj e1)
      subst e3
      exact ⟨fun j => cur.getD j undef, cur, h5, h8, fun j hj => by
        show cur[j]? = some (cur.getD j undef)
        rw [Array.getD_eq_getD_getElem?, Array.getElem?_eq_getElem (by omega)]
        rfl⟩
  obtain ⟨F, hF⟩ := hcc
  have hrc : rb ≠ cb := rowIs_apart hn.row hF (by decide)
  have hpc : pb ≠ cb := rowIs_apart hn.pc.row hF (by decide)
  have hb2 : b ≠ rb := by omega
  have hb3 : b ≠ pb := by omega
  have hb4 : b ≠ cb := by omega
  refine ⟨⟨_, r2.cell hi⟩, r2.frozen i, ?_⟩
  obtain ⟨O2, hlow, orb, opb, ocb⟩ : ∃ O2 : Nat → Nat, (∀ k, k < W.heap.size → O2 k = O k) ∧ O2 rb = 10 + 3 * i ∧ O2 pb = 11 + 3 * i ∧ O2 cb = 12 + 3 * i := by
    refine ⟨fun k => if k < W.heap.size then O k else if k = rb then 10 + 3 * i else if k = pb then 11 + 3 * i else 12 + 3 * i, fun k hk => if_pos hk, ?_, ?_, ?_⟩
    · show (if rb < W.heap.size then O rb else if rb = rb then 10 + 3 * i else if rb = pb then 11 + 3 * i else 12 + 3 * i) = 10 + 3 * i
      rw [if_neg (by omega), if_pos rfl]
    · show (if pb < W.heap.size then O pb else if pb = rb then 10 + 3 * i else if pb = pb then 11 + 3 * i else 12 + 3 * i) = 11 + 3 * i
      rw [if_neg (by omega), if_neg (fun e => hrp e.symm), if_pos rfl]
    · show (if cb < W.heap.size then O cb else if cb = rb then 10 + 3 * i else if cb = pb then 11 + 3 * i else 12 + 3 * i) = 12 + 3 * i
      rw [if_neg (by omega), if_neg (fun e => hrc e.symm), if_neg (fun e => hpc e.symm)]
  have k1 : Ch 1 O O2 W W2 := ⟨hs.os, hs.tape, hs.output, hs.size, hlow, fun k hk _ => hs.block k hk⟩
  have ob : O2 b = 1 := (hlow b hbl).trans hb1
  have k2 : Ch 1 O2 O2 W2 (W2.setCell ⟨b, i, none⟩ (.pointer (some ⟨rb, 0, none⟩))) := Ch.set ob i (.pointer (some ⟨rb, 0, none⟩))
  have k := k1.trans k2
  refine ⟨O2, up rbs i rb, up pbs i pb, up cbs i cb, up caps i cap, (r2.set i _).congr (fun j _ => ?_), ob, hge, fun j hj hjo => ?_, setNewS (h3.trans (since_mono hs h3.size)) hge _⟩
  · by_cases e : j = i
    · subst e
      rw [if_pos rfl, if_pos ⟨Nat.lt_succ_self _, hio⟩, up_same]
    · rw [if_neg e, up_ne _ _ _ e]
      by_cases e2 : j < i ∧ j ≠ own
      · rw [if_pos e2, if_pos ⟨by omega, e2.2⟩]
      · rw [if_neg e2, if_neg (by omega)]
  · by_cases e : j = i
    · subst e
      rw [up_same, up_same, up_same, up_same]
      have hz := h3.size
      have r3 : RowC O2 (10 + 3 * j) W2 rb 115 3 (rdCell pb cb c cap 0) := ⟨hn.row, orb⟩
      refine ⟨r3.keep k2 (by omega), ⟨hn.pc.later (Below.heap_setCell _ _ _ _ (fun e => hb3 e.symm)), opb⟩, ?_, by omega, by omega, by omega⟩
      have l3 : Li O2 (12 + 3 * j) W2 3 1 (.slice (some ⟨cb, 0, none⟩) c cap) c (fun k => .int .i64 (copN j nodes k : Nat)) := ⟨hn.cp, fun k hk => by
        obtain rfl : cb = k := Option.some.inj hk
        exact ocb⟩
      exact l3.keep k2 (by omega)
    · rw [up_ne _ _ _ e, up_ne _ _ _ e, up_ne _ _ _ e, up_ne _ _ _ e]
      obtain ⟨q1, ⟨q2, q2'⟩, q3, q4⟩ := h2 j (by omega) hjo
      exact ⟨q1.keep k (by omega), ⟨q2.later (k.block _ q2.row.lt (by rw [q2']; omega)), (k.col _ q2.row.lt).trans q2'⟩, q3.keep k (by omega), q4⟩
theorem FR.skip {w W : World} {b n own nodes c m i : Nat} (h : FR w b n own nodes c m i W) (hio : i = own) : FR w b n own nodes c m (i + 1) W := by
  obtain ⟨O, rbs, pbs, cbs, caps, h1, hb1, hge, h2, h3⟩ := h
  refine ⟨O, rbs, pbs, cbs, caps, h1.congr (fun j _ => ?_), hb1, hge, fun j hj hjo => h2 j (by omega) hjo, h3⟩
  by_cases e2 : j < i ∧ j ≠ own
  · rw [if_pos e2, if_pos ⟨by omega, e2.2⟩]
  · rw [if_neg e2, if_neg (by omega)]
set_option maxHeartbeats 4000000 in
/-- The row of roads. -/
theorem fill_road {w : World} {fb nodes n c m own : Nat} {y3 y4 y6 y7 y8 : Value} (hc : w.rangeAt fb 0 (cfL nodes n c m y3 y4 y6 y7 y8).toList) (hfl : fb < w.heap.size) (hg : ∀ i, i < n → goodM i nodes c) (h1 : 1 ≤ m) (h2 : m ≤ 64) (hn1 : 1 ≤ n) (hn : n ≤ 8) (ho : own < n) :
    Calls Tryz.prog 13 #[.int .i64 (n : Nat), .int .i64 (own : Nat), .func (.func 15) #[] #[.pointer (some ⟨fb, 0, none⟩)]] w fun e w' => ∃ b : Nat, e = .returned (.slice (some ⟨b, 0, none⟩) n n) ∧ FR w b n own nodes c m n w' := by
  have hmk := run_make_row' (P := Tryz.prog) 66 68 (.pointer none) 8 Tryz.underlying66 infoRP rfl .i64 .i64 n (by omega) (by omega)
  obtain ⟨W1, HW1⟩ : ∃ W, Hid (w.alloc (.cells (madeCells #[.pointer none] n) 68) = W) := ⟨_, rfl⟩
  have r1 : W1.rowIs w.heap.size 68 n (fun _ => .pointer none) := by rw [← HW1.out]; exact World.rowIs_made w _ n _
  have s1 : w.Since w.heap.size W1 := by rw [← HW1.out]; exact (World.Since.refl _ _).alloc (Nat.le_refl _) _
  have HX0 : Hid (FR w w.heap.size n own nodes c m 0 W1) := ⟨fun _ => 1, fun _ => 0, fun _ => 0, fun _ => 0, fun _ => 0, r1.congr (fun j _ => by rw [if_neg (by omega)]), rfl, Nat.le_refl _, fun j hj => absurd hj (Nat.not_lt_zero j), s1⟩
  obtain ⟨b, HB⟩ : ∃ x, Hid (w.heap.size = x) := ⟨_, rfl⟩
  have HX0' : Hid (FR w b n own nodes c m 0 W1) := by rw [← HB.out]; exact HX0
  have HNC : Hid (∀ W i, FR w b n own nodes c m i W → i < n → i ≠ own → Calls Tryz.prog 15 #[.int .i64 (i : Nat), .pointer (some ⟨fb, 0, none⟩)] W fun e w' => ∃ rb, e = .returned (.pointer (some ⟨rb, 0, none⟩)) ∧ (∃ y, w'.cell? ⟨b, i, none⟩ = some y) ∧ w'.frozen? ⟨b, i, none⟩ = false ∧ ∃ W2, Hid (w'.setCell ⟨b, i, none⟩ (.pointer (some ⟨rb, 0, none⟩)) = W2) ∧ Hid (FR w b n own nodes c m (i + 1) W2)) := fun W i hW hi hio => by
    have hs : w.Since w.heap.size W := by obtain ⟨_, _, _, _, _, _, _, _, _, h⟩ := hW; exact h
    have hc' : W.rangeAt fb 0 (cfL nodes n c m y3 y4 y6 y7 y8).toList := fun j v hv => by
      rw [World.cell?_of_block (a := ⟨fb, 0 + j, none⟩) (hs.block fb hfl)]
      exact hc j v hv
    refine (new1_any hc' (hg i hi) h1 h2).mono fun e w' ⟨rb, he, hk⟩ => ?_
    obtain ⟨q1, q2, q3⟩ := hW.step hi hio hk.out.1 hk.out.2
    exact ⟨rb, he, q1, q2, _, rfl, q3⟩
  have HN : Hid (1 ≤ n ∧ n ≤ 8 ∧ own < n) := ⟨hn1, hn, ho⟩
  clear hc hfl hg h1 h2 hn1 hn ho r1 s1 HX0
  go_enter Tryz.func13, Tryz.ntmps13
  go_upto_region 2 with fail
  rw [HW1.out, HB.out]
  clear HW1 hmk
  go_wp2_with fail
  go_loopg [8, 12] n (fun g s8 s12 wx => ∃ i : Nat, i ≤ n ∧ g = n - i ∧ s12 = .int .i64 (i : Nat) ∧ Hid (FR w b n own nodes c m i wx))
  case atStart => exact ⟨0, Nat.zero_le _, rfl, rfl, HX0'⟩
  case round =>
    clear HX0'
    obtain ⟨i, hi, rfl, rfl, HX⟩ := hrel
    by_cases hlt : i < n
    · have z1 : (i : Int) < (n : Int) := by omega
      have z0 : (0 : Int) ≤ (i : Int) := by omega
      have hwi : IntKind.i64.wrap ((i : Int) + 1) = (i : Int) + 1 := by have := HN.out; rw [IntKind.wrap_i64]; omega
      have hme : n - (i + 1) < n - i := by omega
      have HI := hide hlt
      by_cases hio : i = own
      · have q0 : ((i : Int) != (own : Int)) = false := by simp; omega
        have HZ := hide (HX.out.skip hio)
        clear HX hi hlt hio HNC
        go_wp2_with fail
        go_roundg (n - (i + 1))
        case measure => go_light; exact hme
        case rel => go_light; exact ⟨i + 1, HI.out, rfl, by simp, HZ⟩
      · have q0 : ((i : Int) != (own : Int)) = true := by simp; omega
        have HCL := hide (HNC.out wr i HX.out hlt hio)
        clear HX hi hlt hio HNC
        go_wp2_with (go_at_call 15; refine HCL.out.mono ?_; rintro e w2 ⟨rb, rfl, ⟨y, dy⟩, fy, W2, HW2, HK⟩)
        rw [HW2.out]
        go_wp2_with fail
        go_roundg (n - (i + 1))
        case measure => go_light; exact hme
        case rel => go_light; exact ⟨i + 1, HI.out, rfl, by simp, HK⟩
    · obtain rfl : i = n := by omega
      have z1 : ¬ (i : Int) < (i : Int) := by omega
      clear hi hlt HNC
      go_wp2_with fail
      go_ret
      exact ⟨b, rfl, HX.out⟩
end Go.Proofs.YtdhhjdacidhmjaaGreat

/- Package settle: New, whole. -/
namespace Go.Proofs.YtdhhjdacidhmjaaGreat
open Go.RowKit
set_option maxRecDepth 100000
set_option maxRecDepth 100000

set_option maxHeartbeats 4000000 in
theorem roadsOf_any {w : World} {nodes n c m : Nat} (hg : goodM 0 nodes c) (h1 : 1 ≤ m) (h2 : m ≤ 64) (hn1 : 1 ≤ n) (hn : n ≤ 8) (y3 y4 y6 y7 y8 : Value) :
    Calls Tryz.prog 14 #[.agg (cfL nodes n c m y3 y4 y6 y7 y8)] w fun e w' => e = .returned (.int .i64 (n : Nat)) ∧ w.Since w.heap.size w' := by
  obtain ⟨W1, HW1, s1, d0, d1, d2, d5, _⟩ := cf_alloc w nodes n c m y3 y4 y6 y7 y8
  obtain ⟨fb, HFB⟩ : ∃ x, Hid (w.heap.size = x) := ⟨_, rfl⟩
  rw [HFB.out] at d0 d1 d2 d5
  have HPN : Hid (Calls Tryz.prog 34 #[.int .i64 (m : Nat)] W1 fun e w2 => ∃ pb, e = .returned (.tuple #[.pointer (some ⟨pb, 0, none⟩), .int .i64 0]) ∧ w2.cell? ⟨fb, 0, none⟩ = some (.int .i64 (nodes : Nat)) ∧ w2.cell? ⟨fb, 2, none⟩ = some (.int .i64 (c : Nat)) ∧
      Hid (Calls Tryz.prog 35 #[.int .i64 0, .int .i64 (nodes : Nat), .int .i64 (c : Nat)] w2 fun e w3 => ∃ v, e = .returned (.tuple #[v, .int .i64 0]) ∧ w3.cell? ⟨fb, 1, none⟩ = some (.int .i64 (n : Nat)) ∧ Hid (w.Since w.heap.size w3))) := by
    refine (new_any m h1 h2 W1).mono fun e w2 ⟨he, hp, hb, hlt⟩ => ?_
    have s2 := since_of hb
    refine ⟨_, he, cell_later s2 d0, cell_later s2 d2, ?_⟩
    refine (copies_any 0 nodes c hg w2).mono fun e w3 ⟨v, B, he3, hB, hown, hne, hb3⟩ => ?_
    have s3 := since_of hb3
    exact ⟨v, he3, cell_later s3 (cell_later s2 d1), (s1.trans (since_mono s2 s1.size)).trans (since_mono s3 (Nat.le_trans s1.size s2.size))⟩
  have z1 : ¬ (n : Int) < 0 := by omega
  have z2 : ¬ (8 : Int) < (n : Int) := by omega
  have hmn : min (n : Int) 8 = (n : Int) := by omega
  clear s1 d1 hg h1 h2 hn1 hn
  unfold cfL
  go_enter Tryz.func14, Tryz.ntmps14
  go_upto_region 1 with fail
  rw [HW1.out, HFB.out]
  clear HW1
  go_wp2_with (first
    | (go_at_call 34; refine HPN.out.mono ?_; rintro e w2 ⟨pb, rfl, e0, e2, HCO⟩)
    | (go_at_call 35; refine HCO.out.mono ?_; rintro e w3 ⟨v, rfl, e1, HK⟩))
  go_ret
  exact ⟨rfl, HK.out⟩
/-- A Settle that is new. -/
def newS (node : Int) (own nodes n c m : Nat) : Sd := ⟨node, own, n, own, m, c, fun i j => (copN i nodes j : Nat), fun _ => 0, fun _ => 1, fun _ => 0, none⟩
theorem set_alloc (w : World) (node : Int) (own Rb n : Nat) : ∃ W, Hid (w.alloc (.cells #[.int .i64 node, .int .i64 (own : Nat), .slice (some ⟨Rb, 0, none⟩) n n, .slice none 0 0] 75) = W) ∧ w.Since w.heap.size W ∧ W.rowIs w.heap.size 75 4 (sCell node (own : Nat) Rb n (.slice none 0 0)) := by
  refine ⟨_, rfl, (World.Since.refl _ _).alloc (Nat.le_refl _) _, World.rowIs_alloc w _ _ _ (fun i hi => ?_)⟩
  have hi' : i < 4 := hi
  match i, hi' with
  | 0, _ => rfl
  | 1, _ => rfl
  | 2, _ => rfl
  | 3, _ => rfl
theorem SIs.made {w W W2 : World} {b n own nodes c m q : Nat} {node : Int} {O0 : Nat → Nat} (h : FR w b n own nodes c m n W) (hs : W.Since W.heap.size W2) {sb : Nat} (hsb : sb = W.heap.size) (hr : W2.rowIs sb 75 4 (sCell node (own : Nat) b n (.slice none 0 0))) (hl : 1 ≤ n ∧ n ≤ 8 ∧ own < n ∧ 1 ≤ m ∧ m ≤ 64 ∧ 1 ≤ c ∧ c ≤ 7) :
    ∃ O p, SIs O q W2 p (newS node own nodes n c m) ∧ p.sb = sb ∧ (∀ k, k < w.heap.size → O k = O0 k) := by
  obtain ⟨O, rbs, pbs, cbs, caps, h1, hb1, hge, h2, h3⟩ := h
  have hsz := h3.size
  have hO : ∀ k x, k < W.heap.size → w.heap.size ≤ k → O k = x → (if k < w.heap.size then O0 k else if k = sb then q else q + O k) = q + x := fun k x hk hw e => by rw [if_neg (by omega), if_neg (by omega), e]
  refine ⟨fun k => if k < w.heap.size then O0 k else if k = sb then q else q + O k, ⟨sb, b, 0, rbs, pbs, cbs, caps, fun _ => none⟩, ⟨⟨hr, ?_⟩, ⟨(h1.of_block (hs.block b h1.lt)).congr (fun j hj => ?_), hO b 1 h1.lt hge hb1⟩, fun i hi ho => ?_, fun i hi ho => ?_, fun i hi ho => ?_, fun i _ _ => hl.2.2.2.2.2.1, (fun f hf => by cases hf), hl⟩, rfl, fun k hk => if_pos hk⟩
  · show (if sb < w.heap.size then O0 sb else if sb = sb then q else q + O sb) = q
    rw [if_neg (by omega), if_pos rfl]
  · have hj' : j < n := hj
    show Value.pointer (if j < n ∧ j ≠ own then some ⟨rbs j, 0, none⟩ else none) = .pointer (if j = own then none else some ⟨rbs j, 0, none⟩)
    by_cases e : j = own
    · rw [if_neg (fun q => q.2 e), if_pos e]
    · rw [if_pos ⟨hj', e⟩, if_neg e]
  · obtain ⟨q1, _, _, g1, _, _⟩ := h2 i hi ho
    exact ⟨q1.1.of_block (hs.block _ q1.1.lt), (hO _ _ q1.1.lt g1 q1.2).trans (Nat.add_assoc _ _ _).symm⟩
  · obtain ⟨_, ⟨q2, q2'⟩, _, _, g2, _⟩ := h2 i hi ho
    exact ⟨q2.later (hs.block _ q2.row.lt), (hO _ _ q2.row.lt g2 q2').trans (Nat.add_assoc _ _ _).symm⟩
  · obtain ⟨_, _, q3, _, _, g3⟩ := h2 i hi ho
    have k0 : Ch 1 O O W W2 := Ch.since hs
    obtain ⟨l1, l2⟩ := q3.keep k0 (by omega)
    refine ⟨l1, fun k hk => ?_⟩
    obtain rfl : cbs i = k := Option.some.inj hk
    have hcl : cbs i < W.heap.size := by
      rcases q3.1.2 with ⟨hv, _⟩ | ⟨g, _, _, hv, _, h5, _⟩
      · cases hv
      · injection hv with e1 _ _
        obtain rfl : cbs i = g := congrArg Addr.block (Option.some.inj e1)
        exact (Array.getElem?_eq_some_iff.1 h5).1
    exact (hO _ _ hcl g3 (l2 _ rfl)).trans (Nat.add_assoc _ _ _).symm
theorem op_runW9 {P : Program} {o : Oper} {a : Act} {w w' : World} {K : Act → World → Prop} {Q : Exit → Act → World → Prop} (v : Value) (hrun : (execOp a.eval o).run P w = .ok (.value v) w') (h : K (a.put o.dst v) w') : Oper.wp P o a w K Q := by
  unfold Oper.wp
  rw [hrun]
  exact h
set_option maxHeartbeats 4000000 in
theorem newS_any {w : World} {nodes n c m own q : Nat} (hg : ∀ i, i < n → goodM i nodes c) (h1 : 1 ≤ m) (h2 : m ≤ 64) (hn1 : 1 ≤ n) (hn : n ≤ 8) (ho : own < n) (node : Int) (O0 : Nat → Nat) (y3 y4 y6 y7 y8 : Value) :
    Calls Tryz.prog 8 #[.agg (cfL nodes n c m y3 y4 y6 y7 y8), .int .i64 node, .int .i64 (own : Nat)] w fun e w' => ∃ sb, e = .returned (.pointer (some ⟨sb, 0, none⟩)) ∧ (∃ O p, SIs O q w' p (newS node own nodes n c m) ∧ p.sb = sb ∧ (∀ k, k < w.heap.size → O k = O0 k)) ∧ w.Since w.heap.size w' := by
  obtain ⟨W1, HW1, s1, _, _, _, _, hrg⟩ := cf_alloc w nodes n c m y3 y4 y6 y7 y8
  have hfl : w.heap.size < W1.heap.size := by rw [← HW1.out]; simp
  obtain ⟨fb, HFB⟩ : ∃ x, Hid (w.heap.size = x) := ⟨_, rfl⟩
  have hrg' : W1.rangeAt fb 0 (cfL nodes n c m y3 y4 y6 y7 y8).toList := by rw [← HFB.out]; exact hrg
  have hfl' : fb < W1.heap.size := by rw [← HFB.out]; exact hfl
  have g0 := hg 0 (by omega)
  obtain ⟨_, _, gc1, gc7, _⟩ := g0
  have HRO : Hid (Calls Tryz.prog 14 #[.agg (cfL nodes n c m y3 y4 y6 y7 y8)] W1 fun e w2 => e = .returned (.int .i64 (n : Nat)) ∧
      Hid (Calls Tryz.prog 13 #[.int .i64 (n : Nat), .int .i64 (own : Nat), .func (.func 15) #[] #[.pointer (some ⟨fb, 0, none⟩)]] w2 fun e w3 => ∃ b, e = .returned (.slice (some ⟨b, 0, none⟩) n n) ∧ ∃ sb W4, Hid (w3.heap.size = sb) ∧ Hid (w3.alloc (.cells #[.int .i64 node, .int .i64 (own : Nat), .slice (some ⟨b, 0, none⟩) n n, .slice none 0 0] 75) = W4) ∧ Hid ((∃ O p, SIs O q W4 p (newS node own nodes n c m) ∧ p.sb = sb ∧ (∀ k, k < w.heap.size → O k = O0 k)) ∧ w.Since w.heap.size W4))) := by
    refine (roadsOf_any (hg 0 (by omega)) h1 h2 hn1 hn y3 y4 y6 y7 y8).mono fun e w2 ⟨he, s2⟩ => ⟨he, ?_⟩
    have hr2 : w2.rangeAt fb 0 (cfL nodes n c m y3 y4 y6 y7 y8).toList := fun j v hv => by
      rw [World.cell?_of_block (a := ⟨fb, 0 + j, none⟩) (s2.block fb hfl')]
      exact hrg' j v hv
    refine (fill_road hr2 (Nat.lt_of_lt_of_le hfl' s2.size) hg h1 h2 hn1 hn ho).mono fun e w3 ⟨b, he3, hF⟩ => ?_
    obtain ⟨W4, HW4, s4, r4⟩ := set_alloc w3 node own b n
    have s3 : w2.Since w2.heap.size w3 := by obtain ⟨_, _, _, _, _, _, _, _, _, h⟩ := hF; exact h
    have hz := s1.size
    have hz2 := s2.size
    obtain ⟨O, p, k1, k2, k3⟩ := SIs.made (q := q) (O0 := O0) hF s4 rfl r4 ⟨hn1, hn, ho, h1, h2, by omega, by omega⟩
    exact ⟨b, he3, _, W4, rfl, HW4, ⟨O, p, k1, k2, fun k hk => k3 k (by omega)⟩, ((s1.trans (since_mono s2 s1.size)).trans (since_mono s3 (Nat.le_trans s1.size s2.size))).trans (since_mono s4 (Nat.le_trans (Nat.le_trans s1.size s2.size) s3.size))⟩
  have HRG := hide hrg'
  have HCI := hide (infoCf nodes n c m y3 y4 y6 y7 y8)
  obtain ⟨CF, HCF⟩ : ∃ x, Hid (cfL nodes n c m y3 y4 y6 y7 y8 = x) := ⟨_, rfl⟩
  have HW1' : Hid (w.alloc (.cells CF 48) = W1) := by rw [← HCF.out]; exact HW1
  rw [HCF.out] at HRO HRG HCI
  rw [HCF.out]
  clear hg h1 h2 hn1 hn ho s1 hrg hrg' hfl hfl' HW1 gc1 gc7 HCF
  go_enter Tryz.func8, Tryz.ntmps8
  go_upto_region 1 with fail
  rw [HW1'.out, HFB.out]
  clear HW1'
  refine wp_region_lit ?_
  refine wpList_plain rfl fun _ hK => op_run (.int .i64 node) (by kernel_rfl) (hK _ _ ?_)
  simp only [Act.put, List.setIfInBounds_toArray, List.set_cons_zero, List.set_cons_succ]
  refine wpList_plain rfl fun _ hK => op_run (.int .i64 (own : Nat)) (by kernel_rfl) (hK _ _ ?_)
  simp only [Act.put, List.setIfInBounds_toArray, List.set_cons_zero, List.set_cons_succ]
  refine wpList_load_mid rfl 48 (.tmp 3) rfl fb 0 rfl CF.toList _ HRG.out Tryz.underlying48 rfl HCI.out ?_
  simp only [Act.put, List.setIfInBounds_toArray, List.set_cons_zero, List.set_cons_succ]
  refine wpList_plain rfl fun _ hK => op_call 14 #[.agg CF] (by kernel_rfl) HRO.out ?_
  rintro e w2 ⟨rfl, HF⟩
  refine ⟨_, rfl, hK _ _ ?_⟩
  clear hK HRO
  simp only [Act.put, List.setIfInBounds_toArray, List.set_cons_zero, List.set_cons_succ]
  refine wpList_plain rfl fun _ hK => op_run (.int .i64 (own : Nat)) (by kernel_rfl) (hK _ _ ?_)
  simp only [Act.put, List.setIfInBounds_toArray, List.set_cons_zero, List.set_cons_succ]
  refine wpList_plain rfl fun _ hK => op_run (.func (.func 15) #[] #[.pointer (some ⟨fb, 0, none⟩)]) (by kernel_rfl) (hK _ _ ?_)
  simp only [Act.put, List.setIfInBounds_toArray, List.set_cons_zero, List.set_cons_succ]
  refine wpList_plain rfl fun _ hK => op_call 13 #[.int .i64 (n : Nat), .int .i64 (own : Nat), .func (.func 15) #[] #[.pointer (some ⟨fb, 0, none⟩)]] (by kernel_rfl) HF.out ?_
  rintro e w3 ⟨b, rfl, sb, W4, HSB, HW4, HK⟩
  refine ⟨_, rfl, hK _ _ ?_⟩
  clear hK HF
  simp only [Act.put, List.setIfInBounds_toArray, List.set_cons_zero, List.set_cons_succ]
  refine wpList_plain rfl fun _ hK => op_run (.agg #[.int .i64 node, .int .i64 (own : Nat), .slice (some ⟨b, 0, none⟩) n n, .slice none 0 0]) (by kernel_rfl) (hK _ _ ?_)
  simp only [Act.put, List.setIfInBounds_toArray, List.set_cons_zero, List.set_cons_succ]
  refine wpList_plain rfl fun _ hK => op_runW9 (w' := w3.alloc (.cells #[.int .i64 node, .int .i64 (own : Nat), .slice (some ⟨b, 0, none⟩) n n, .slice none 0 0] 75)) (.pointer (some ⟨w3.heap.size, 0, none⟩)) (by kernel_rfl) ?_
  rw [HW4.out, HSB.out]
  refine hK _ _ ?_
  clear hK HW4
  simp only [Act.put, List.setIfInBounds_toArray, List.set_cons_zero, List.set_cons_succ]
  go_wp2_with fail
  go_ret
  exact ⟨sb, rfl, HK.out⟩
end Go.Proofs.YtdhhjdacidhmjaaGreat

/- Package settle: the law's helpers: into, config. -/
namespace Go.Proofs.YtdhhjdacidhmjaaGreat
open Go.RowKit
set_option maxRecDepth 100000
set_option maxRecDepth 100000

theorem tmod_emod (K : Int) (m : Nat) (hm : 0 < m) : K % (m : Int) = if K.tmod m < 0 then K.tmod m + m else K.tmod m := by
  have h := Int.tmod_eq_emod (a := K) (b := (m : Int))
  have h1 := Int.emod_nonneg K (show (m : Int) ≠ 0 by omega)
  have h2 := Int.emod_lt_of_pos K (show (0 : Int) < (m : Int) by omega)
  by_cases hc : 0 ≤ K ∨ (m : Int) ∣ K
  · rw [if_pos hc] at h
    rw [if_neg (by omega)]
    omega
  · rw [if_neg hc] at h
    rw [if_pos (by simp only [Int.natAbs_natCast] at h; omega)]
    simp only [Int.natAbs_natCast] at h
    omega
theorem intoS_any (K : Int) (m : Nat) (hm : 0 < m) (hm2 : m ≤ 1000000) (w : World) : Calls Tryz.prog 7 #[.int .i64 K, .int .i64 (m : Nat)] w fun e w' => w = w' ∧ ∃ k : Nat, k < m ∧ (k : Int) = K % (m : Int) ∧ e = .returned (.int .i64 (k : Nat)) := by
  have hem : K % (m : Int) = if K.tmod m < 0 then K.tmod m + m else K.tmod m := tmod_emod K m hm
  have h1 := Int.tmod_lt_of_pos K (show (0 : Int) < (m : Int) by omega)
  have h2 := Int.lt_tmod_of_pos K (show (0 : Int) < (m : Int) by omega)
  have h0 : ¬ (m : Int) = 0 := by omega
  have h0' : ((m : Int) == 0) = false := by simp; omega
  have hmw : IntKind.i64.wrap (K.tmod m) = K.tmod m := by rw [IntKind.wrap_i64]; omega
  by_cases hn : K.tmod m < 0
  · obtain ⟨k, hk, hk2⟩ : ∃ k : Nat, K.tmod m + (m : Int) = (k : Int) ∧ k < m := ⟨(K.tmod m + m).toNat, by omega, by omega⟩
    have hkm : Hid ((k : Int) = K % (m : Int)) := by rw [hem, if_pos hn]; exact hk.symm
    clear hem
    have hw : IntKind.i64.wrap (k : Int) = (k : Int) := by rw [IntKind.wrap_i64]; omega
    go_enter Tryz.func7, Tryz.ntmps7
    go_wp2
    go_ret
    exact ⟨rfl, k, hk2, hkm.out, rfl⟩
  · obtain ⟨k, hk, hk2⟩ : ∃ k : Nat, K.tmod m = (k : Int) ∧ k < m := ⟨(K.tmod m).toNat, by omega, by omega⟩
    have hkm : Hid ((k : Int) = K % (m : Int)) := by rw [hem, if_neg hn]; exact hk.symm
    clear hem
    rw [hk] at hmw hn
    go_enter Tryz.func7, Tryz.ntmps7
    go_wp2
    go_ret
    exact ⟨rfl, k, hk2, hkm.out, rfl⟩
def cfgA (nodes n c m : Nat) : Array Value := #[.int .i64 (nodes : Nat), .int .i64 (n : Nat), .int .i64 (c : Nat), .int .i64 1, .int .i64 16, .int .i64 (m : Nat), .int .i64 64, .int .i64 100, .slice none 0 0]
def cfgF (nodes n c m : Nat) (i : Nat) : Value := (cfgA nodes n c m).toList.getD i undef
theorem cfg_row {W : World} {b : Nat} {f : Nat → Value} (h : W.rowIs b 48 9 f) (nodes n c m : Nat) : (W.setCells b 0 (cfgA nodes n c m).toList).rowIs b 48 9 (cfgF nodes n c m) :=
  (rowIs_setCells (cfgA nodes n c m).toList 0 W f h).congr (fun j hj => by
    rw [if_pos ⟨Nat.zero_le _, by show j < 0 + 9; omega⟩, Nat.sub_zero]
    rfl)
theorem cfg_setC {W : World} {b nodes n c m : Nat} (h : W.rowIs b 48 9 (cfgF nodes n c m)) (c2 : Nat) : (W.setCell ⟨b, 2, none⟩ (.int .i64 (c2 : Nat))).rowIs b 48 9 (cfgF nodes n c2 m) :=
  (h.set 2 _).congr (fun i hi => by
    match i, hi with
    | 0, _ => rfl
    | 1, _ => rfl
    | 2, _ => rfl
    | 3, _ => rfl
    | 4, _ => rfl
    | 5, _ => rfl
    | 6, _ => rfl
    | 7, _ => rfl
    | 8, _ => rfl)
theorem cfg_range {W : World} {b nodes n c m : Nat} (h : W.rowIs b 48 9 (cfgF nodes n c m)) : W.rangeAt b 0 (cfgA nodes n c m).toList := fun j v hv => by
  have hj : j < 9 := (List.getElem?_eq_some_iff.1 hv).1
  rw [Nat.zero_add, h.cell hj]
  show some ((cfgA nodes n c m).toList.getD j undef) = some v
  rw [List.getD_eq_getElem?_getD, hv]
  rfl
theorem cfg_alloc (w : World) : ∃ W, Hid (w.alloc (.cells #[.int .i64 0, .int .i64 0, .int .i64 0, .int .i64 0, .int .i64 0, .int .i64 0, .int .i64 0, .int .i64 0, .slice none 0 0] 48) = W) ∧ w.Since w.heap.size W ∧ ∃ f, W.rowIs w.heap.size 48 9 f :=
  ⟨_, rfl, (World.Since.refl _ _).alloc (Nat.le_refl _) _, _, World.rowIs_alloc w _ _ (fun i => (#[.int .i64 0, .int .i64 0, .int .i64 0, .int .i64 0, .int .i64 0, .int .i64 0, .int .i64 0, .int .i64 0, .slice none 0 0] : Array Value).toList.getD i undef) (fun i hi => by
    have hi' : i < 9 := hi
    match i, hi' with
    | 0, _ => rfl
    | 1, _ => rfl
    | 2, _ => rfl
    | 3, _ => rfl
    | 4, _ => rfl
    | 5, _ => rfl
    | 6, _ => rfl
    | 7, _ => rfl
    | 8, _ => rfl)⟩
theorem cfg_end {w W : World} {rb vb nodes n c m : Nat} {f0 : Nat → Value} (hr : Hid (W.rowIs vb 48 9 (cfgF nodes n c m))) (ho : Hid (W.rowIs rb 48 9 f0)) (hs : Hid (w.Since w.heap.size W)) (h1 : Hid (1 ≤ nodes ∧ nodes ≤ 9)) (h2 : Hid (1 ≤ n ∧ n ≤ 8)) (h4 : Hid (1 ≤ m ∧ m ≤ 64)) (hc : Hid (1 ≤ c ∧ c ≤ nodes ∧ c % 2 = 1)) (h7 : c ≤ 7) (hb : Hid (w.heap.size = rb)) :
    Hid (W.rangeAt vb 0 (cfgA nodes n c m).toList) ∧ Hid ((Tryz.prog.info? 48).map (·.size) = some (cfgA nodes n c m).toList.length) ∧ Hid (W.there rb 0 (cfgA nodes n c m).size) ∧ Hid ((Tryz.prog.info? 48).map (·.size) = some (cfgA nodes n c m).size) ∧ Hid ((cfgA nodes n c m).all (·.oneCell') = true) ∧ ∃ WF, Hid (W.setCells rb 0 (cfgA nodes n c m).toList = WF) ∧ Hid (WF.heap[rb]? = some (.cells (cfgA nodes n c m) 48 (0, 0))) ∧ Hid ((1 ≤ nodes ∧ nodes ≤ 9 ∧ 1 ≤ n ∧ n ≤ 8 ∧ 1 ≤ c ∧ c ≤ 7 ∧ 1 ≤ m ∧ m ≤ 64) ∧ (∀ i : Nat, i < n → goodM i nodes c) ∧ w.Since w.heap.size WF) := by
  obtain ⟨a1, a2⟩ := h1.out
  obtain ⟨b1, b2⟩ := h2.out
  obtain ⟨c1, c2, c3⟩ := hc.out
  obtain ⟨d1, d2⟩ := h4.out
  refine ⟨cfg_range hr.out, infoC9, row_there ho.out, infoC9, (by show _ = _; kernel_rfl), _, rfl, row_heap (cfg_row ho.out nodes n c m), ⟨a1, a2, b1, b2, c1, h7, d1, d2⟩, fun i hi => ⟨by omega, by omega, by omega, by omega, by omega, by omega, by omega, by omega⟩, since_setCells (by rw [hb.out]; exact Nat.le_refl _) _ _ _ hs.out⟩
theorem intoS_one (K : Int) (m : Nat) (hm : 0 < m) (hm2 : m ≤ 1000000) (w : World) : Calls Tryz.prog 7 #[.int .i64 K, .int .i64 (m : Nat)] w fun e w' => w = w' ∧ ∃ k n : Nat, e = .returned (.int .i64 (k : Nat)) ∧ 1 + (k : Int) = (n : Int) ∧ IntKind.i64.wrap (n : Int) = (n : Int) ∧ Hid (1 ≤ n ∧ n ≤ m ∧ n = 1 + (K % (m : Int)).toNat) :=
  (intoS_any K m hm hm2 w).mono fun e w' ⟨h1, k, hk, hq, he⟩ => ⟨h1, k, 1 + k, he, by omega, by rw [IntKind.wrap_i64]; omega, by omega, by omega, by rw [← hq]; simp⟩
set_option maxHeartbeats 4000000 in
theorem config_any (a1 a2 a3 a4 : Int) (w : World) : Calls Tryz.prog 6 #[.int .i64 a1, .int .i64 a2, .int .i64 a3, .int .i64 a4] w fun e w' => ∃ nodes n c m : Nat, e = .returned (.agg (cfgA nodes n c m)) ∧ Hid ((nodes = 1 + (a1 % 9).toNat ∧ n = 1 + (a2 % 8).toNat ∧ m = 1 + (a4 % 64).toNat ∧ c = min 7 (1 + 2 * (a3 % ((1 + (nodes : Int)) / 2)).toNat)) ∧ (1 ≤ nodes ∧ nodes ≤ 9 ∧ 1 ≤ n ∧ n ≤ 8 ∧ 1 ≤ c ∧ c ≤ 7 ∧ 1 ≤ m ∧ m ≤ 64) ∧ (∀ i : Nat, i < n → goodM i nodes c) ∧ w.Since w.heap.size w') := by
  obtain ⟨W0, HW0, s0, f0, r0⟩ := cfg_alloc w
  obtain ⟨W1, HW1, s1, f1, r1⟩ := cfg_alloc W0
  obtain ⟨rb, HRB⟩ : ∃ x, Hid (w.heap.size = x) := ⟨_, rfl⟩
  obtain ⟨vb, HVB⟩ : ∃ x, Hid (W0.heap.size = x) := ⟨_, rfl⟩
  have HI1 := hide (intoS_one a1 9 (by decide) (by decide) W0)
  have HI2 := hide (intoS_one a2 8 (by decide) (by decide) W0)
  have HI4 := hide (intoS_one a4 64 (by decide) (by decide) W0)
  have HS0 := hide s0
  have HR0 := hide r0
  have HS1 := hide s1
  have HR1 := hide r1
  clear s0 r0 s1 r1
  go_enter Tryz.func6, Tryz.ntmps6
  go_upto_region 1 with fail
  rw [HW0.out, HRB.out]
  clear HW0
  refine wp_region_lit ?_
  refine wpList_plain rfl fun _ hK => op_run (.int .i64 a1) (by kernel_rfl) (hK _ _ ?_)
  simp only [Act.put, List.setIfInBounds_toArray, List.set_cons_zero, List.set_cons_succ]
  refine wpList_plain rfl fun _ hK => op_call 7 #[.int .i64 a1, .int .i64 9] (by kernel_rfl) HI1.out ?_
  rintro e w2 ⟨rfl, k1, nodes, rfl, q1, z1, HN1⟩
  refine ⟨_, rfl, hK _ _ ?_⟩
  clear hK HI1
  simp only [Act.put, List.setIfInBounds_toArray, List.set_cons_zero, List.set_cons_succ]
  refine wpList_plain rfl fun _ hK => op_run (.int .i64 (nodes : Nat)) (by go_simp) (hK _ _ ?_)
  simp only [Act.put, List.setIfInBounds_toArray, List.set_cons_zero, List.set_cons_succ]
  refine wpList_plain rfl fun _ hK => op_run (.int .i64 a2) (by kernel_rfl) (hK _ _ ?_)
  simp only [Act.put, List.setIfInBounds_toArray, List.set_cons_zero, List.set_cons_succ]
  refine wpList_plain rfl fun _ hK => op_call 7 #[.int .i64 a2, .int .i64 8] (by kernel_rfl) HI2.out ?_
  rintro e w2 ⟨rfl, k2, n, rfl, q2, z2, HN2⟩
  refine ⟨_, rfl, hK _ _ ?_⟩
  clear hK HI2
  simp only [Act.put, List.setIfInBounds_toArray, List.set_cons_zero, List.set_cons_succ]
  refine wpList_plain rfl fun _ hK => op_run (.int .i64 (n : Nat)) (by go_simp) (hK _ _ ?_)
  simp only [Act.put, List.setIfInBounds_toArray, List.set_cons_zero, List.set_cons_succ]
  refine wpList_plain rfl fun _ hK => op_run (.int .i64 a4) (by kernel_rfl) (hK _ _ ?_)
  simp only [Act.put, List.setIfInBounds_toArray, List.set_cons_zero, List.set_cons_succ]
  refine wpList_plain rfl fun _ hK => op_call 7 #[.int .i64 a4, .int .i64 64] (by kernel_rfl) HI4.out ?_
  rintro e w2 ⟨rfl, k4, m, rfl, q4, z4, HN4⟩
  refine ⟨_, rfl, hK _ _ ?_⟩
  clear hK HI4
  simp only [Act.put, List.setIfInBounds_toArray, List.set_cons_zero, List.set_cons_succ]
  refine wpList_plain rfl fun _ hK => op_run (.int .i64 (m : Nat)) (by go_simp) (hK _ _ ?_)
  simp only [Act.put, List.setIfInBounds_toArray, List.set_cons_zero, List.set_cons_succ]
  refine wpList_plain rfl fun _ hK => op_run (.agg (cfgA nodes n 0 m)) (by kernel_rfl) (hK _ _ ?_)
  simp only [Act.put, List.setIfInBounds_toArray, List.set_cons_zero, List.set_cons_succ]
  refine wpList_plain rfl fun _ hK => op_runW9 (w' := W0.alloc (.cells #[.int .i64 0, .int .i64 0, .int .i64 0, .int .i64 0, .int .i64 0, .int .i64 0, .int .i64 0, .int .i64 0, .slice none 0 0] 48)) (.pointer (some ⟨W0.heap.size, 0, none⟩)) (by kernel_rfl) ?_
  rw [HW1.out]
  refine hK _ _ ?_
  clear hK HW1
  simp only [Act.put, List.setIfInBounds_toArray, List.set_cons_zero, List.set_cons_succ]
  have HT := hide (row_there HR1.out)
  have HIA : Hid ((Tryz.prog.info? 48).map (·.size) = some (cfgA nodes n 0 m).size) := infoC9
  have HR2 := hide (cfg_row HR1.out nodes n 0 m)
  have HS2 : Hid (w.Since w.heap.size (W1.setCells W0.heap.size 0 (cfgA nodes n 0 m).toList)) := since_setCells HS0.out.size _ _ _ (HS0.out.trans (since_mono HS1.out HS0.out.size))
  have HW1R := hide (HS1.out.size)
  have HOLD : Hid ((W1.setCells W0.heap.size 0 (cfgA nodes n 0 m).toList).rowIs rb 48 9 f0) := by
    have h0 : W0.rowIs rb 48 9 f0 := by rw [← HRB.out]; exact HR0.out
    have hl := h0.lt
    exact h0.of_block ((since_setCells (Nat.le_refl _) _ _ _ HS1.out).block rb hl)
  refine wpList_store_mid rfl 48 _ _ rfl W0.heap.size 0 _ rfl rfl HT.out HIA.out (by kernel_rfl) ?_
  have HNE : Hid (rb ≠ vb) := by have h0 : W0.rowIs w.heap.size 48 9 f0 := HR0.out; have := h0.lt; have := HRB.out; have := HVB.out; show _ ≠ _; omega
  obtain ⟨W2, HW2⟩ : ∃ W, Hid (W1.setCells W0.heap.size 0 (cfgA nodes n 0 m).toList = W) := ⟨_, rfl⟩
  rw [HVB.out] at HW2 HR2
  rw [HVB.out]
  rw [HVB.out, HW2.out] at HS2 HOLD
  rw [HW2.out] at HR2
  rw [HW2.out]
  clear HW2 HT HIA HR1 HS1 HW1R HR0
  have d0 : W2.cell? ⟨vb, 0, none⟩ = some (.int .i64 (nodes : Nat)) := HR2.out.cell (i := 0) (by decide)
  have d2 : W2.cell? ⟨vb, 2, none⟩ = some (.int .i64 0) := HR2.out.cell (i := 2) (by decide)
  have e2 : W2.frozen? ⟨vb, 2, none⟩ = false := HR2.out.frozen 2
  obtain ⟨x, qx, zx, hx⟩ : ∃ x : Nat, 1 + (nodes : Int) = (x : Int) ∧ IntKind.i64.wrap (x : Int) = (x : Int) ∧ Hid (x = 1 + nodes) := ⟨1 + nodes, by omega, by have := HN1.out; rw [IntKind.wrap_i64]; omega, rfl⟩
  obtain ⟨h, qh, zh, hh⟩ : ∃ h : Nat, Int.tdiv (x : Int) 2 = (h : Int) ∧ IntKind.i64.wrap (h : Int) = (h : Int) ∧ Hid (h = x / 2) := ⟨x / 2, by rw [Int.tdiv_eq_ediv_of_nonneg (by omega)]; omega, by have := HN1.out; have := hx.out; rw [IntKind.wrap_i64]; omega, rfl⟩
  have HI3 := hide (intoS_any a3 h (by have := HN1.out; have := hx.out; have := hh.out; omega) (by have := HN1.out; have := hx.out; have := hh.out; omega) W2)
  go_wp2_with fail
  refine HI3.out.mono ?_
  rintro e w3 ⟨rfl, k3, hk3, hq3, rfl⟩
  obtain ⟨y, qy, zy, hy⟩ : ∃ y : Nat, 2 * (k3 : Int) = (y : Int) ∧ IntKind.i64.wrap (y : Int) = (y : Int) ∧ Hid (y = 2 * k3) := ⟨2 * k3, by omega, by have := HN1.out; have := hx.out; have := hh.out; rw [IntKind.wrap_i64]; omega, rfl⟩
  obtain ⟨c, qc, zc, hc⟩ : ∃ c : Nat, 1 + (y : Int) = (c : Int) ∧ IntKind.i64.wrap (c : Int) = (c : Int) ∧ Hid (c = 1 + y) := ⟨1 + y, by omega, by have := HN1.out; have := hx.out; have := hh.out; have := hy.out; rw [IntKind.wrap_i64]; omega, rfl⟩
  have HCX : Hid (c = 1 + 2 * (a3 % ((1 + (nodes : Int)) / 2)).toNat) := by
    have e1 := hx.out; have e2 := hh.out; have e3 := hy.out; have e4 := hc.out
    show c = _
    have e5 : (h : Int) = (1 + (nodes : Int)) / 2 := by omega
    rw [← e5, ← hq3, e4, e3]
    simp
  have HC : Hid (1 ≤ c ∧ c ≤ nodes ∧ c % 2 = 1) := by have := HN1.out; have := hx.out; have := hh.out; have := hy.out; have := hc.out; show _ ∧ _; omega
  have HR3 := hide (cfg_setC HR2.out c)
  have HS3 : Hid (w.Since w.heap.size (W2.setCell ⟨vb, 2, none⟩ (.int .i64 (c : Nat)))) := HS2.out.setCell (a := ⟨vb, 2, none⟩) (by show _ ≤ vb; rw [← HVB.out]; exact HS0.out.size) _
  have HO3 : Hid ((W2.setCell ⟨vb, 2, none⟩ (.int .i64 (c : Nat))).rowIs rb 48 9 f0) := HOLD.out.of_block (Below.heap_setCell _ _ _ _ HNE.out)
  obtain ⟨W3, HW3⟩ : ∃ W, Hid (W2.setCell ⟨vb, 2, none⟩ (.int .i64 (c : Nat)) = W) := ⟨_, rfl⟩
  rw [HW3.out] at HR3 HS3 HO3
  clear hk3 hq3 HI3 HR2 HS2 HOLD
  go_upto_region 3 with fail
  rw [HW3.out]
  clear HW3 d0 d2 e2
  have d3 : W3.cell? ⟨vb, 2, none⟩ = some (.int .i64 (c : Nat)) := HR3.out.cell (i := 2) (by decide)
  by_cases h7 : c > 7
  · have z7 : (c : Int) > 7 := by omega
    have H7 := hide h7
    have HR4 := hide (cfg_setC HR3.out 7)
    have HS4 : Hid (w.Since w.heap.size (W3.setCell ⟨vb, 2, none⟩ (.int .i64 (7 : Nat)))) := HS3.out.setCell (a := ⟨vb, 2, none⟩) (by show _ ≤ vb; rw [← HVB.out]; exact HS0.out.size) _
    have HO4 : Hid ((W3.setCell ⟨vb, 2, none⟩ (.int .i64 (7 : Nat))).rowIs rb 48 9 f0) := HO3.out.of_block (Below.heap_setCell _ _ _ _ HNE.out)
    have e3 : W3.frozen? ⟨vb, 2, none⟩ = false := HR3.out.frozen 2
    have HG : Hid (1 ≤ 7 ∧ 7 ≤ nodes ∧ 7 % 2 = 1) := by have := HC.out; show _ ∧ _; omega
    obtain ⟨W4, HW4⟩ : ∃ W, Hid (W3.setCell ⟨vb, 2, none⟩ (.int .i64 (7 : Nat)) = W) := ⟨_, rfl⟩
    rw [HW4.out] at HR4 HS4 HO4
    have HW4' : Hid (W3.setCell ⟨vb, 2, none⟩ (.int .i64 7) = W4) := HW4
    obtain ⟨HRG, HIC, HTH, HIS, HOC, WF, HWF, HRF, HEND⟩ := cfg_end HR4 HO4 HS4 ⟨HN1.out.1, HN1.out.2.1⟩ ⟨HN2.out.1, HN2.out.2.1⟩ ⟨HN4.out.1, HN4.out.2.1⟩ HG (Nat.le_refl _) HRB
    clear HR3 HS3 HO3 HR4 HS4 HO4 HW4 h7 HC
    go_upto_region 5 with fail
    rw [HW4'.out]
    clear HW4' d3 e3
    go_wp2_with (first
      | (refine wpList_load_mid rfl 48 _ rfl vb 0 rfl _ _ HRG.out Tryz.underlying48 rfl HIC.out ?_)
      | (refine wpList_store_mid rfl 48 _ _ rfl rb 0 _ rfl rfl HTH.out HIS.out HOC.out ?_; rw [HWF.out]))
    refine bodyPost_ret_by (results_cell_row rfl _ _ rb 48 _ (0, 0) _ rfl HRF.out Tryz.underlying48 rfl HIS.out) rfl ⟨nodes, n, _, m, rfl, ⟨HN1.out.2.2, HN2.out.2.2, HN4.out.2.2, by have := HCX.out; have := H7.out; omega⟩, HEND.out⟩

  · have z7 : ¬ (c : Int) > 7 := by omega
    have H7 := hide h7
    obtain ⟨HRG, HIC, HTH, HIS, HOC, WF, HWF, HRF, HEND⟩ := cfg_end HR3 HO3 HS3 ⟨HN1.out.1, HN1.out.2.1⟩ ⟨HN2.out.1, HN2.out.2.1⟩ ⟨HN4.out.1, HN4.out.2.1⟩ HC (by omega) HRB
    clear HR3 HS3 HO3 h7 HC
    go_upto_region 5 with fail
    clear d3
    go_wp2_with (first
      | (refine wpList_load_mid rfl 48 _ rfl vb 0 rfl _ _ HRG.out Tryz.underlying48 rfl HIC.out ?_)
      | (refine wpList_store_mid rfl 48 _ _ rfl rb 0 _ rfl rfl HTH.out HIS.out HOC.out ?_; rw [HWF.out]))
    refine bodyPost_ret_by (results_cell_row rfl _ _ rb 48 _ (0, 0) _ rfl HRF.out Tryz.underlying48 rfl HIS.out) rfl ⟨nodes, n, _, m, rfl, ⟨HN1.out.2.2, HN2.out.2.2, HN4.out.2.2, by have := HCX.out; have := H7.out; omega⟩, HEND.out⟩

end Go.Proofs.YtdhhjdacidhmjaaGreat

/- Package settle: the law's helpers: firstOf, has. -/
namespace Go.Proofs.YtdhhjdacidhmjaaGreat
open Go.RowKit
set_option maxRecDepth 100000
set_option maxRecDepth 100000

theorem results_cell_row_tmp {P : Program} {fn : Func} {p u : Tmp} {ty : TypeId} (h : fn.results = #[.cell p ty, .tmp u]) (tmps : Array Value) (w : World) (g : Nat) (t : TypeId) (cs : Array Value) (fr : Nat × Nat) (d : TypeDesc)
    (hp : tmps.getD p undef = .pointer (some ⟨g, 0, none⟩)) (hg : w.heap[g]? = some (.cells cs t fr))
    (hu : P.underlying ty = some d) (hd : (match d with | .struct _ | .array _ _ => true | _ => false) = true) (hi : (P.info? ty).map (·.size) = some cs.size) (v : Value) (hv : tmps.getD u undef = v) :
    (results fn tmps).run P w = .ok (.tuple #[.agg cs, v]) w := by
  rw [results_cell_tmp h, hp, hv]
  simp [asAddr, run_loadVar_row w g t ty cs fr d hg hu hd hi, Result.andThen]
def ent0 : Ent := ⟨0, 0, [], 0⟩
def firstM (l : List Ent) (q : Int) : Option Ent := l.find? (fun e => e.p == q)
def firstE (l : List Ent) (q : Int) : Ent := (firstM l q).getD ent0
theorem firstM_skip (l : List Ent) (q : Int) (j : Nat) (e : Ent) (h : firstM (l.take j) q = none) (he : l[j]? = some e) (hq : e.p ≠ q) : firstM (l.take (j + 1)) q = none := by
  unfold firstM at *
  rw [List.take_add_one, he, List.find?_append, h]
  simp [hq]
theorem firstM_hit (l : List Ent) (q : Int) (j : Nat) (e : Ent) (h : firstM (l.take j) q = none) (he : l[j]? = some e) (hq : e.p = q) : firstM l q = some e := by
  have hj := (List.getElem?_eq_some_iff.1 he)
  obtain ⟨h1, h2⟩ := hj
  unfold firstM at *
  rw [← List.take_append_drop j l, List.find?_append, h, List.drop_eq_getElem_cons h1, h2]
  simp [hq]
theorem infoE4 : (Tryz.prog.info? 82).map (·.size) = some 4 := by kernel_rfl
def entA (e : Ent) : Array Value := #[.int .i64 e.p, .int .u64 (e.nu : Nat), .string (strL e.na), .int .u64 (e.am : Nat)]
theorem ent_row {W : World} {b : Nat} {f : Nat → Value} (h : W.rowIs b 82 4 f) (e : Ent) : (W.setCells b 0 (entA e).toList).heap[b]? = some (.cells (entA e) 82 (0, 0)) :=
  row_heap (f := fun i => (entA e).toList.getD i undef) ((rowIs_setCells (entA e).toList 0 W f h).congr (fun j hj => by
    rw [if_pos ⟨Nat.zero_le _, by show j < 0 + 4; omega⟩, Nat.sub_zero]))
theorem ent0_alloc (w : World) : ∃ W, Hid (w.alloc (.cells #[.int .i64 0, .int .u64 0, .string ⟨#[]⟩, .int .u64 0] 82) = W) ∧ w.Since w.heap.size W ∧ W.rowIs w.heap.size 82 4 (entCell ent0) := ent_alloc w ent0
end Go.Proofs.YtdhhjdacidhmjaaGreat

/- Package settle: the laws of what is sent and of what drains, as plain mathematics. -/
namespace Go.Proofs.YtdhhjdacidhmjaaGreat
open Go.RowKit
set_option maxRecDepth 100000
set_option maxRecDepth 100000
set_option linter.unusedVariables false

/-- Which peers are sent something by a tick. -/
def firesB (d : Sd) (f : Nat → Option Du) (i : Nat) : Bool := (f i).isSome && decide (d.l i ≤ 1)
def peersM (d : Sd) (f : Nat → Option Du) (n : Nat) : List Nat := (List.range n).filter (firesB d f)
def sendM (d : Sd) (f : Nat → Option Du) (i : Nat) : Mg := telG d.node d.shard ((f i).elim ent0 (·.e)) (d.cp i (d.t i))
/-- A Settle behind a tick of the first k peers. -/
def tkD (d : Sd) (f : Nat → Option Du) (k : Nat) : Sd := { d with l := fun j => if j < k ∧ (f j).isSome then tkL (d.l j) (d.g j) else d.l j, g := fun j => if j < k ∧ (f j).isSome then tkG (d.l j) (d.g j) d.m else d.g j, t := fun j => if j < k ∧ firesB d f j then (d.t j + 1) % d.c else d.t j }
theorem up_if {α : Type} (f h : Nat → α) (i : Nat) (P : Nat → Prop) [DecidablePred P] : up (fun j => if j < i ∧ P j then h j else f j) i (if P i then h i else f i) = fun j => if j < i + 1 ∧ P j then h j else f j := by
  funext j
  show (if j = i then (if P i then h i else f i) else if j < i ∧ P j then h j else f j) = if j < i + 1 ∧ P j then h j else f j
  by_cases hj : j = i
  · subst hj
    rw [if_pos rfl]
    by_cases hp : P j
    · rw [if_pos hp, if_pos ⟨Nat.lt_succ_self _, hp⟩]
    · rw [if_neg hp, if_neg (fun h => hp h.2)]
  · rw [if_neg hj]
    by_cases hp : P j
    · by_cases hl : j < i
      · rw [if_pos ⟨hl, hp⟩, if_pos ⟨by omega, hp⟩]
      · rw [if_neg (fun h => hl h.1), if_neg (fun h => by have := h.1; omega)]
    · rw [if_neg (fun h => hp h.2), if_neg (fun h => hp h.2)]
theorem up_id {α : Type} (f : Nat → α) (i : Nat) : up f i (f i) = f := by
  funext j
  unfold up
  by_cases hj : j = i
  · rw [if_pos hj, hj]
  · rw [if_neg hj]
theorem no_if {α : Type} (f h : Nat → α) (i : Nat) (P : Nat → Prop) [DecidablePred P] (hp : ¬ P i) : (fun j => if j < i ∧ P j then h j else f j) = fun j => if j < i + 1 ∧ P j then h j else f j := by
  have := up_if f h i P
  rw [if_neg hp] at this
  rw [← this]
  funext j
  show _ = (if j = i then f i else if j < i ∧ P j then h j else f j)
  by_cases hj : j = i
  · subst hj; rw [if_pos rfl]; exact if_neg (fun h => Nat.lt_irrefl _ h.1)
  · rw [if_neg hj]
theorem tkN_all (d : Sd) (f : Nat → Option Du) (k : Nat) : tkN d f k = (tkD d f k, (peersM d f k).map (sendM d f)) := by
  induction k with
  | zero =>
    show (d, []) = _
    unfold tkD peersM
    simp
  | succ k ih =>
    show ((tkS (tkN d f k).1 f k).1, (tkN d f k).2 ++ (tkS (tkN d f k).1 f k).2) = _
    rw [ih]
    have hp : peersM d f (k + 1) = peersM d f k ++ (if firesB d f k then [k] else []) := by
      unfold peersM
      rw [List.range_succ, List.filter_append]
      congr 1
      by_cases h : firesB d f k
      · simp [h]
      · simp [h]
    cases hk : f k with
    | none =>
      have hs : ¬ ((f k).isSome = true) := by rw [hk]; simp
      have hb : firesB d f k = false := by unfold firesB; rw [hk]; rfl
      have e1 : tkS (tkD d f k) f k = (tkD d f k, []) := by unfold tkS; rw [hk]
      have e2 : tkD d f (k + 1) = tkD d f k := by
        unfold tkD
        rw [← no_if d.l (fun j => tkL (d.l j) (d.g j)) k (fun j => (f j).isSome = true) hs, ← no_if d.g (fun j => tkG (d.l j) (d.g j) d.m) k (fun j => (f j).isSome = true) hs, ← no_if d.t (fun j => (d.t j + 1) % d.c) k (fun j => firesB d f j = true) (by rw [hb]; simp)]
      rw [e1, e2, hp, hb]
      simp
    | some u =>
      have hs : (f k).isSome = true := by rw [hk]; rfl
      have l0 : (tkD d f k).l k = d.l k := if_neg (fun h => Nat.lt_irrefl _ h.1)
      have g0 : (tkD d f k).g k = d.g k := if_neg (fun h => Nat.lt_irrefl _ h.1)
      have t0 : (tkD d f k).t k = d.t k := if_neg (fun h => Nat.lt_irrefl _ h.1)
      have eL : up (tkD d f k).l k (tkL (d.l k) (d.g k)) = (tkD d f (k + 1)).l := by
        have := up_if d.l (fun j => tkL (d.l j) (d.g j)) k (fun j => (f j).isSome = true)
        rw [if_pos hs] at this
        exact this
      have eG : up (tkD d f k).g k (tkG (d.l k) (d.g k) d.m) = (tkD d f (k + 1)).g := by
        have := up_if d.g (fun j => tkG (d.l j) (d.g j) d.m) k (fun j => (f j).isSome = true)
        rw [if_pos hs] at this
        exact this
      have ep : (tkD d f k).pace k = { tkD d f k with l := (tkD d f (k + 1)).l, g := (tkD d f (k + 1)).g } := by
        unfold Sd.pace
        rw [l0, g0, ← eL, ← eG]
        rfl
      by_cases hl : d.l k ≤ 1
      · have hb : firesB d f k = true := by unfold firesB; rw [hk]; simp [hl]
        have eT : up (tkD d f k).t k ((d.t k + 1) % d.c) = (tkD d f (k + 1)).t := by
          have := up_if d.t (fun j => (d.t j + 1) % d.c) k (fun j => firesB d f j = true)
          rw [if_pos hb] at this
          exact this
        have e1 : tkS (tkD d f k) f k = (((tkD d f k).pace k).turn k, [telG d.node d.shard u.e (d.cp k (d.t k))]) := by
          unfold tkS
          rw [hk]
          show (if (tkD d f k).l k ≤ 1 then _ else _) = _
          rw [l0, if_pos hl, t0]
          rfl
        rw [e1, hp, hb, ep]
        have e2 : Sd.turn { tkD d f k with l := (tkD d f (k + 1)).l, g := (tkD d f (k + 1)).g } k = tkD d f (k + 1) := by
          show ({ tkD d f k with l := (tkD d f (k + 1)).l, g := (tkD d f (k + 1)).g, t := up (tkD d f k).t k (((tkD d f k).t k + 1) % d.c) } : Sd) = _
          rw [t0, eT]
          rfl
        rw [e2]
        simp [sendM, hk]
      · have hb : firesB d f k = false := by unfold firesB; rw [hk]; simp [hl]
        have e1 : tkS (tkD d f k) f k = ((tkD d f k).pace k, []) := by
          unfold tkS
          rw [hk]
          show (if (tkD d f k).l k ≤ 1 then _ else _) = _
          rw [l0, if_neg hl]
        have eT : (tkD d f k).t = (tkD d f (k + 1)).t := no_if d.t (fun j => (d.t j + 1) % d.c) k (fun j => firesB d f j = true) (by rw [hb]; simp)
        rw [e1, hp, hb, ep]
        have e2 : ({ tkD d f k with l := (tkD d f (k + 1)).l, g := (tkD d f (k + 1)).g } : Sd) = tkD d f (k + 1) := by
          show ({ tkD d f k with l := (tkD d f (k + 1)).l, g := (tkD d f (k + 1)).g, t := (tkD d f k).t } : Sd) = _
          rw [eT]
          rfl
        rw [e2]
        simp
theorem peers_lt {d : Sd} {f : Nat → Option Du} {n j i : Nat} (h : (peersM d f n)[j]? = some i) : i < n ∧ firesB d f i = true := by
  have := List.mem_of_getElem? h
  unfold peersM at this
  simpa using this
theorem peers_up {d : Sd} {f : Nat → Option Du} {n : Nat} : (peersM d f n).Pairwise (· < ·) := List.Pairwise.filter _ List.pairwise_lt_range
theorem stD_keep (l : List Ent) (q : Int) (u : Du) : ∃ le, l.foldl (stD q) (some u) = some ⟨u.e, le⟩ := by
  induction l generalizing u with
  | nil => exact ⟨u.le, rfl⟩
  | cons a l ih =>
    rw [List.foldl_cons]
    by_cases h : a.p = q
    · obtain ⟨le, h2⟩ := ih ⟨u.e, min u.le a.nu⟩
      exact ⟨le, by rw [show stD q (some u) a = some ⟨u.e, min u.le a.nu⟩ from if_pos h]; exact h2⟩
    · obtain ⟨le, h2⟩ := ih u
      exact ⟨le, by rw [show stD q (some u) a = some u from if_neg h]; exact h2⟩
theorem due_first (l : List Ent) (q : Int) : (dueM l q).map (·.e) = firstM l q := by
  unfold dueM firstM
  induction l with
  | nil => rfl
  | cons a l ih =>
    rw [List.foldl_cons, List.find?_cons]
    by_cases h : a.p = q
    · rw [show stD q none a = some ⟨a, a.nu⟩ from if_pos h]
      obtain ⟨le, h2⟩ := stD_keep l q ⟨a, a.nu⟩
      rw [h2]; simp [h]
    · rw [show stD q none a = none from if_neg h]
      simp only [beq_eq_false_iff_ne.2 h]
      exact ih
theorem stD_least (l : List Ent) (q : Int) (u : Du) (h : ∀ a ∈ l, a.p = q → u.le ≤ a.nu) : l.foldl (stD q) (some u) = some u := by
  induction l generalizing u with
  | nil => rfl
  | cons a l ih =>
    rw [List.foldl_cons]
    by_cases hq : a.p = q
    · rw [show stD q (some u) a = some ⟨u.e, min u.le a.nu⟩ from if_pos hq, Nat.min_eq_left (h a (List.mem_cons_self ..) hq)]
      exact ih u fun b hb => h b (List.mem_cons_of_mem _ hb)
    · rw [show stD q (some u) a = some u from if_neg hq]
      exact ih u fun b hb => h b (List.mem_cons_of_mem _ hb)
theorem due_least (l : List Ent) (q : Int) (e : Ent) (h : ∀ a ∈ l, a.p = q → e.nu ≤ a.nu) (hf : firstM l q = some e) : dueM l q = some ⟨e, e.nu⟩ := by
  unfold dueM
  unfold firstM at hf
  induction l with
  | nil => cases hf
  | cons a l ih =>
    rw [List.foldl_cons]
    rw [List.find?_cons] at hf
    by_cases hq : a.p = q
    · rw [show stD q none a = some ⟨a, a.nu⟩ from if_pos hq]
      have : (a.p == q) = true := by simp [hq]
      rw [this] at hf
      obtain rfl := Option.some.inj hf
      exact stD_least l q ⟨a, a.nu⟩ fun b hb => h b (List.mem_cons_of_mem _ hb)
    · rw [show stD q none a = none from if_neg hq]
      have : (a.p == q) = false := by simp [hq]
      rw [this] at hf
      exact ih (fun b hb => h b (List.mem_cons_of_mem _ hb)) hf
theorem due_none (l : List Ent) (q : Int) (h : ∀ a ∈ l, a.p ≠ q) : dueM l q = none := by
  have := due_first l q
  have h2 : firstM l q = none := by unfold firstM; rw [List.find?_eq_none]; intro x hx; simp [h x hx]
  rw [h2] at this
  cases hd : dueM l q with
  | none => rfl
  | some u => rw [hd] at this; cases this
theorem shF_e (d : Sd) (l : List Ent) (i : Nat) (hi : i ≠ d.own) : (shF d l i).map (·.e) = firstM l (i : Nat) := by
  unfold shF
  rw [if_neg hi]
  exact due_first l _
/-- What Look leaves. -/
theorem lkN_st (d : Sd) (l : List Ent) (k : Nat) : lkN d l k = { d with du := some (shF d l), l := fun j => if j < k ∧ begM (shF d l j) (wasM d j) = true then 0 else d.l j, g := fun j => if j < k ∧ begM (shF d l j) (wasM d j) = true then 1 else d.g j } := by
  induction k with
  | zero =>
    show ({ d with du := some (shF d l) } : Sd) = _
    simp
  | succ k ih =>
    show (if begM (shF d l k) (wasM d k) then (lkN d l k).anew k else lkN d l k) = _
    rw [ih]
    by_cases hb : begM (shF d l k) (wasM d k) = true
    · have e1 := up_if d.l (fun _ => 0) k (fun j => begM (shF d l j) (wasM d j) = true)
      have e2 := up_if d.g (fun _ => 1) k (fun j => begM (shF d l j) (wasM d j) = true)
      rw [if_pos hb] at e1 e2
      rw [if_pos hb, ← e1, ← e2]
      rfl
    · rw [if_neg hb, ← no_if d.l (fun _ => 0) k (fun j => begM (shF d l j) (wasM d j) = true) hb, ← no_if d.g (fun _ => 1) k (fun j => begM (shF d l j) (wasM d j) = true) hb]
theorem begM_same (u : Option Du) : begM u u = false := by
  cases u with
  | none => rfl
  | some u => show decide (u.e.nu ≠ u.e.nu) = false; simp
theorem look_same (d : Sd) (l : List Ent) (h : d.du = some (shF d l)) : lookM d l = d := by
  unfold lookM
  rw [lkN_st]
  have : ∀ j, begM (shF d l j) (wasM d j) = false := fun j => by
    rw [show wasM d j = shF d l j by unfold wasM; rw [h]]
    exact begM_same _
  simp only [this, Bool.false_eq_true, and_false, if_false]
  rw [← h]
/-- How one peer stands in the law of what is sent, behind T ticks. -/
def Pv (m c T l g t la s : Nat) : Prop := 1 ≤ g ∧ g ≤ m ∧ t = s % c ∧ ((s = 0 ∧ T = 0 ∧ l ≤ 1 ∧ la = 0) ∨ (1 ≤ s ∧ 1 ≤ la ∧ la ≤ T ∧ la ≤ 1 + (s - 1) * m ∧ T + l ≤ la + m ∧ 1 ≤ l))
theorem Pv.yes {m c T l g t la s : Nat} (h : Pv m c T l g t la s) (hm : 1 ≤ m) (hc : 1 ≤ c) (hl : l ≤ 1) : Pv m c (T + 1) (tkL l g) (tkG l g m) ((t + 1) % c) (T + 1) (s + 1) := by
  obtain ⟨h1, h2, h3, h4⟩ := h
  have e1 : tkL l g = g := if_neg (by omega)
  have e2 : tkG l g m = min (2 * g) m := if_neg (by omega)
  rw [e1, e2]
  refine ⟨by omega, by omega, by rw [h3, Nat.add_mod, Nat.mod_mod, ← Nat.add_mod], .inr ⟨by omega, by omega, by omega, ?_, by omega, h1⟩⟩
  rcases h4 with ⟨rfl, rfl, _, _⟩ | ⟨k1, k2, k3, k4, k5, k6⟩
  · simp
  · obtain ⟨r, rfl⟩ : ∃ r, s = r + 1 := ⟨s - 1, by omega⟩
    simp only [Nat.add_sub_cancel] at *
    rw [Nat.succ_mul]
    omega
theorem Pv.no {m c T l g t la s : Nat} (h : Pv m c T l g t la s) (hl : ¬ l ≤ 1) : Pv m c (T + 1) (tkL l g) (tkG l g m) t la s := by
  obtain ⟨h1, h2, h3, h4⟩ := h
  have e1 : tkL l g = l - 1 := if_pos (by omega)
  have e2 : tkG l g m = g := if_pos (by omega)
  rw [e1, e2]
  refine ⟨h1, h2, h3, .inr ?_⟩
  rcases h4 with ⟨rfl, rfl, k, _⟩ | ⟨k1, k2, k3, k4, k5, k6⟩
  · omega
  · exact ⟨k1, k2, by omega, k4, by omega, by omega⟩
/-- Never too long. -/
theorem Pv.soon {m c T l g t la s : Nat} (h : Pv m c (T + 1) l g t la s) : 1 ≤ la ∧ la ≤ T + 1 ∧ T + 1 < la + m := by
  obtain ⟨h1, h2, h3, h4⟩ := h
  rcases h4 with ⟨_, h, _⟩ | ⟨k1, k2, k3, k4, k5, k6⟩
  · omega
  · omega
theorem Pv.all {m c l g t la s : Nat} (h : Pv m c (c * m) l g t la s) (hm : 1 ≤ m) (hc : 1 ≤ c) : c ≤ s := by
  obtain ⟨h1, h2, h3, h4⟩ := h
  rcases h4 with ⟨_, h, _⟩ | ⟨k1, k2, k3, k4, k5, k6⟩
  · have := Nat.mul_pos hc hm; omega
  · refine Nat.le_of_not_lt fun hlt => ?_
    have : (s - 1) * m + m + m ≤ c * m := by
      have e : (s - 1) * m + m + m = (s - 1 + 2) * m := by rw [Nat.add_mul]; omega
      rw [e]
      exact Nat.mul_le_mul_right m (by omega)
    omega
/-- The law of what is sent: the Settle, when a peer was sent something, which copies were. -/
structure SV (n own m c : Nat) (f : Nat → Option Du) (d : Sd) (T : Nat) (la : Nat → Nat) (se : Nat → Nat → Bool) : Prop where
  there : ∀ i u, i < n → f i = some u → ∃ s, Pv m c T (d.l i) (d.g i) (d.t i) (la i) s ∧ ∀ k, k < c → se i k = decide (k < s)
  none : ∀ i, i < n → f i = none → ∀ k, k < c → se i k = false
/-- What a tick's messages leave, the first j of them heard. -/
def laJ (pe : List Nat) (T : Nat) (la : Nat → Nat) (j : Nat) (i : Nat) : Nat := if i ∈ pe.take j then T else la i
def seJ (pe : List Nat) (t : Nat → Nat) (se : Nat → Nat → Bool) (j : Nat) (i k : Nat) : Bool := if i ∈ pe.take j ∧ k = t i then true else se i k
theorem mem_take_succ {pe : List Nat} {j i p : Nat} (h : pe[j]? = some p) : i ∈ pe.take (j + 1) ↔ i ∈ pe.take j ∨ i = p := by
  rw [List.take_add_one, h]
  simp
theorem laJ_zero (pe T la) : laJ pe T la 0 = la := by funext i; unfold laJ; simp
theorem seJ_zero (pe t se) : seJ pe t se 0 = se := by funext i k; unfold seJ; simp
theorem laJ_succ {pe : List Nat} {T : Nat} {la : Nat → Nat} {j p : Nat} (h : pe[j]? = some p) : laJ pe T la (j + 1) = up (laJ pe T la j) p T := by
  funext i
  show (if i ∈ pe.take (j + 1) then T else la i) = if i = p then T else if i ∈ pe.take j then T else la i
  by_cases h1 : i = p
  · rw [if_pos h1, if_pos ((mem_take_succ h).2 (.inr h1))]
  · rw [if_neg h1]
    by_cases h2 : i ∈ pe.take j
    · rw [if_pos h2, if_pos ((mem_take_succ h).2 (.inl h2))]
    · rw [if_neg h2, if_neg (fun k => ((mem_take_succ h).1 k).elim h2 h1)]
theorem seJ_succ {pe : List Nat} {t : Nat → Nat} {se : Nat → Nat → Bool} {j p : Nat} (h : pe[j]? = some p) : seJ pe t se (j + 1) = up (seJ pe t se j) p (up (seJ pe t se j p) (t p) true) := by
  funext i k
  show (if i ∈ pe.take (j + 1) ∧ k = t i then true else se i k) = (if i = p then up (seJ pe t se j p) (t p) true else seJ pe t se j i) k
  by_cases h1 : i = p
  · subst h1
    rw [if_pos rfl]
    show _ = if k = t i then true else if i ∈ pe.take j ∧ k = t i then true else se i k
    by_cases h2 : k = t i
    · rw [if_pos h2, if_pos ⟨(mem_take_succ h).2 (.inr rfl), h2⟩]
    · rw [if_neg h2, if_neg (fun k => h2 k.2), if_neg (fun k => h2 k.2)]
  · rw [if_neg h1]
    show _ = if i ∈ pe.take j ∧ k = t i then true else se i k
    by_cases h2 : i ∈ pe.take j ∧ k = t i
    · rw [if_pos h2, if_pos ⟨(mem_take_succ h).2 (.inl h2.1), h2.2⟩]
    · rw [if_neg h2, if_neg (fun k => h2 ⟨((mem_take_succ h).1 k.1).resolve_right h1, k.2⟩)]
theorem laJ_all {pe : List Nat} {T : Nat} {la : Nat → Nat} {i : Nat} : laJ pe T la pe.length i = if i ∈ pe then T else la i := by unfold laJ; rw [List.take_length]
theorem seJ_all {pe : List Nat} {t : Nat → Nat} {se : Nat → Nat → Bool} {i k : Nat} : seJ pe t se pe.length i k = if i ∈ pe ∧ k = t i then true else se i k := by unfold seJ; rw [List.take_length]
/-- The next tick. -/
theorem SV.next {n own m c : Nat} {f : Nat → Option Du} {d : Sd} {T : Nat} {la : Nat → Nat} {se : Nat → Nat → Bool} (h : SV n own m c f d T la se) (hm : 1 ≤ m) (hc : 1 ≤ c) (hdm : d.m = m) (hdc : d.c = c) :
    SV n own m c f (tkD d f n) (T + 1) (laJ (peersM d f n) (T + 1) la (peersM d f n).length) (seJ (peersM d f n) d.t se (peersM d f n).length) := by
  have hmem : ∀ i, i ∈ peersM d f n ↔ i < n ∧ firesB d f i = true := fun i => by unfold peersM; simp
  refine ⟨fun i u hi hu => ?_, fun i hi hn k hk => ?_⟩
  · obtain ⟨s, hp, hs⟩ := h.there i u hi hu
    have hsome : (f i).isSome = true := by rw [hu]; rfl
    have eL : (tkD d f n).l i = tkL (d.l i) (d.g i) := if_pos ⟨hi, hsome⟩
    have eG : (tkD d f n).g i = tkG (d.l i) (d.g i) m := by rw [← hdm]; exact if_pos ⟨hi, hsome⟩
    rw [eL, eG, laJ_all]
    by_cases hl : d.l i ≤ 1
    · have hb : firesB d f i = true := by unfold firesB; rw [hu]; simp [hl]
      have eT : (tkD d f n).t i = (d.t i + 1) % c := by rw [← hdc]; exact if_pos ⟨hi, hb⟩
      rw [eT, if_pos ((hmem i).2 ⟨hi, hb⟩)]
      refine ⟨s + 1, hp.yes hm hc hl, fun k hk => ?_⟩
      rw [seJ_all, hs k hk]
      have ht : d.t i = s % c := hp.2.2.1
      by_cases e : k = d.t i
      · rw [if_pos ⟨(hmem i).2 ⟨hi, hb⟩, e⟩]
        have : s % c ≤ s := Nat.mod_le _ _
        exact (decide_eq_true (by omega)).symm
      · rw [if_neg (fun h => e h.2)]
        by_cases hsc : s < c
        · rw [Nat.mod_eq_of_lt hsc] at ht
          by_cases hks : k < s
          · rw [decide_eq_true hks, decide_eq_true (by omega)]
          · rw [decide_eq_false hks, decide_eq_false (by omega)]
        · rw [decide_eq_true (by omega), decide_eq_true (by omega)]
    · have hb : firesB d f i = false := by unfold firesB; rw [hu]; simp [hl]
      have eT : (tkD d f n).t i = d.t i := if_neg (fun h => by rw [hb] at h; exact absurd h.2 (by simp))
      have hnm : i ∉ peersM d f n := fun h => by have := ((hmem i).1 h).2; rw [hb] at this; cases this
      rw [eT, if_neg hnm]
      exact ⟨s, hp.no hl, fun k hk => by rw [seJ_all, if_neg (fun h => hnm h.1)]; exact hs k hk⟩
  · have hb : firesB d f i = false := by unfold firesB; rw [hn]; rfl
    have hnm : i ∉ peersM d f n := fun h => by have := ((hmem i).1 h).2; rw [hb] at this; cases this
    rw [seJ_all, if_neg (fun h => hnm h.1)]
    exact h.none i hi hn k hk
/-- What of a queue goes to a peer. -/
def ofP (q : List Ent) (i : Nat) : List Ent := q.filter (fun e => e.p == (i : Int))
theorem ofP_head (q : List Ent) (i : Nat) : (ofP q i).head? = firstM q (i : Int) := by unfold ofP firstM; rw [List.head?_filter]
/-- Numbers one behind the other from k + 1 on. -/
def Row1 : List Ent → Nat → Prop
  | [], _ => True
  | e :: l, k => e.nu = k + 1 ∧ Row1 l (k + 1)
theorem Row1.least {l : List Ent} {k : Nat} (h : Row1 l k) : ∀ a ∈ l, k + 1 ≤ a.nu := by
  induction l generalizing k with
  | nil => intro a ha; cases ha
  | cons e l ih =>
    intro a ha
    rcases List.mem_cons.1 ha with rfl | ha
    · exact Nat.le_of_eq h.1.symm
    · have := ih h.2 a ha; omega
theorem Row1.snoc {l : List Ent} {k : Nat} {e : Ent} (h : Row1 l k) (he : e.nu = k + l.length + 1) : Row1 (l ++ [e]) k := by
  induction l generalizing k with
  | nil => exact ⟨by simpa using he, trivial⟩
  | cons a l ih => exact ⟨h.1, ih h.2 (by rw [he, List.length_cons]; omega)⟩
/-- The queue without what a peer has been credited. -/
def woM (q : List Ent) (i : Int) (k : Nat) : List Ent := q.filter (fun e => !(e.p == i) || decide (k < e.nu))
theorem ofP_wo_ne (q : List Ent) (i j k : Nat) (h : j ≠ i) : ofP (woM q (i : Int) k) j = ofP q j := by
  unfold ofP woM
  rw [List.filter_filter]
  refine List.filter_congr fun e _ => ?_
  by_cases hj : e.p = (j : Int)
  · have : ¬ (e.p = (i : Int)) := by omega
    simp [hj]; omega
  · simp [hj]
theorem ofP_wo_same (q : List Ent) (i k : Nat) (h : Row1 (ofP q i) k) : ofP (woM q (i : Int) (k + 1)) i = (ofP q i).tail := by
  have e : ofP (woM q (i : Int) (k + 1)) i = (ofP q i).filter (fun e => decide (k + 1 < e.nu)) := by
    unfold ofP woM
    rw [List.filter_filter, List.filter_filter]
    refine List.filter_congr fun e _ => ?_
    by_cases hj : e.p = (i : Int)
    · have h1 : (e.p == (i : Int)) = true := by simp [hj]
      rw [h1]; cases decide (k + 1 < e.nu) <;> rfl
    · have h1 : (e.p == (i : Int)) = false := by simp [hj]
      rw [h1]; cases decide (k + 1 < e.nu) <;> rfl
  rw [e]
  cases hl : ofP q i with
  | nil => rfl
  | cons a l =>
    rw [hl] at h
    have h1 : ¬ (k + 1 < a.nu) := by have := h.1; omega
    rw [List.filter_cons_of_neg (by simpa using h1), List.tail_cons, List.filter_eq_self]
    intro b hb
    have := h.2.least b hb
    simp; omega
theorem due_ofP (q : List Ent) (i : Nat) : dueM q (i : Int) = dueM (ofP q i) (i : Int) := by
  unfold dueM ofP
  generalize (none : Option Du) = o
  induction q generalizing o with
  | nil => rfl
  | cons a q ih =>
    rw [List.foldl_cons]
    by_cases h : a.p = (i : Int)
    · rw [List.filter_cons_of_pos (by simpa using h), List.foldl_cons]
      exact ih _
    · rw [List.filter_cons_of_neg (by simpa using h), show stD (i : Int) o a = o from if_neg h]
      exact ih _
theorem due_row (q : List Ent) (i k : Nat) (h : Row1 (ofP q i) k) : dueM q (i : Int) = (ofP q i).head?.map fun e => ⟨e, k + 1⟩ := by
  rw [due_ofP]
  cases hl : ofP q i with
  | nil => rfl
  | cons a l =>
    rw [hl] at h
    have hp : a.p = (i : Int) := by
      have : a ∈ ofP q i := by rw [hl]; exact List.mem_cons_self ..
      unfold ofP at this
      simpa using (List.mem_filter.1 this).2
    have := due_least (a :: l) (i : Int) a (fun b hb _ => by have := Row1.least (l := a :: l) h b hb; have := h.1; omega) (by unfold firstM; simp [hp])
    rw [this, h.1]
    rfl
/-- Sends from the turn t to the holder's place h. -/
def distM (c t h : Nat) : Nat := if t ≤ h then h - t else h + c - t
theorem dist_le {c t h : Nat} (ht : t < c) (hh : h < c) : distM c t h + 1 ≤ c := by unfold distM; split <;> omega
theorem dist_next {c t h : Nat} (ht : t < c) (hh : h < c) (hne : t ≠ h) : distM c ((t + 1) % c) h + 1 = distM c t h := by
  unfold distM
  by_cases e : t + 1 = c
  · rw [e, Nat.mod_self]
    rw [if_pos (Nat.zero_le _), if_neg (by omega)]
    omega
  · rw [Nat.mod_eq_of_lt (by omega)]
    by_cases h1 : t ≤ h
    · rw [if_pos (by omega), if_pos h1]; omega
    · rw [if_neg (by omega), if_neg h1]; omega
/-- How many ticks there are at most till a peer's last entry is credited: r entries, the turn t, l ticks left. -/
def potM (m c h r t l : Nat) : Nat := if r = 0 then 0 else (r - 1) * (c * m) + distM c t h * m + max 1 l
theorem pot_le {m c h r t l : Nat} (hm : 1 ≤ m) (ht : t < c) (hh : h < c) (hl : l ≤ m) : potM m c h r t l ≤ r * (c * m) := by
  unfold potM
  by_cases h0 : r = 0
  · rw [if_pos h0]; exact Nat.zero_le _
  · rw [if_neg h0]
    obtain ⟨s, rfl⟩ : ∃ s, r = s + 1 := ⟨r - 1, by omega⟩
    have h1 := Nat.mul_le_mul_right m (dist_le ht hh)
    rw [Nat.succ_mul] at h1
    rw [Nat.add_sub_cancel, Nat.succ_mul]
    have : max 1 l ≤ m := by omega
    omega
theorem pot_wait {m c h r t l g : Nat} (hl : ¬ l ≤ 1) : r ≠ 0 → potM m c h r t (tkL l g) + 1 = potM m c h r t l := fun h0 => by
  unfold potM
  rw [if_neg h0, if_neg h0, show tkL l g = l - 1 from if_pos (by omega)]
  omega
/-- What was sent went to another one. -/
theorem pot_miss {m c h r t l : Nat} (hl : l ≤ m) (hm : 1 ≤ m) (ht : t < c) (hh : h < c) (hne : t ≠ h) (hr : r ≠ 0) : potM m c h r ((t + 1) % c) l + 1 ≤ potM m c h r t 1 := by
  unfold potM
  rw [if_neg hr, if_neg hr]
  have h1 : (distM c ((t + 1) % c) h + 1) * m = distM c t h * m := by rw [dist_next ht hh hne]
  rw [Nat.succ_mul] at h1
  have : max 1 l ≤ m := by omega
  omega
/-- What was sent was credited. -/
theorem pot_hit {m c h r t t' l : Nat} (hl : l ≤ m) (hm : 1 ≤ m) (ht' : t' < c) (hh : h < c) (hr : r ≠ 0) : potM m c h (r - 1) t' l + 1 ≤ potM m c h r t 1 := by
  have h1 := pot_le (h := h) (r := r - 1) hm ht' hh hl
  have : potM m c h r t 1 = (r - 1) * (c * m) + distM c t h * m + 1 := by unfold potM; rw [if_neg hr]; rfl
  omega
theorem pot_zero {m c h r t l : Nat} (h0 : potM m c h r t l = 0) : r = 0 := by
  unfold potM at h0
  by_cases e : r = 0
  · exact e
  · rw [if_neg e] at h0; omega
/-- The law of what drains: what stands ever. -/
structure DB (n own m c lim : Nat) (hold : Nat → Nat) (q : List Ent) (d : Sd) (mk : Nat → Nat) : Prop where
  dn : d.n = n
  dm : d.m = m
  dc : d.c = c
  down : d.own = own
  du : d.du = some (shF d q)
  ok : ∀ e ∈ q, ∃ i : Nat, i < n ∧ i ≠ own ∧ e.p = (i : Int)
  row : ∀ i, i < n → Row1 (ofP q i) (mk i)
  lo : ∀ i, i < n → d.l i ≤ m ∧ 1 ≤ d.g i ∧ d.g i ≤ m ∧ d.t i < c
  hl : ∀ i, i < n → hold i < c
  m1 : 1 ≤ m
  lim : ∀ i, i < n → (ofP q i).length * (c * m) ≤ lim
structure DH (n own m c lim : Nat) (hold : Nat → Nat) (q : List Ent) (d : Sd) (mk : Nat → Nat) (T : Nat) : Prop where
  b : DB n own m c lim hold q d mk
  pot : ∀ i, i < n → potM m c (hold i) (ofP q i).length (d.t i) (d.l i) + T ≤ lim + 1
structure DM2 (n own m c lim : Nat) (hold : Nat → Nat) (q : List Ent) (d : Sd) (mk : Nat → Nat) (pe : List Nat) (t0 : Nat → Nat) (e0 : Nat → Ent) (j T : Nat) : Prop where
  b : DB n own m c lim hold q d mk
  pend : ∀ j', j ≤ j' → ∀ i, pe[j']? = some i → i < n ∧ i ≠ own ∧ firstM q (i : Int) = some (e0 i) ∧ t0 i < c ∧ d.t i = (t0 i + 1) % c ∧ potM m c (hold i) (ofP q i).length (t0 i) 1 + T ≤ lim + 1
  past : ∀ i, i < n → i ∉ pe.drop j → potM m c (hold i) (ofP q i).length (d.t i) (d.l i) + T ≤ lim
section
variable {n own m c lim : Nat} {hold : Nat → Nat} {q : List Ent} {d : Sd} {mk : Nat → Nat} {T : Nat} {pe : List Nat} {t0 : Nat → Nat} {e0 : Nat → Ent} {j : Nat}
theorem DB.own_none (h : DB n own m c lim hold q d mk) : ofP q own = [] := by
  unfold ofP
  rw [List.filter_eq_nil_iff]
  intro e he
  obtain ⟨i, _, h2, h3⟩ := h.ok e he
  simp [h3]; omega
theorem DB.first (h : DB n own m c lim hold q d mk) (i : Nat) (hi : i < n) : shF d q i = (firstM q (i : Int)).map fun e => ⟨e, mk i + 1⟩ := by
  unfold shF
  by_cases e : i = d.own
  · rw [if_pos e, ← ofP_head]
    have : ofP q i = [] := by rw [e, h.down]; exact h.own_none
    rw [this]; rfl
  · rw [if_neg e, due_row q i (mk i) (h.row i hi), ofP_head]
theorem ofP_ne {q : List Ent} {i : Nat} {e : Ent} (h : firstM q (i : Int) = some e) : (ofP q i).length ≠ 0 := by
  rw [← ofP_head] at h
  intro h0
  rw [List.length_eq_zero_iff.1 h0] at h
  cases h
theorem first_ne {q : List Ent} {i : Nat} (h : (ofP q i).length ≠ 0) : ∃ e, firstM q (i : Int) = some e := by
  rw [← ofP_head]
  cases hl : ofP q i with
  | nil => rw [hl] at h; exact absurd rfl h
  | cons a l => exact ⟨a, rfl⟩
/-- A tick. -/
theorem tkL_le {l g m : Nat} (h1 : l ≤ m) (h2 : g ≤ m) : tkL l g ≤ m := by unfold tkL; split <;> omega
theorem tkG_bd {l g m : Nat} (hm : 1 ≤ m) (h1 : 1 ≤ g) (h2 : g ≤ m) : 1 ≤ tkG l g m ∧ tkG l g m ≤ m := by unfold tkG; split <;> omega
theorem DH.tick (h : DH n own m c lim hold q d mk T) (hT : T ≤ lim) : DM2 n own m c lim hold q (tkD d (shF d q) n) mk (peersM d (shF d q) n) d.t (fun i => ((shF d q i).elim ent0 (·.e))) 0 T := by
  obtain ⟨b, hp⟩ := h
  have hmem : ∀ i, i ∈ peersM d (shF d q) n ↔ i < n ∧ firesB d (shF d q) i = true := fun i => by unfold peersM; simp
  have hb : DB n own m c lim hold q (tkD d (shF d q) n) mk := by
    refine ⟨b.dn, b.dm, b.dc, b.down, b.du, b.ok, b.row, fun i hi => ?_, b.hl, b.m1, b.lim⟩
    obtain ⟨h1, h2, h3, h4⟩ := b.lo i hi
    by_cases hs : (shF d q i).isSome = true
    · have eL : (tkD d (shF d q) n).l i = tkL (d.l i) (d.g i) := if_pos ⟨hi, hs⟩
      have eG : (tkD d (shF d q) n).g i = tkG (d.l i) (d.g i) m := by rw [← b.dm]; exact if_pos ⟨hi, hs⟩
      rw [eL, eG]
      refine ⟨tkL_le h1 h3, (tkG_bd b.m1 h2 h3).1, (tkG_bd b.m1 h2 h3).2, ?_⟩
      by_cases hf : firesB d (shF d q) i = true
      · rw [show (tkD d (shF d q) n).t i = (d.t i + 1) % c by rw [← b.dc]; exact if_pos ⟨hi, hf⟩]
        exact Nat.mod_lt _ (by omega)
      · rw [show (tkD d (shF d q) n).t i = d.t i from if_neg fun h => hf h.2]
        exact h4
    · have eL : (tkD d (shF d q) n).l i = d.l i := if_neg fun h => hs h.2
      have eG : (tkD d (shF d q) n).g i = d.g i := if_neg fun h => hs h.2
      have hf : ¬ firesB d (shF d q) i = true := fun hf => hs (by unfold firesB at hf; exact (Bool.and_eq_true_iff.1 hf).1)
      rw [eL, eG, show (tkD d (shF d q) n).t i = d.t i from if_neg fun h => hf h.2]
      exact ⟨h1, h2, h3, h4⟩
  refine ⟨hb, fun j' _ i hj => ?_, fun i hi hni => ?_⟩
  · obtain ⟨hi, hf⟩ := peers_lt hj
    have hf2 := hf
    unfold firesB at hf2
    simp only [Bool.and_eq_true, decide_eq_true_eq] at hf2
    obtain ⟨hs, hl⟩ := hf2
    rw [b.first i hi] at hs
    obtain ⟨e, he⟩ : ∃ e, firstM q (i : Int) = some e := by
      cases hq : firstM q (i : Int) with
      | none => rw [hq] at hs; cases hs
      | some e => exact ⟨e, rfl⟩
    have hne := ofP_ne he
    refine ⟨hi, fun e => hne (by rw [e, b.own_none]; rfl), ?_, (b.lo i hi).2.2.2, ?_, ?_⟩
    · show firstM q (i : Int) = some ((shF d q i).elim ent0 (·.e))
      rw [b.first i hi, he]; rfl
    · rw [← b.dc]; exact if_pos ⟨hi, hf⟩
    · have := hp i hi
      have e2 : potM m c (hold i) (ofP q i).length (d.t i) (d.l i) = potM m c (hold i) (ofP q i).length (d.t i) 1 := by
        unfold potM
        rw [if_neg hne, if_neg hne, show max 1 (d.l i) = max 1 1 by omega]
      omega
  · rw [List.drop_zero] at hni
    have hnf : firesB d (shF d q) i = false := by
      cases hf : firesB d (shF d q) i with
      | false => rfl
      | true => exact absurd ((hmem i).2 ⟨hi, hf⟩) hni
    have eT : (tkD d (shF d q) n).t i = d.t i := if_neg (fun h => by rw [hnf] at h; exact absurd h.2 (by simp))
    rw [eT]
    by_cases h0 : (ofP q i).length = 0
    · have : potM m c (hold i) (ofP q i).length (d.t i) ((tkD d (shF d q) n).l i) = 0 := if_pos h0
      have h2 := hp i hi
      rw [this]
      omega
    · obtain ⟨e, he⟩ := first_ne h0
      have hs : (shF d q i).isSome = true := by rw [b.first i hi, he]; rfl
      have hl : ¬ d.l i ≤ 1 := fun hl => by unfold firesB at hnf; rw [hs] at hnf; simp [hl] at hnf
      have eL : (tkD d (shF d q) n).l i = tkL (d.l i) (d.g i) := if_pos ⟨hi, hs⟩
      rw [eL]
      have := pot_wait (m := m) (c := c) (h := hold i) (r := (ofP q i).length) (t := d.t i) (g := d.g i) hl h0
      have h2 := hp i hi
      omega
end
section
variable {n own m c lim : Nat} {hold : Nat → Nat} {q : List Ent} {d : Sd} {mk : Nat → Nat} {T : Nat} {pe : List Nat} {t0 : Nat → Nat} {e0 : Nat → Ent} {j : Nat}
theorem DM2.weak (h : DM2 n own m c lim hold q d mk pe t0 e0 j T) {T' : Nat} (hT : T' ≤ T) : DM2 n own m c lim hold q d mk pe t0 e0 j T' :=
  ⟨h.b, fun j' hj i hi => by obtain ⟨a1, a2, a3, a4, a5, a6⟩ := h.pend j' hj i hi; exact ⟨a1, a2, a3, a4, a5, by omega⟩, fun i hi hn => by have := h.past i hi hn; omega⟩
theorem mem_drop {pe : List Nat} {j i p : Nat} (h : pe[j]? = some p) (hn : i ∉ pe.drop (j + 1)) : i = p ∨ i ∉ pe.drop j := by
  obtain ⟨hj, he⟩ := List.getElem?_eq_some_iff.1 h
  rw [List.drop_eq_getElem_cons hj, he]
  by_cases e : i = p
  · exact .inl e
  · refine .inr fun hm => ?_
    rcases List.mem_cons.1 hm with h1 | h1
    · exact e h1
    · exact hn h1
theorem up_drop {pe : List Nat} (hp : pe.Pairwise (· < ·)) {j j' i p : Nat} (h : pe[j]? = some p) (hj : j + 1 ≤ j') (h' : pe[j']? = some i) : p < i := by
  obtain ⟨h1, e1⟩ := List.getElem?_eq_some_iff.1 h
  obtain ⟨h2, e2⟩ := List.getElem?_eq_some_iff.1 h'
  have := List.pairwise_iff_getElem.1 hp j j' h1 h2 (by omega)
  rw [e1, e2] at this
  exact this
/-- A message that is lost: the count begins anew. -/
theorem DM2.lost (h : DM2 n own m c lim hold q d mk pe t0 e0 j T) {p : Nat} (hp : pe[j]? = some p) : DM2 n own m c lim hold q d mk pe t0 e0 (j + 1) 0 := by
  refine ⟨h.b, fun j' hj i hi => by obtain ⟨a1, a2, a3, a4, a5, a6⟩ := h.pend j' (by omega) i hi; exact ⟨a1, a2, a3, a4, a5, by omega⟩, fun i hi _ => ?_⟩
  obtain ⟨b1, b2, b3, b4⟩ := h.b.lo i hi
  have := pot_le (r := (ofP q i).length) h.b.m1 b4 (h.b.hl i hi) b1
  have := h.b.lim i hi
  omega
/-- One that another one gets. -/
theorem DM2.miss (h : DM2 n own m c lim hold q d mk pe t0 e0 j T) {p : Nat} (hp : pe[j]? = some p) (hne : t0 p ≠ hold p) : DM2 n own m c lim hold q d mk pe t0 e0 (j + 1) T := by
  refine ⟨h.b, fun j' hj i hi => h.pend j' (by omega) i hi, fun i hi hn => ?_⟩
  rcases mem_drop hp hn with rfl | h1
  · obtain ⟨a1, a2, a3, a4, a5, a6⟩ := h.pend j (Nat.le_refl _) i hp
    obtain ⟨b1, b2, b3, b4⟩ := h.b.lo i hi
    have := pot_miss (r := (ofP q i).length) b1 h.b.m1 a4 (h.b.hl i hi) hne (ofP_ne a3)
    rw [a5]
    omega
  · exact h.past i hi h1
/-- One that the holder credits. -/
theorem DM2.hit (h : DM2 n own m c lim hold q d mk pe t0 e0 j T) (hu : pe.Pairwise (· < ·)) {p : Nat} (hp : pe[j]? = some p) : DM2 n own m c lim hold (woM q (p : Int) (mk p + 1)) (lookM d (woM q (p : Int) (mk p + 1))) (up mk p (mk p + 1)) pe t0 e0 (j + 1) T := by
  obtain ⟨q', hq'⟩ : ∃ q', woM q (p : Int) (mk p + 1) = q' := ⟨_, rfl⟩
  have b := h.b
  obtain ⟨a1, a2, a3, a4, a5, a6⟩ := h.pend j (Nat.le_refl _) p hp
  have ene : ∀ i, i ≠ p → ofP q' i = ofP q i := fun i hi => by rw [← hq']; exact ofP_wo_ne q p i _ hi
  have esame : ofP q' p = (ofP q p).tail := by rw [← hq']; exact ofP_wo_same q p (mk p) (b.row p a1)
  rw [hq']
  have hl : lookM d q' = _ := lkN_st d q' d.n
  have hsh : ∀ i, i ≠ p → shF d q' i = shF d q i := fun i hi => by
    unfold shF
    by_cases e : i = d.own
    · rw [if_pos e, if_pos e]
    · rw [if_neg e, if_neg e, due_ofP, ene i hi, ← due_ofP]
  have hbeg : ∀ i, i ≠ p → begM (shF d q' i) (wasM d i) = false := fun i hi => by
    rw [hsh i hi, show wasM d i = shF d q i by unfold wasM; rw [b.du]]
    exact begM_same _
  have eL : ∀ i, i ≠ p → (lookM d q').l i = d.l i := fun i hi => by rw [hl]; exact if_neg fun h => by rw [hbeg i hi] at h; exact absurd h.2 (by simp)
  have eG : ∀ i, i ≠ p → (lookM d q').g i = d.g i := fun i hi => by rw [hl]; exact if_neg fun h => by rw [hbeg i hi] at h; exact absurd h.2 (by simp)
  have eT : (lookM d q').t = d.t := by rw [hl]
  have hb : DB n own m c lim hold q' (lookM d q') (up mk p (mk p + 1)) := by
    refine ⟨by rw [hl]; exact b.dn, by rw [hl]; exact b.dm, by rw [hl]; exact b.dc, by rw [hl]; exact b.down, by rw [hl]; rfl, fun e he => ?_, fun i hi => ?_, fun i hi => ?_, b.hl, b.m1, fun i hi => ?_⟩
    · rw [← hq'] at he
      exact b.ok e (List.mem_filter.1 he).1
    · by_cases e : i = p
      · subst e
        rw [esame, up_same]
        have := b.row i hi
        cases hx : ofP q i with
        | nil => exact trivial
        | cons a l => rw [hx] at this; exact this.2
      · rw [ene i e, up_ne _ _ _ e]; exact b.row i hi
    · obtain ⟨b1, b2, b3, b4⟩ := b.lo i hi
      have hm := b.m1
      rw [hl]
      refine ⟨?_, ?_, ?_, b4⟩
      · show (if _ then 0 else d.l i) ≤ m
        split
        · exact Nat.zero_le _
        · exact b1
      · show 1 ≤ (if _ then 1 else d.g i)
        split
        · exact Nat.le_refl _
        · exact b2
      · show (if _ then 1 else d.g i) ≤ m
        split
        · exact hm
        · exact b3
    · by_cases e : i = p
      · subst e
        have := b.lim i hi
        have h2 : (ofP q' i).length ≤ (ofP q i).length := by rw [esame, List.length_tail]; omega
        exact Nat.le_trans (Nat.mul_le_mul_right _ h2) this
      · rw [ene i e]; exact b.lim i hi
  refine ⟨hb, fun j' hj i hi => ?_, fun i hi hn => ?_⟩
  · have hlt := up_drop hu hp hj hi
    have hne : i ≠ p := by omega
    obtain ⟨c1, c2, c3, c4, c5, c6⟩ := h.pend j' (by omega) i hi
    rw [eT, ene i hne]
    exact ⟨c1, c2, by rw [← ofP_head, ene i hne, ofP_head]; exact c3, c4, c5, c6⟩
  · by_cases e : i = p
    · subst e
      have hlo := hb.lo i hi
      rw [eT] at hlo ⊢
      have := pot_hit (t := t0 i) (l := (lookM d q').l i) (r := (ofP q i).length) (t' := d.t i) hlo.1 b.m1 hlo.2.2.2 (b.hl i hi) (ofP_ne a3)
      have h2 : (ofP q' i).length = (ofP q i).length - 1 := by rw [esame, List.length_tail]
      rw [h2]
      omega
    · rw [eT, ene i e, eL i e]
      rcases mem_drop hp hn with h1 | h1
      · exact absurd h1 e
      · exact h.past i hi h1
theorem DM2.head (h : DM2 n own m c lim hold q d mk pe t0 e0 pe.length T) : DH n own m c lim hold q d mk (T + 1) := ⟨h.b, fun i hi => by
  have := h.past i hi (by rw [List.drop_length]; exact List.not_mem_nil)
  omega⟩
theorem DH.over (h : DH n own m c lim hold q d mk T) (hT : lim < T) : q = [] := by
  cases hq : q with
  | nil => rfl
  | cons e l =>
    obtain ⟨i, hi, _, he⟩ := h.b.ok e (by rw [hq]; exact List.mem_cons_self ..)
    have h0 := pot_zero (m := m) (c := c) (h := hold i) (r := (ofP q i).length) (t := d.t i) (l := d.l i) (by have := h.pot i hi; omega)
    have : firstM q (i : Int) = some e := by rw [hq]; unfold firstM; simp [he]
    exact absurd h0 (ofP_ne this)
theorem DB.silent (h : DB n own m c lim hold [] d mk) : (peersM d (shF d []) n) = [] := by
  unfold peersM
  rw [List.filter_eq_nil_iff]
  intro i _
  have : shF d [] i = none := by unfold shF; split <;> rfl
  unfold firesB
  rw [this]; simp
end
end Go.Proofs.YtdhhjdacidhmjaaGreat
