/- Package plane: squares, byNearness. -/
import Derived.Test.YtbebnjeamlmclaaGreatPlaneSort2
namespace Go.Proofs.YtbebnjeamlmclaaGreat
open Go.RowKit Go.Shelf Go.Sort
set_option maxRecDepth 100000
set_option maxRecDepth 100000

theorem intInfo : (Tryz.prog.info? 3).map (fun i => (i.zero, i.size, i.bytes)) = some (some (.int .i64 0), 1, 8) := by kernel_rfl

theorem fi_le (k : Nat) : fiM k ≤ pairsM k + 1 ∧ stM k - fiM k ≤ pairsM k + 1 := by
  have := st_le k
  have e : fiM k = min (stM k) (pairsM k + 1) := rfl
  omega

/-- How far a step's point is from the middle. -/
theorem sp_bound (k : Nat) : (spM k).1.natAbs ≤ 2 * pairsM k + 1 ∧ (spM k).2.natAbs ≤ 2 * pairsM k + 1 := by
  obtain ⟨h1, h2⟩ := fi_le k
  unfold spM spQ
  split <;> constructor <;> simp only <;> omega

theorem sp_near (k : Nat) (hk : k ≤ 1099511627776) : (spM k).1.natAbs ≤ 2097151 ∧ (spM k).2.natAbs ≤ 2097151 := by
  have h := pairs_lt k hk
  obtain ⟨h1, h2⟩ := sp_bound k
  omega

/-- Where a shard stands. -/
def shardM (s : Nat) : Int × Int := turnN 1 (spM (s + 1))
/-- The square of a node's distance from a shard. -/
def apD (s j : Nat) : Int := apM (spM j) (shardM s)

theorem squares_any (s n : Nat) (hs : s < 8) (hn : 1 ≤ n) (hn9 : n ≤ 9) (w : World) :
    Calls Tryz.prog 13 #[.int .i64 s, .int .i64 n] w fun e w' => ∃ b, e = .returned (.slice (some ⟨b, 0, none⟩) n n) ∧ w.heap.size ≤ b ∧ w'.rowIs b 3 n (fun j => .int .i64 (apD s j)) ∧ Below w.heap.size w w' := by
  have hsp := fun w => spiral_in (s + 1) (by omega) w
  have e1 : ((s + 1 : Nat) : Int) = (s : Int) + 1 := by omega
  rw [e1] at hsp
  have hmk := fun w => run_make_row' (P := Tryz.prog) 31 3 (.int .i64 0) 8 Tryz.underlying31 intInfo rfl .i64 .i64 n (by omega) (by omega) w
  obtain ⟨q1, q2⟩ := sp_near (s + 1) (by omega)
  have hz9 : (n : Int) ≤ 9 := by omega
  go_enter Tryz.func13, Tryz.ntmps13
  go_wp2_with fail
  refine (hsp _).mono ?_
  rintro e w1 ⟨a, b, rfl, fa, fb, b1⟩
  go_wp2_with fail
  refine (turn_any 1 fa fb _).mono ?_
  rintro e w1 ⟨r, t, rfl, fr, ft, rfl⟩
  have hat : turnN (1 % 4 : Int).toNat ((spM (s + 1)).1, (spM (s + 1)).2) = shardM s := rfl
  rw [hat] at fr ft
  have hmk1 := hmk w1
  have hrow := World.rowIs_made w1 (.int .i64 0) n 3
  have hb2 := b1.alloc b1.size (.cells (madeCells #[.int .i64 0] n) 3)
  have hz2 : (w1.alloc (.cells (madeCells #[.int .i64 0] n) 3)).heap.size = w1.heap.size + 1 := by simp
  have hsz := b1.size
  have hsh : (shardM s).1.natAbs ≤ 2097151 ∧ (shardM s).2.natAbs ≤ 2097151 := by
    show (-(spM (s + 1)).2).natAbs ≤ _ ∧ (spM (s + 1)).1.natAbs ≤ _
    omega
  generalize w1.alloc (.cells (madeCells #[.int .i64 0] n) 3) = W at *
  clear hmk hsp fa fb b1 hat
  go_wp2
  go_loopg [7, 16] n (fun q v k wr => ∃ i : Nat, i ≤ n ∧ q = n - i ∧ k = .int .i64 i ∧ wr.rowIs w1.heap.size 3 n (fun j => if j < i then .int .i64 (apD s j) else .int .i64 0) ∧ Below w.heap.size w wr)
  case atStart => exact ⟨0, Nat.zero_le _, rfl, rfl, hrow.congr (fun j _ => by simp), hb2⟩
  case round =>
    obtain ⟨i, hi, rfl, rfl, hR, hB⟩ := hrel
    by_cases hlt : i < n
    · have hz : (i : Int) < (n : Int) := by omega
      obtain ⟨p1, p2⟩ := sp_near i (by omega)
      have hwr : w1.heap.size < wr.heap.size := hR.lt
      have HR : Hid (wr.rowIs w1.heap.size 3 n (fun j => if j < i then .int .i64 (apD s j) else .int .i64 0)) := hR
      clear hR
      go_wp2_with fail
      refine (spiral_in i (by omega) _).mono ?_
      rintro e w3 ⟨c, d, rfl, fc, fd, b3⟩
      go_wp2_with fail
      refine (apart_any fc fd fr ft (by omega) (by omega) _).mono ?_
      rintro e w3 ⟨rfl, rfl⟩
      have he : apM ((spM i).1, (spM i).2) ((shardM s).1, (shardM s).2) = apD s i := rfl
      rw [he]
      have hR3 := HR.out.of_block (b3.block _ hwr)
      have hc3 := hR3.cell hlt
      have hf3 := hR3.frozen i
      have hw3 : w1.heap.size < w3.heap.size := hR3.lt
      have hB3 := hB.trans (b3.mono (hB.size))
      have HR3 : Hid (w3.rowIs w1.heap.size 3 n (fun j => if j < i then .int .i64 (apD s j) else .int .i64 0)) := hR3
      clear hR3 HR fc fd b3 he
      rw [if_neg (by omega)] at hc3
      obtain ⟨v, hv⟩ : ∃ v, apD s i = v := ⟨_, rfl⟩
      rw [hv]
      have HV : Hid (apD s i = v) := hv
      clear hv
      go_wp2
      go_roundg (n - (i + 1))
      case measure => omega
      case rel =>
        refine ⟨i + 1, by omega, rfl, by go_num, (HR3.out.set i (.int .i64 v)).congr (fun j hj => ?_), hB3.setCell (by show _ ≤ w1.heap.size; omega) _⟩
        show (if j = i then _ else if j < i then _ else _) = _
        by_cases e : j = i
        · subst e; rw [if_pos rfl, if_pos (by omega), HV.out]
        · rw [if_neg e]
          by_cases e2 : j < i
          · rw [if_pos e2, if_pos (by omega)]
          · rw [if_neg e2, if_neg (by omega)]
    · have hz : ¬ (i : Int) < (n : Int) := by omega
      obtain rfl : i = n := by omega
      go_wp2
      go_ret
      exact ⟨_, rfl, by omega, hR.congr (fun j hj => by rw [if_pos hj]), hB⟩

/-- The nodes 0 to m, the nearest first. -/
def nearA (D : Nat → Int) (m : Nat) : Array (Fin (m + 1)) := Sort.insertionSort (ltOf fun x y : Fin (m + 1) => nearM D x y) (Array.ofFn fun i : Fin (m + 1) => i) 0 (Array.ofFn fun i : Fin (m + 1) => i).size
def nearN (D : Nat → Int) (m j : Nat) : Nat := ((nearA D m)[j]!).val

theorem inner_size {α : Type} [Inhabited α] (lt : α → α → Bool) (a : Nat) : ∀ (j : Nat) (d : Array α), (insInner lt a j d).size = d.size
  | 0, d => rfl
  | j + 1, d => by
    unfold insInner
    split
    · rw [inner_size lt a j]; simp [swp]
    · rfl

/-- The sort's outer loop, by rounds. -/
def outN {α : Type} [Inhabited α] (lt : α → α → Bool) : Nat → Nat → Array α → Array α
  | 0, _, d => d
  | k + 1, i, d => outN lt k (i + 1) (insInner lt 0 i d)

theorem outer_eq {α : Type} [Inhabited α] (lt : α → α → Bool) (b : Nat) : ∀ (k i : Nat) (d : Array α), b - i = k → insOuter lt 0 b i d = outN lt k i d
  | 0, i, d, h => by rw [insOuter, if_neg (by omega)]; rfl
  | k + 1, i, d, h => by rw [insOuter, if_pos (by omega), outer_eq lt b k (i + 1) _ (by omega)]; rfl

theorem outN_size {α : Type} [Inhabited α] (lt : α → α → Bool) : ∀ (k i : Nat) (d : Array α), (outN lt k i d).size = d.size
  | 0, _, _ => rfl
  | k + 1, i, d => by rw [outN, outN_size lt k, inner_size]

theorem insertion_size {α : Type} [Inhabited α] (lt : α → α → Bool) (d : Array α) (b : Nat) : (Sort.insertionSort lt d 0 b).size = d.size := by
  rw [Sort.insertionSort, outer_eq lt b _ _ d rfl, outN_size]

theorem sw_block {α : Type} [Inhabited α] {enc : α → Value} {w w' : World} {blk off : Nat} {d : Array α} (h : SW enc w blk off d w') (k : Nat) (hk : k < w.heap.size) (hne : k ≠ blk) : w'.heap[k]? = w.heap[k]? := by
  obtain ⟨n, os, rfl⟩ := h
  unfold sortWorld
  rw [heap_grow_old _ _ (by rw [Sort.size_putRow]; exact hk)]
  simp only [putRow, mapBlock, Array.getElem?_modify]
  rw [if_neg (fun e => hne e.symm)]
  rfl

theorem sw_below {α : Type} [Inhabited α] {enc : α → Value} {w w' : World} {blk off : Nat} {d : Array α} (h : SW enc w blk off d w') (B : Nat) (hB : B ≤ w.heap.size) (hb : B ≤ blk) : RowKit.Below B w w' := by
  refine ⟨?_, ?_, ?_, h.le, fun k hk => sw_block h k (by omega) (by omega)⟩
  · obtain ⟨n, os, rfl⟩ := h; rfl
  · obtain ⟨n, os, rfl⟩ := h; rfl
  · obtain ⟨n, os, rfl⟩ := h; rfl

def encN (m : Nat) (x : Fin (m + 1)) : Value := .int .i64 (x.val : Nat)

theorem near_any' (D : Nat → Int) (m : Nat) (bx ab blk : Nat) (w : World) (hbb : bx < w.heap.size) (hab : ab < w.heap.size) (n1 : bx ≠ blk) (n2 : ab ≠ blk) (hbox : w.cell? ⟨bx, 0, none⟩ = some (.slice (some ⟨ab, 0, none⟩) (m + 1) (m + 1)))
    (hc : ∀ j, j < m + 1 → w.cell? ⟨ab, j, none⟩ = some (.int .i64 (D j))) (sz : Nat) :
    CmpLays1 Tryz.prog 35 #[.pointer (some ⟨bx, 0, none⟩)] (encN m) (fun x y => nearM D x y) blk 0 sz w := by
  intro k os dk _ x y
  have hS : SW (encN m) w blk 0 dk (sortWorld (encN m) w blk 0 k dk os) := ⟨k, os, rfl⟩
  have hle := hS.le
  have hcell : ∀ b i, b < w.heap.size → b ≠ blk → (sortWorld (encN m) w blk 0 k dk os).cell? ⟨b, i, none⟩ = w.cell? ⟨b, i, none⟩ := fun b i h1 h2 => World.cell?_of_block (a := ⟨b, i, none⟩) (sw_block hS b h1 h2)
  exact near_any D (m + 1) x.val y.val x.isLt y.isLt bx ab 0 (m + 1) _ (by omega) (by omega) (by rw [hcell _ _ hbb n1]; exact hbox) (by rw [Nat.zero_add, hcell _ _ hab n2]; exact hc _ x.isLt) (by rw [Nat.zero_add, hcell _ _ hab n2]; exact hc _ y.isLt)

theorem nearness_any (D : Nat → Int) (m n ab : Nat) (hn : Hid (n = m + 1)) (hn9 : n ≤ 9) (w : World) (hR : w.rowIs ab 3 n (fun j => .int .i64 (D j))) :
    Calls Tryz.prog 12 #[.slice (some ⟨ab, 0, none⟩) n n] w fun e w' => ∃ b, e = .returned (.slice (some ⟨b, 0, none⟩) n n) ∧ w.heap.size ≤ b ∧ (∀ j, j < n → w'.cell? ⟨b, j, none⟩ = some (.int .i64 (nearN D m j : Nat))) ∧ RowKit.Below w.heap.size w w' := by
  have hmk := fun w => run_make_row' (P := Tryz.prog) 31 3 (.int .i64 0) 8 Tryz.underlying31 intInfo rfl .i64 .i64 n (by omega) (by omega) w
  have hab := hR.lt
  obtain ⟨W1, hW1⟩ : ∃ W1, w.alloc (.cells #[.slice (some ⟨ab, 0, none⟩) n n] 31) = W1 := ⟨_, rfl⟩
  have hz1 : W1.heap.size = w.heap.size + 1 := by rw [← hW1]; simp
  have hbox : W1.cell? ⟨w.heap.size, 0, none⟩ = some (.slice (some ⟨ab, 0, none⟩) n n) := by rw [← hW1]; exact World.cell?_alloc_at (w := w) _ _ _ 0 rfl
  have hR1 : W1.rowIs ab 3 n (fun j => .int .i64 (D j)) := by rw [← hW1]; exact hR.alloc _
  have hB1 : RowKit.Below w.heap.size w W1 := by rw [← hW1]; exact (Below.refl _ _).alloc (Nat.le_refl _) _
  have hmk1 := hmk W1
  have hrow := World.rowIs_made W1 (.int .i64 0) n 3
  have hB2 := (RowKit.Below.refl W1.heap.size W1).alloc (Nat.le_refl _) (.cells (madeCells #[.int .i64 0] n) 3)
  generalize W1.alloc (.cells (madeCells #[.int .i64 0] n) 3) = W2 at *
  have HZ : Hid (W1.heap.size = w.heap.size + 1) := hz1
  have HR1 : Hid (W1.rowIs ab 3 n (fun j => .int .i64 (D j))) := hR1
  have HB1 : Hid (RowKit.Below w.heap.size w W1) := hB1
  have HBX : Hid (W1.cell? ⟨w.heap.size, 0, none⟩ = some (.slice (some ⟨ab, 0, none⟩) n n)) := hbox
  clear hmk hR hR1 hB1 hz1
  have hz9 : (n : Int) ≤ 9 := by omega
  go_enter Tryz.func12, Tryz.ntmps12
  go_wp2
  go_loopg [4, 10] n (fun q v k wr => ∃ i : Nat, i ≤ n ∧ q = n - i ∧ k = .int .i64 i ∧ wr.rowIs W1.heap.size 3 n (fun j => if j < i then .int .i64 (j : Nat) else .int .i64 0) ∧ RowKit.Below W1.heap.size W1 wr)
  case atStart => exact ⟨0, Nat.zero_le _, rfl, rfl, hrow.congr (fun j _ => by simp), hB2⟩
  case round =>
    obtain ⟨i, hi, rfl, rfl, hRr, hB⟩ := hrel
    by_cases hlt : i < n
    · have hz : (i : Int) < (n : Int) := by omega
      have hc3 := hRr.cell hlt
      have hf3 := hRr.frozen i
      have hw3 : W1.heap.size < wr.heap.size := hRr.lt
      rw [if_neg (by omega)] at hc3
      have HRr : Hid (wr.rowIs W1.heap.size 3 n (fun j => if j < i then .int .i64 (j : Nat) else .int .i64 0)) := hRr
      clear hRr
      go_wp2
      go_roundg (n - (i + 1))
      case measure => omega
      case rel =>
        refine ⟨i + 1, by omega, rfl, by go_num, (HRr.out.set i (.int .i64 i)).congr (fun j hj => ?_), hB.setCell (Nat.le_refl _) _⟩
        show (if j = i then _ else if j < i then _ else _) = _
        by_cases e : j = i
        · subst e; rw [if_pos rfl, if_pos (by omega)]
        · rw [if_neg e]
          by_cases e2 : j < i
          · rw [if_pos e2, if_pos (by omega)]
          · rw [if_neg e2, if_neg (by omega)]
    · have hz : ¬ (i : Int) < (n : Int) := by omega
      obtain rfl : i = n := by omega
      obtain ⟨d, hd⟩ : ∃ d : Array (Fin (m + 1)), d = Array.ofFn fun i : Fin (m + 1) => i := ⟨_, rfl⟩
      have hds : d.size = i := by rw [hd, Array.size_ofFn]; exact hn.out.symm
      have hH : Holds (encN m) wr W1.heap.size 0 d := by
        intro j hj
        have hji : j < i := by omega
        refine ⟨?_, hRr.frozen _⟩
        subst hd
        rw [Nat.zero_add, hRr.cell hji, if_pos hji, getElem!_pos _ j hj, Array.getElem_ofFn]
        rfl
      have hlt1 := hRr.lt
      have hbz : w.heap.size < W1.heap.size := by have := HZ.out; omega
      have hsort := sort_any (encN m) (fun x y => nearM D x y) 35 #[.pointer (some ⟨w.heap.size, 0, none⟩)] W1.heap.size d wr
        (enters_of Tryz.func35 (by kernel_rfl) rfl)
        (near_any' D m w.heap.size ab W1.heap.size wr (by omega) (by omega) (by omega) (by omega)
          (by rw [World.cell?_of_block (w := W1) (a := ⟨w.heap.size, 0, none⟩) (hB.block _ hbz), HBX.out, hn.out])
          (fun j hj => by rw [World.cell?_of_block (w := W1) (a := ⟨ab, j, none⟩) (hB.block _ (show ab < W1.heap.size by omega))]; exact HR1.out.cell (by have := hn.out; omega)) _)
        ⟨fun _ => rfl, hH, hlt1⟩ (by omega)
      have hcomp : Hid (∀ j, (Sort.insertionSort (ltOf fun x y : Fin (m + 1) => nearM D x y) d 0 d.size)[j]!.val = nearN D m j) := hide (fun j => by unfold nearN nearA; rw [hd])
      have hsz := insertion_size (ltOf fun x y : Fin (m + 1) => nearM D x y) d d.size
      generalize Sort.insertionSort (ltOf fun x y : Fin (m + 1) => nearM D x y) d 0 d.size = dd at *
      rw [hds] at hsort
      have hHid : Hid (Holds (encN m) wr W1.heap.size 0 d ∧ dd.size = d.size ∧ d.size = i) := ⟨hH, hsz, hds⟩
      clear hH hRr hd hds hsz
      go_wp2_with fail
      refine hsort.mono ?_
      rintro e w5 ⟨rfl, hS⟩
      go_wp2
      go_ret
      refine ⟨_, rfl, by omega, fun j hj => ?_, HB1.out.trans ((hB.mono (by omega)).trans (sw_below hS _ (by have := HB1.out.size; have := hB.size; omega) (by omega)))⟩
      obtain ⟨g1, g2, g3⟩ := hHid.out
      have := (hS.holds hlt1 g1 g2 j (by omega)).1
      rw [Nat.zero_add] at this
      rw [this, ← hcomp.out j]
      rfl
end Go.Proofs.YtbebnjeamlmclaaGreat
