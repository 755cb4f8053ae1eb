/- Package disk: what a loaded disk tells: find, Read, Size, Strokes, Room, List. -/
import Derived.Test.YtbebnjeamlmclaaD6
namespace Go.Proofs.Ytbebnjeamlmclaa
open Go.RowKit Go.Maps Go.Sort
set_option maxRecDepth 100000
set_option maxRecDepth 100000

theorem list_size (s : ByteArray) : s.data.toList.length = s.size := rfl
theorem toList_data (s : ByteArray) : s.toList = s.data.toList := ByteArray.toList_eq s

/-- Names that stand in order are all different. -/
theorem img_lt {n : Nat} {nm : Nat → ByteArray} (h : imgB n nm = true) : ∀ a b, a < b → b < n → (nm a).data.toList < (nm b).data.toList := by
  unfold imgB at h
  simp only [Bool.and_eq_true, List.all_eq_true, List.mem_range] at h
  intro a b
  induction b with
  | zero => intro hab; omega
  | succ b ih =>
    intro hab hb
    have hs := h.2 (b + 1) hb
    unfold stepB at hs
    simp only [Bool.and_eq_true, Bool.or_eq_true, decide_eq_true_eq, Nat.add_sub_cancel] at hs
    have hl : (nm b).data.toList < (nm (b + 1)).data.toList := by
      rcases hs.2 with e | e
      · omega
      · rw [bytesLess_eq, toList_data, toList_data] at e
        exact of_decide_eq_true e
    by_cases e : a = b
    · subst e; exact hl
    · exact List.lt_trans (ih (by omega) (by omega)) hl
theorem img_inj {n : Nat} {nm : Nat → ByteArray} (h : imgB n nm = true) : ∀ a b, a < n → b < n → (nm a).data.toList = (nm b).data.toList → a = b := fun a b ha hb e => by
  rcases Nat.lt_trichotomy a b with l | l | l
  · have := img_lt h a b l hb
    rw [e] at this
    exact absurd this (List.lt_irrefl _)
  · exact l
  · have := img_lt h b a l ha
    rw [e] at this
    exact absurd this (List.lt_irrefl _)
theorem img_ok {n : Nat} {nm : Nat → ByteArray} (h : imgB n nm = true) {i : Nat} (hi : i < n) : okN (nm i) = true := by
  unfold imgB at h
  simp only [Bool.and_eq_true, List.all_eq_true, List.mem_range] at h
  have hs := h.2 i hi
  unfold stepB at hs
  simp only [Bool.and_eq_true] at hs
  exact hs.1
theorem img_64 {n : Nat} {nm : Nat → ByteArray} (h : imgB n nm = true) : n ≤ 64 := by
  unfold imgB at h
  simp only [Bool.and_eq_true, decide_eq_true_eq] at h
  exact h.1

/-- A name in a map of names. -/
theorem look_at {w : World} {mb m n : Nat} {nm : Nat → ByteArray} {fb : Nat → Nat} (h : w.ownsMap Try.prog 9 Rf mb m (nmD nm fb n)) (hinj : ∀ a b, a < n → b < n → (nm a).data.toList = (nm b).data.toList → a = b) {i : Nat} (hi : i < n) (hs : (nm i).size ≤ 1048576) :
    (Instr.lookup 74 (.map (some mb)) (.string (nm i)) false).run Try.prog w = .ok (.pointer (some ⟨fb i, 0, none⟩)) w := by
  obtain ⟨v, ps, hrun, hR⟩ := h.lookup strK Try.underlying74 (z := .pointer none) (Try.zeroValue84 w) (zd := .nil) (zp := []) rfl (key_str (nm i) hs)
  rw [nmD_at nm fb .nil n i hinj hi] at hR
  rw [Rf_inv hR] at hrun
  exact hrun

theorem find_any {w : World} {db sb nb room n : Nat} {nm : Nat → ByteArray} {fb dl : Nat → Nat} {dx : Nat → Nat → Nat} (h : Disk0 w db sb nb room n nm fb dl dx) (hI : imgB n nm = true) {i : Nat} (hi : i < n) (hs : (nm i).size ≤ 1048576) :
    Calls Try.prog 42 #[.pointer (some ⟨db, 0, none⟩), .string (nm i)] w fun e w' => e = .returned (.tuple #[.pointer (some ⟨fb i, 0, none⟩), .int .i64 0]) ∧ w' = w := by
  have c4 : w.cell? ⟨db, 4, none⟩ = some (.bool false) := h.row.cell (i := 4) (by decide)
  have c2 : w.cell? ⟨db, 2, none⟩ = some (.map (some nb)) := h.row.cell (i := 2) (by decide)
  have hfn := fun W => fileName_any (nm i) W
  rw [img_ok hI hi] at hfn
  have hlk := look_at h.seen (img_inj hI) hi hs
  clear h
  generalize nm i = s at *
  generalize fb i = f at *
  go_enter Try.func42, Try.ntmps42
  go_wp2_with (go_at_call 55; refine (hfn _).mono ?_; rintro e w1 ⟨rfl, rfl⟩)
  go_ret2
  exact ⟨rfl, rfl⟩

theorem read_any {w : World} {db sb nb room n : Nat} {nm : Nat → ByteArray} {fb dl : Nat → Nat} {dx : Nat → Nat → Nat} (h : Disk0 w db sb nb room n nm fb dl dx) (hI : imgB n nm = true) {i : Nat} (hi : i < n) (hs : (nm i).size ≤ 1048576) (hd : dl i ≤ 1048576) :
    Calls Try.prog 16 #[.pointer (some ⟨db, 0, none⟩), .string (nm i)] w fun e w' => ∃ g, e = .returned (.tuple #[.slice (some ⟨g, 0, none⟩) (dl i) (dl i), .int .i64 0]) ∧ Below w.heap.size w w' ∧ Byt w' (some ⟨g, 0, none⟩) (dl i) (dx i) := by
  have hf := find_any h hI hi hs
  have hF := h.files i hi
  have hu := units0_any hF
  have ha := after0_any hF (by omega) 0
  clear h hF
  generalize nm i = s at *
  generalize fb i = f at *
  generalize dl i = d at *
  go_enter Try.func16, Try.ntmps16
  go_wp2_with fail
  refine hf.mono ?_
  rintro e w1 ⟨rfl, rfl⟩
  go_wp2_with fail
  refine hu.mono ?_
  rintro e w2 ⟨rfl, rfl⟩
  go_wp2_with fail
  refine ha.mono ?_
  rintro e w3 ⟨g, rfl, _, hb, hr⟩
  go_wp2_with fail
  go_ret2
  exact ⟨g, rfl, hb, Byt.of_row hr⟩

theorem size_any {w : World} {db sb nb room n : Nat} {nm : Nat → ByteArray} {fb dl : Nat → Nat} {dx : Nat → Nat → Nat} (h : Disk0 w db sb nb room n nm fb dl dx) (hI : imgB n nm = true) {i : Nat} (hi : i < n) (hs : (nm i).size ≤ 1048576) :
    Calls Try.prog 17 #[.pointer (some ⟨db, 0, none⟩), .string (nm i)] w fun e w' => e = .returned (.tuple #[.int .i64 (dl i : Nat), .int .i64 0]) ∧ w' = w := by
  have hf := find_any h hI hi hs
  have c2 := (h.files i hi).size
  clear h
  generalize nm i = s at *
  generalize fb i = f at *
  generalize dl i = d at *
  go_enter Try.func17, Try.ntmps17
  go_wp2_with fail
  refine hf.mono ?_
  rintro e w1 ⟨rfl, rfl⟩
  go_wp2_with fail
  go_ret2
  exact ⟨rfl, rfl⟩
theorem strokes_any {w : World} {db sb nb room n : Nat} {nm : Nat → ByteArray} {fb dl : Nat → Nat} {dx : Nat → Nat → Nat} (h : Disk0 w db sb nb room n nm fb dl dx) :
    Calls Try.prog 13 #[.pointer (some ⟨db, 0, none⟩)] w fun e w' => e = .returned (.int .i64 0) ∧ w' = w := by
  have c5 : w.cell? ⟨db, 5, none⟩ = some (.int .i64 0) := h.row.cell (i := 5) (by decide)
  clear h
  go_enter Try.func13, Try.ntmps13
  go_wp2_with fail
  go_ret
  exact ⟨rfl, rfl⟩
theorem room_any {w : World} {db sb nb room n : Nat} {nm : Nat → ByteArray} {fb dl : Nat → Nat} {dx : Nat → Nat → Nat} (h : Disk0 w db sb nb room n nm fb dl dx) :
    Calls Try.prog 14 #[.pointer (some ⟨db, 0, none⟩)] w fun e w' => e = .returned (.int .i64 room) ∧ w' = w := by
  have c0 : w.cell? ⟨db, 0, none⟩ = some (.int .i64 room) := h.row.cell (i := 0) (by decide)
  clear h
  go_enter Try.func14, Try.ntmps14
  go_wp2_with fail
  go_ret
  exact ⟨rfl, rfl⟩

/-- The names in order: what sorted tells of such a map. -/
def nmL (nm : Nat → ByteArray) (n : Nat) : List (List UInt8) := (List.range n).map fun i => (nm i).data.toList
theorem nmL_get {nm : Nat → ByteArray} {n i : Nat} (h : i < n) : (nmL nm n)[i]? = some (nm i).data.toList := by unfold nmL; simp [h]
theorem nmL_perm {w : World} {mb m n : Nat} {nm : Nat → ByteArray} {fb : Nat → Nat} (h : w.ownsMap Try.prog 9 Rf mb m (nmD nm fb n)) (hI : imgB n nm = true) : (nmL nm n).Perm (strKeys (nmD nm fb n)) := by
  obtain ⟨es, hD, hpw, _⟩ := h.entries strK
  obtain ⟨es', hD', hko⟩ := h.keysOf
  obtain rfl : es = es' := by rw [hD] at hD'; simpa using hD'
  have hh := fun x => nmD_has nm fb x n
  rw [hD] at hh ⊢
  refine perm_strKeys hpw (fun p hp => by obtain ⟨v, hv⟩ := hko p hp; obtain ⟨x, _, hx, _⟩ := Maps.keyOf_str Try.underlying9 hv; exact ⟨x, hx⟩) ?_ (fun x => ?_)
  · unfold nmL
    rw [List.nodup_iff_pairwise_ne, List.pairwise_map]
    refine List.Pairwise.imp_of_mem ?_ List.nodup_range
    intro a b ha hb hne e
    exact hne (img_inj hI a b (List.mem_range.1 ha) (List.mem_range.1 hb) e)
  · rw [hh x]
    unfold nmL
    simp only [List.mem_map, List.mem_range]
theorem nmL_sorted {nm : Nat → ByteArray} {n : Nat} (hI : imgB n nm = true) : (nmL nm n).mergeSort (fun x y => decide (x ≤ y)) = nmL nm n := by
  refine List.mergeSort_of_pairwise ?_
  unfold nmL
  rw [List.pairwise_map]
  refine List.Pairwise.imp_of_mem ?_ (List.pairwise_lt_range)
  intro a b _ hb hlt
  exact decide_eq_true (List.le_of_lt (img_lt hI a b hlt (List.mem_range.1 hb)))
theorem enc_str (s : ByteArray) : encStr s.data.toList = .string s := by unfold encStr; cases s; simp

/-- disk.sorted of such a map. -/
theorem sorted_names {w : World} {mb m n : Nat} {nm : Nat → ByteArray} {fb : Nat → Nat} (h : w.ownsMap Try.prog 9 Rf mb m (nmD nm fb n)) (hI : imgB n nm = true) :
    Calls Try.prog 41 #[.map (some mb)] w fun e w' => ∃ a c, e = .returned (.slice a n c) ∧ (∀ i, i < n → ∃ g, a = some ⟨g, 0, none⟩ ∧ w'.cell? ⟨g, i, none⟩ = some (.string (nm i)) ∧ w.heap.size ≤ g) ∧ Below w.heap.size w w' := by
  have h64 := img_64 hI
  refine (sorted_any mb m _ Rf w h (by rw [nmD_size nm fb n (img_inj hI)]; omega)).mono fun e w' ⟨v, ss, he, hp, ho, _, hb⟩ => ?_
  have hperm : ss.Perm (nmL nm n) := hp.trans (nmL_perm h hI).symm
  have hsort : ss.mergeSort (fun x y => decide (x ≤ y)) = nmL nm n := (mergeSort_of_perm hperm).trans (nmL_sorted hI)
  have hlen : ss.length = n := by rw [hperm.length_eq]; unfold nmL; simp
  rw [hsort, hlen] at ho
  rcases ho.2 with ⟨rfl, h0⟩ | ⟨g, c, cur, rfl, hbase, _⟩
  · exact ⟨none, 0, by rw [he, ← h0], fun i hi => by omega, hb⟩
  · refine ⟨_, c, he, fun i hi => ⟨g, rfl, ?_, hbase⟩, hb⟩
    rw [World.ownsRow.cellAt ho i (by omega), List.getElem?_map, nmL_get hi, Option.map_some, enc_str]

theorem list_any {w : World} {db sb nb room n : Nat} {nm : Nat → ByteArray} {fb dl : Nat → Nat} {dx : Nat → Nat → Nat} (h : Disk0 w db sb nb room n nm fb dl dx) (hI : imgB n nm = true) :
    Calls Try.prog 15 #[.pointer (some ⟨db, 0, none⟩)] w fun e w' => ∃ a c, e = .returned (.tuple #[.slice a n c, .int .i64 0]) ∧ (∀ i, i < n → ∃ g, a = some ⟨g, 0, none⟩ ∧ w'.cell? ⟨g, i, none⟩ = some (.string (nm i))) ∧ Below w.heap.size w w' := by
  have c4 : w.cell? ⟨db, 4, none⟩ = some (.bool false) := h.row.cell (i := 4) (by decide)
  have c2 : w.cell? ⟨db, 2, none⟩ = some (.map (some nb)) := h.row.cell (i := 2) (by decide)
  have hs := sorted_names h.seen hI
  clear h
  go_enter Try.func15, Try.ntmps15
  go_wp2_with fail
  refine hs.mono ?_
  rintro e w1 ⟨a, c, rfl, hc, hb⟩
  have HC : Hid _ := hc
  clear hs hc
  go_wp2_with fail
  go_ret2
  exact ⟨a, c, rfl, fun i hi => by obtain ⟨g, e, hx, _⟩ := HC.out i hi; exact ⟨g, e, hx⟩, hb⟩
end Go.Proofs.Ytbebnjeamlmclaa
