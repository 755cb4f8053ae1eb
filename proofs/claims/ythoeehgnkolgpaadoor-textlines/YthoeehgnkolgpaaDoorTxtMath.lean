/- Plain mathematics of amounts: cutting at a byte, groups of three digits. No program here. -/
import Derived.Test.YthoeehgnkolgpaaDoorTxt2
import Derived.Lib.SplitLaws
namespace Go.Proofs.YthoeehgnkolgpaaDoor
open Go.RowKit

/-- Cut at the first c. -/
def cut1 (c : UInt8) : List UInt8 → List UInt8 × List UInt8 × Bool
  | [] => ([], [], false)
  | b :: t => if b = c then ([], t, true) else (b :: (cut1 c t).1, (cut1 c t).2.1, (cut1 c t).2.2)
theorem index_one (c b : UInt8) (t : List UInt8) : Lib.index (b :: t) [c] = if b = c then 0 else if Lib.index t [c] = -1 then -1 else Lib.index t [c] + 1 := by
  rw [Lib.index]
  have e : [c].isPrefixOf (b :: t) = decide (b = c) := by
    simp only [List.isPrefixOf, Bool.and_true]
    by_cases h : b = c
    · subst h; simp
    · have : ¬ c = b := fun e => h e.symm
      simp [h, this]
  rw [e]
  by_cases h : b = c
  · simp [h]
  · simp [h]
theorem cut_one (c : UInt8) : ∀ l : List UInt8, Lib.cut l [c] = cut1 c l
  | [] => by simp [Lib.cut, Lib.index, cut1]
  | b :: t => by
    have ih := cut_one c t
    unfold Lib.cut at ih ⊢
    rw [index_one]
    have hge := Lib.index_ge t [c]
    by_cases h : b = c
    · simp [h, cut1]
    · simp only [h, if_false, cut1]
      rw [← ih]
      by_cases h1 : Lib.index t [c] = -1
      · simp [h1]
      · rw [if_neg h1, if_pos (by omega), if_pos (by omega)]
        have : (Lib.index t [c] + 1).toNat = (Lib.index t [c]).toNat + 1 := by omega
        rw [this]; simp
theorem cut1_fst_le (c : UInt8) : ∀ l : List UInt8, (cut1 c l).1.length + (cut1 c l).2.1.length ≤ l.length
  | [] => by simp [cut1]
  | b :: t => by
    have := cut1_fst_le c t
    unfold cut1; split
    · simp
    · simp; omega
theorem cut1_join (c : UInt8) : ∀ l : List UInt8, l = (cut1 c l).1 ++ (if (cut1 c l).2.2 then c :: (cut1 c l).2.1 else [])
  | [] => by simp [cut1]
  | b :: t => by
    have := cut1_join c t
    unfold cut1; split
    · rename_i h; simp [h]
    · simp only [List.cons_append]; rw [← this]

/-- Groups of just three digits, parted by marks; k digits of the first one are there. -/
def grp (k : Nat) : List UInt8 → Bool
  | [] => decide (k = 3)
  | b :: t => if b = 39 then decide (k = 3) && grp 0 t else decide (k < 3) && digitR b.toNat && grp (k + 1) t
def groupM (p : List UInt8) : Bool := decide (p.length = 3) && allD p
def pieces (s : ByteArray) : List ByteArray := Lib.splitB ⟨#[39]⟩ 0 (Lib.countB s ⟨#[39]⟩) s
def areGroupsM (s : ByteArray) : Bool := (pieces s).all fun p => groupM p.data.toList
theorem pieces_length (s : ByteArray) : (pieces s).length = Lib.countB s ⟨#[39]⟩ + 1 := Lib.splitB_all ⟨#[39]⟩ (by decide) 0 _ s rfl

def split1 (c : UInt8) : List UInt8 → List UInt8 × List (List UInt8)
  | [] => ([], [])
  | b :: t => if b = c then ([], (split1 c t).1 :: (split1 c t).2) else (b :: (split1 c t).1, (split1 c t).2)

theorem grp_of_split : ∀ (l : List UInt8) (k : Nat), k ≤ 3 → grp k l = (decide (k + (split1 39 l).1.length = 3) && allD (split1 39 l).1 && (split1 39 l).2.all groupM)
  | [], k, _ => by show decide (k = 3) = (decide (k + 0 = 3) && true && true); simp only [Nat.add_zero, Bool.and_true]
  | b :: t, k, hk => by
    unfold grp split1
    by_cases h : b = 39
    · simp only [h, if_true]
      rw [grp_of_split t 0 (by omega)]
      simp [allD, groupM]
    · simp only [h, if_false]
      by_cases hk3 : k < 3
      · rw [grp_of_split t (k + 1) (by omega)]
        simp only [List.length_cons, allD_cons, decide_eq_true hk3, Bool.true_and]
        have e : decide (k + ((split1 39 t).1.length + 1) = 3) = decide (k + 1 + (split1 39 t).1.length = 3) := decide_eq_decide.2 (by omega)
        rw [e]
        cases digitR b.toNat <;> cases allD (split1 39 t).1 <;> simp
      · have : ¬ k + ((split1 39 t).1.length + 1) = 3 := by omega
        simp [hk3, this]

/-- The library's split at one byte is the plain one. -/
theorem splitK_one (c : UInt8) : ∀ l : List UInt8, Lib.splitK [c] 0 (Lib.count l [c]) l = (split1 c l).1 :: (split1 c l).2
  | [] => by
    rw [Lib.count_miss (by simp [Lib.index])]; rfl
  | b :: t => by
    have ih := splitK_one c t
    by_cases h : b = c
    · subst h
      rw [Lib.count_cons_eq, Nat.add_comm 1, Lib.splitK, index_one]
      simp only [if_true, split1]
      rw [← ih]; simp
    · rw [Lib.count_cons_ne _ _ _ h]
      simp only [split1, h, if_false]
      cases hn : Lib.count t [c] with
      | zero =>
        rw [hn] at ih
        simp only [Lib.splitK] at ih ⊢
        have h1 := (List.cons.inj ih).1
        have h2 := (List.cons.inj ih).2
        rw [← h1, ← h2]
      | succ m =>
        rw [hn] at ih
        have hne : ¬ Lib.index t [c] = -1 := fun e => by rw [Lib.count_miss e] at hn; cases hn
        have hge := Lib.index_ge t [c]
        simp only [Lib.splitK, index_one, h, if_false, hne, beq_iff_eq] at ih ⊢
        have h1 := (List.cons.inj ih).1
        have h2 := (List.cons.inj ih).2
        rw [← h1, ← h2, if_neg (by omega)]
        have : (Lib.index t [c] + 1).toNat = (Lib.index t [c]).toNat + 1 := by omega
        rw [this]
        simp
theorem areGroups_grp (s : ByteArray) : areGroupsM s = grp 0 s.data.toList := by
  have h : (pieces s).map (·.data.toList) = (split1 39 s.data.toList).1 :: (split1 39 s.data.toList).2 := by
    unfold pieces
    rw [Lib.splitB_data]
    exact splitK_one 39 s.data.toList
  have e : areGroupsM s = ((pieces s).map (·.data.toList)).all groupM := by unfold areGroupsM; rw [List.all_map]; rfl
  rw [e, h, grp_of_split _ 0 (by omega)]
  simp [groupM, List.all_cons]

/-- The whole of an amount. -/
def wholeM (l : List UInt8) : Bool :=
  decide (l = [48]) || (decide ((cut1 39 l).1 ≠ []) && decide ((cut1 39 l).1.head? ≠ some 48) && allD (cut1 39 l).1 && (!(cut1 39 l).2.2 || (decide ((cut1 39 l).1.length ≤ 3) && grp 0 (cut1 39 l).2.1)))
def isPartM (l : List UInt8) : Bool := decide (l.length = 2) && allD l
/-- What Amount answers: hundredths, error. -/
def amountM (l : List UInt8) : Nat × Nat :=
  if wholeM (cut1 46 l).1 && (!(cut1 46 l).2.2 || isPartM (cut1 46 l).2.1) then
    (if valFrom 0 ((cut1 46 l).1 ++ if (cut1 46 l).2.2 then (cut1 46 l).2.1 else [48, 48]) ≤ 9007199254740992 then (valFrom 0 ((cut1 46 l).1 ++ if (cut1 46 l).2.2 then (cut1 46 l).2.1 else [48, 48]), 0) else (0, 22))
  else (0, 21)

theorem allD_figures {l : List UInt8} (h : allD l = true) : figures l := fun b hb => by
  have := List.all_eq_true.1 h b hb
  simp [digitR] at this; exact Or.inr this
theorem grp_figures : ∀ (l : List UInt8) (k : Nat), grp k l = true → figures l
  | [], _, _ => fun b hb => by cases hb
  | b :: t, k, h => by
    unfold grp at h
    split at h
    · rename_i hb
      have := grp_figures t 0 (Bool.and_eq_true_iff.1 h).2
      intro x hx
      rcases List.mem_cons.1 hx with rfl | hx
      · left; rw [hb]; rfl
      · exact this x hx
    · obtain ⟨h1, h2⟩ := Bool.and_eq_true_iff.1 h
      obtain ⟨_, h3⟩ := Bool.and_eq_true_iff.1 h1
      have := grp_figures t _ h2
      intro x hx
      rcases List.mem_cons.1 hx with rfl | hx
      · right; simpa [digitR] using h3
      · exact this x hx
theorem figures_app {a b : List UInt8} (h1 : figures a) (h2 : figures b) : figures (a ++ b) := fun x hx => by
  rcases List.mem_append.1 hx with h | h
  · exact h1 x h
  · exact h2 x h
theorem whole_figures {l : List UInt8} (h : wholeM l = true) : figures l := by
  unfold wholeM at h
  rcases Bool.or_eq_true_iff.1 h with h | h
  · have := of_decide_eq_true h; subst this
    exact fun b hb => by simp at hb; subst hb; right; decide
  · simp only [Bool.and_eq_true, Bool.or_eq_true, Bool.not_eq_true'] at h
    obtain ⟨⟨_, hd⟩, hg⟩ := h
    rw [cut1_join 39 l]
    refine figures_app (allD_figures hd) ?_
    cases hc : (cut1 39 l).2.2
    · exact fun b hb => by simp at hb
    · rcases hg with hg | hg
      · rw [hc] at hg; cases hg
      · have := grp_figures _ _ hg.2
        intro x hx
        rcases List.mem_cons.1 (by simpa using hx) with rfl | hx
        · left; rfl
        · exact this x hx
end Go.Proofs.YthoeehgnkolgpaaDoor
