/- The walk of CodeMany, whole, where there are more texts than are laid. -/
import Derived.Test.YtbmdnlomhnodeaaDoorMany3
namespace Go.Proofs.YtbmdnlomhnodeaaDoor
open Go.RowKit

set_option maxHeartbeats 6400000 in
set_option maxRecDepth 100000 in
theorem many_walk_b (N : Int) (ba : Option Addr) (bb bo blen bcap : Nat) (A : Nat → Option Addr) (BL BC : Nat → Nat) (Z : Nat → Nat → Nat) (w : World) (hblen : blen ≤ 281474976710656) (hW : Wid w) (hba : 0 < blen → ba = some ⟨bb, bo, none⟩) (hT : Tx w bb bo blen A BL BC Z) (hmo : 400 < blen) :
    Calls Tryd.prog 7 #[.agg #[.int .i64 N, .slice ba blen bcap]] w fun e w' => e = .returned (.bool true) ∧ w.Since w.heap.size w' := by
  have hs1 : w.Since w.heap.size (w.alloc (.cells #[.int .i64 N, .slice ba blen bcap] 55)) := (World.Since.refl _ _).alloc (Nat.le_refl _) _
  have e0 : (w.alloc (.cells #[.int .i64 N, .slice ba blen bcap] 55)).heap.size = w.heap.size + 1 := by simp
  have box0 : (w.alloc (.cells #[.int .i64 N, .slice ba blen bcap] 55)).cell? ⟨w.heap.size, 0, none⟩ = some (.int .i64 N) := by simp
  have box1 : (w.alloc (.cells #[.int .i64 N, .slice ba blen bcap] 55)).cell? ⟨w.heap.size, 1, none⟩ = some (.slice ba blen bcap) := by simp
  go_enter Tryd.func7, Tryd.ntmps7
  go_upto_region 1 with fail
  generalize w.alloc (.cells #[.int .i64 N, .slice ba blen bcap] 55) = w1 at *
  have hfinW : ∀ W, w1.Since w1.heap.size W → w.Since w.heap.size W := fun W h => hs1.trans (since_mono h hs1.size)
  have hT1 := hT.since hs1
  have hW1 := hW.since hs1
  generalize hsb : w.heap.size = sb at *
  have hbx : ∀ W, w1.Since w1.heap.size W → W.cell? ⟨sb, 1, none⟩ = some (.slice ba blen bcap) := fun W h => by
    rw [h.cell (a := ⟨sb, 1, none⟩) (by show sb < w1.heap.size; omega)]; exact box1
  go_wp2_with fail
  refine (into_64 N w1).mono ?_
  rintro e w2 ⟨rfl, k0, hk0, rfl⟩
  obtain ⟨n, hn⟩ : ∃ n : Nat, (1 : Int) + (k0 : Int) = (n : Int) := ⟨k0 + 1, by omega⟩
  have hn1 : 1 ≤ n := by omega
  have hn2 : n ≤ 64 := by omega
  have hnw : IntKind.i64.wrap (n : Int) = (n : Int) := by rw [IntKind.wrap_i64]; omega
  have hsbl : sb < w2.heap.size := by omega
  clear hT hW hs1 box1 box0 e0 hk0
  go_upto_region 4 with fail
  clear hn hnw
  have hC0 : Crowd w2 w2 0 0 0 (fun _ => 0) (fun _ => undef) (fun _ => undef) (fun _ => []) (.slice none 0 0) (.slice none 0 0) :=
    ⟨World.Since.refl _ _, fun j hj => absurd hj (Nat.not_lt_zero _), fun i j k hi => absurd hi (Nat.not_lt_zero _), ⟨rfl, Or.inl ⟨rfl, rfl⟩⟩, ⟨rfl, Or.inl ⟨rfl, rfl⟩⟩, fun i k hi => absurd hi (Nat.not_lt_zero _), fun k e => by simp [Value.ownBlock] at e⟩
  go_wp2_with fail
  go_loopg [4, 5, 6] n (fun q s4 s5 s6 wx => ∃ (i : Nat) (P : Nat → Nat) (V H : Nat → Value) (L : Nat → List Nat), i ≤ n ∧ q = n - i ∧ s6 = .int .i64 i ∧ Crowd w2 wx i i i P V H L s4 s5 ∧ ∀ j, j < i → L j = fl 4 j)
  case atStart => exact ⟨0, _, _, _, _, Nat.zero_le _, rfl, rfl, hC0, fun j hj => absurd hj (Nat.not_lt_zero _)⟩
  case round =>
    obtain ⟨i, P, V, H, L, hi, rfl, rfl, hC, hLi⟩ := hrel
    clear hC0
    by_cases hlt : i < n
    · have hz : (i : Int) < (n : Int) := by omega
      go_wp2_with fail
      refine (new_w wr).mono ?_
      rintro e w3 ⟨rfl, s3, e3, hI⟩
      have hC3 := hC.fresh s3 (hI (fun _ => 0)).cell
      generalize hp : wr.heap.size = p at *
      have sA : w3.Since w3.heap.size (w3.alloc (.cells #[.pointer (some ⟨p, 0, none⟩)] 57)) := (World.Since.refl _ _).alloc (Nat.le_refl _) _
      have hC4 := hC3.later sA
      obtain ⟨wv5, w5, hr5, ho5, hg5, hl5⟩ := app_one Tryd.underlying56 Tryd.infoW rfl (by decide) _ _ _ i _ hC4.ow w3.heap.size (.pointer (some ⟨p, 0, none⟩)) (by simp) rfl (by omega) hC4.since.size
      have hC5 := hC4.growW (by rw [put_at]; exact ho5) hg5 hl5
      have H5 := hide hr5
      have sB : w5.Since w5.heap.size (w5.alloc (.cells #[.slice none 0 0] 27)) := (World.Since.refl _ _).alloc (Nat.le_refl _) _
      have hC6 := hC5.later sB
      obtain ⟨hv7, w7, hr7, ho7, hg7, hl7⟩ := app_one Tryd.underlying22 Tryd.infoB rfl (by decide) _ _ _ i _ hC6.oh w5.heap.size (.slice none 0 0) (by simp) rfl (by omega) hC6.since.size
      have hC7 := hC6.growH (by rw [put_at]; exact ho7) hg7 hl7
      have H7 := hide hr7
      obtain ⟨gw, cw, rfl, hcw⟩ := owns_at hC7.ow (by omega)
      obtain ⟨gh, ch, rfl, hch⟩ := owns_at hC7.oh (by omega)
      have cwi := hcw i (by omega)
      simp only [put_at] at cwi
      have hpr := hC7.pair i (by omega)
      simp only [put_at] at hpr
      have hz3 : (i : Int) < (i : Int) + 1 := by omega
      have hc32 : IntKind.u32.wrap (i : Int) = (i : Int) := by rw [IntKind.wrap_u32']; omega
      have hW7 := hW1.since hC7.since
      have hu := u32_l p w2.heap.size (.slice none 0 0) [] i w7 hpr.isl hW7 (by omega) (by decide)
      clear hr5 ho5 hg5 hl5 hr7 ho7 hg7 hl7 hC6 hC5 hC4 hC3 sA sB hI e3 s3 hcw hch
      go_wp2_with (first
        | (at_builtin; refine wpList_append_eq rfl _ _ 56 rfl _ _ _ (by rfl) (by rfl) (unhide H5) ?_)
        | (at_builtin; refine wpList_append_eq rfl _ _ 22 rfl _ _ _ (by rfl) (by rfl) (unhide H7) ?_))
      refine hu.mono ?_
      rintro e w8 ⟨rfl, v8, hI8, hE8⟩
      obtain ⟨p8, m8⟩ := hpr.wrote hI8 hE8
      clear H5 H7 hu
      go_wp2_with fail
      refine (refu32 i w8 (by omega)).mono ?_
      rintro e w9 ⟨rv, rfl, s9, ho9⟩
      obtain ⟨p9, m9⟩ := p8.swap s9 ho9
      obtain ⟨x1, x2, hCn⟩ := hC7.step (k := i) (by omega) (v' := v8) (h' := rv) (l' := [] ++ fl 4 i) (by rw [put_at]; exact p9) (by rw [put_at, put_at, put_at]; exact m8.trans m9)
      rw [put_at] at x1
      obtain ⟨ra, rc, rfl⟩ := own_form ho9
      clear p8 m8 p9 m9 hE8 hI8 hC7 ho9 s9 cwi hpr
      go_wp2_with fail
      go_roundg (n - (i + 1))
      case measure => go_light; omega
      case rel =>
        go_light
        refine ⟨i + 1, _, _, _, _, by omega, rfl, by simp, hCn, fun j hj => ?_⟩
        by_cases e : j = i
        · subst e; rw [put_at]; rfl
        · rw [put_ne _ _ _ e, put_ne _ _ _ e]; exact hLi j (by omega)
    · obtain rfl : i = n := by omega
      obtain ⟨gw, cw, rfl, hcw0⟩ := owns_at hC.ow (by omega)
      obtain ⟨gh, ch, rfl, hch0⟩ := owns_at hC.oh (by omega)
      have hz : ¬ ((i : Int) < (i : Int)) := by omega
      have hC0 := hC
      clear hcw0 hch0
      go_wp2_with fail
      go_loopg [7] 400 (fun q s7 wx => ∃ (c : Nat) (V H : Nat → Value) (L : Nat → List Nat), c ≤ blen ∧ c ≤ 400 ∧ q = 400 - c ∧ s7 = .int .i64 c ∧ Crowd w2 wx i i i P V H L (.slice (some ⟨gw, 0, none⟩) i cw) (.slice (some ⟨gh, 0, none⟩) i ch) ∧ (∀ j, j < i → ∃ r, L j = fl 4 j ++ r) ∧ (∀ j, j < i → (L j).length ≤ 4 + c * 1048586) ∧ ∀ j, j < i → ∀ q ∈ L j, q < 256)
      case atStart => exact ⟨0, V, H, L, Nat.zero_le _, by omega, rfl, rfl, hC, fun j hj => ⟨[], by rw [hLi j hj, List.append_nil]⟩, fun j hj => by rw [hLi j hj]; simp [fl], fun j hj => by rw [hLi j hj]; exact fl_byte _ _⟩
      case round =>
        clear hC hC0 hLi
        obtain ⟨c, V, H, L, hc, hc4, rfl, rfl, hC, hpre, hlen, hby8⟩ := hrel
        have b1 := hbx wr hC.since
        by_cases hlt2 : c < blen ∧ c < 400
        · obtain ⟨hlo, hl4⟩ := hlt2
          have hba1 := hba (by omega)
          subst hba1
          have hTr := hT1.since hC.since
          have ct := hTr.c c hlo
          have hbt := hTr.byt c hlo
          have hnl := hT1.nil c hlo
          have hle := hT1.le c hlo
          have hzc := hT1.zb c hlo
          have hlow := fun hp b off e => hT1.low (b := b) (off := off) hlo hp e
          have hz1 : (c : Int) < (blen : Int) := by omega
          have hz2 : (c : Int) < 400 := by omega
          obtain ⟨k, hk, hkm⟩ : ∃ k : Nat, k < i ∧ (c : Int).tmod (i : Int) = (k : Int) := ⟨c % i, Nat.mod_lt _ (by omega), by rw [Int.ofNat_tmod]⟩
          have hi0 : ¬ ((i : Int) = 0) := by omega
          have hkz : (k : Int) < (i : Int) := by omega
          have hpk := hC.pair k hk
          have hlk := hlen k hk
          obtain ⟨_, _, ew, hcw⟩ := owns_at hC.ow (by omega)
          cases ew
          obtain ⟨_, _, eh, hch⟩ := owns_at hC.oh (by omega)
          cases eh
          have cwk := hcw k hk
          have chk := hch k hk
          clear hcw hch
          generalize A c = ta at *
          generalize BL c = tl at *
          generalize BC c = tc at *
          generalize Z c = tz at *
          have hby : ∀ W, wr.Since wr.heap.size W → Calls Tryd.prog 30 #[.pointer (some ⟨P k, 0, none⟩), .slice ta tl tc] W fun e w' => e = .returned (.tuple #[]) ∧ ∃ v', IsL w' (P k) w2.heap.size v' (L k ++ (vl 9 tl ++ (List.range tl).map tz)) ∧ Ext (P k) (V k) v' wr w' := fun W hs => by
            have hE0 : Ext (P k) (V k) (V k) wr W := ⟨hs.os, hs.tape, hs.output, hs.size, fun q hq _ _ => hs.block q hq, Or.inl rfl⟩
            refine (bytes_l3 (P k) w2.heap.size (V k) (L k) ta tl tc tz W ((hpk.since hs).1.isl) (hbt.since hs) hnl (by omega) (fun hp b off e => ?_)).mono (fun e w' ⟨h1, v', h2, h3⟩ => ⟨h1, v', h2, hE0.trans h3⟩)
            have hb := hlow hp b off e
            have hg := hpk.ge
            exact ⟨by have := hg (P k) (Or.inl rfl); omega, fun e2 => by have := hg b (Or.inr (Or.inl e2.symm)); omega⟩
          have hkeep : ∀ (w' : World) (v' : Value), Ext (P k) (V k) v' wr w' → w'.cell? ⟨gw, k, none⟩ = some (.pointer (some ⟨P k, 0, none⟩)) ∧ w'.cell? ⟨gh, k, none⟩ = some (H k) ∧ w'.cell? ⟨sb, 1, none⟩ = some (.slice (some ⟨bb, bo, none⟩) blen bcap) ∧ w'.cell? ⟨bb, bo + c, none⟩ = some (.slice ta tl tc) := fun w' v' hE => by
            have bl : ∀ {b o : Nat} {u : Value}, wr.cell? ⟨b, o, none⟩ = some u → ¬ Foot (P k) (V k) (H k) b → w'.cell? ⟨b, o, none⟩ = some u := fun {b o u} hc hf => by
              rw [World.cell?_of_block (w := wr) (hE.block b (World.block_lt_of_cell? _ _ hc) (fun e => hf (Or.inl e)) (fun e => hf (Or.inr (Or.inl e.symm))))]; exact hc
            have hbb : bb < w2.heap.size := World.block_lt_of_cell? _ _ (hT1.c c hlo)
            exact ⟨bl cwk (fun hf => (hC.far k gw hk hf).1 rfl), bl chk (fun hf => (hC.far k gh hk hf).2 rfl), bl b1 (fun hf => by have := hpk.ge sb hf; omega), bl ct (fun hf => by have := hpk.ge bb hf; omega)⟩
          go_upto_region 17 with fail
          go_region_held3 (fun W => W.cell? ⟨gw, k, none⟩ = some (.pointer (some ⟨P k, 0, none⟩)) ∧ W.cell? ⟨sb, 1, none⟩ = some (.slice (some ⟨bb, bo, none⟩) blen bcap) ∧ W.cell? ⟨bb, bo + c, none⟩ = some (.slice ta tl tc))
            ((first | exact ⟨cwk, b1, ct⟩ | exact ⟨q31, q33, q34⟩))
            ((first | (go_at_call 30; refine (hby _ (World.Since.refl _ _).drew).mono ?_; rintro e w3 ⟨rfl, v3, hI3, hE3⟩; obtain ⟨q31, q32, q33, q34⟩ := hkeep w3 v3 hE3)))
          all_goals
            clear hby hkeep
            have htx : ∀ W, w3.Since w3.heap.size W → Calls Tryd.prog 31 #[.slice ta tl tc] W fun e w' => ∃ rv ha hc w5, e = .returned rv ∧ w'.cell? ⟨gh, k, none⟩ = some (H k) ∧ (w'.cell? ⟨sb, 1, none⟩ = some (.slice (some ⟨bb, bo, none⟩) blen bcap) ∧ w'.cell? ⟨bb, bo + c, none⟩ = some (.slice ta tl tc)) ∧ Hid ((Builtin.append_ #[27, 27] 27 #[H k, rv]).run Tryd.prog w' = .ok (.slice ha (L k ++ (vl 9 tl ++ (List.range tl).map tz)).length hc) w5) ∧ w5.cell? ⟨gh, k, none⟩ = some (H k) ∧ (w5.cell? ⟨sb, 1, none⟩ = some (.slice (some ⟨bb, bo, none⟩) blen bcap) ∧ w5.cell? ⟨bb, bo + c, none⟩ = some (.slice ta tl tc)) ∧ ((w5.setCell ⟨gh, k, none⟩ (.slice ha (L k ++ (vl 9 tl ++ (List.range tl).map tz)).length hc)).cell? ⟨sb, 1, none⟩ = some (.slice (some ⟨bb, bo, none⟩) blen bcap) ∧ (w5.setCell ⟨gh, k, none⟩ (.slice ha (L k ++ (vl 9 tl ++ (List.range tl).map tz)).length hc)).cell? ⟨bb, bo + c, none⟩ = some (.slice ta tl tc)) ∧ w5.frozen? ⟨gh, k, none⟩ = false ∧ Crowd w2 (w5.setCell ⟨gh, k, none⟩ (.slice ha (L k ++ (vl 9 tl ++ (List.range tl).map tz)).length hc)) i i i P (put V k v3) (put H k (.slice ha (L k ++ (vl 9 tl ++ (List.range tl).map tz)).length hc)) (put L k (L k ++ (vl 9 tl ++ (List.range tl).map tz))) (.slice (some ⟨gw, 0, none⟩) i cw) (.slice (some ⟨gh, 0, none⟩) i ch) := fun W hs => by
              have hb3 : Byt W ta tl tz := by
                have h3 : Byt w3 ta tl tz := fun j hj => by
                  obtain ⟨b, off, e, hcc⟩ := hbt j hj
                  have hb := hlow (by omega) b off e
                  exact ⟨b, off, e, by rw [World.cell?_of_block (w := wr) (hE3.block b (World.block_lt_of_cell? _ _ hcc) (by have := hpk.ge (P k) (Or.inl rfl); omega) (fun e2 => by have := hpk.ge b (Or.inr (Or.inl e2.symm)); omega))]; exact hcc⟩
                exact h3.since hs
              refine (reftext ta tl tc tz W hb3 hnl (by omega)).mono (fun e w' ⟨rv, h1, h2, h3⟩ => ?_)
              have hs3 := hs.trans (since_mono h2 hs.size)
              have hvl := vl_len 9 tl
              obtain ⟨hv', w5, hr, hp5, hm5⟩ := pair_put hpk hI3 hE3 hs3 (own_lower h3 hs.size) (by simp; omega)
              obtain ⟨ha, hc, rfl⟩ := own_form hp5.own
              obtain ⟨x1, x2, hCn⟩ := hC.step hk hp5 hm5
              have mv : ∀ {b o : Nat} {u : Value}, w3.cell? ⟨b, o, none⟩ = some u → w'.cell? ⟨b, o, none⟩ = some u := fun {b o u} hcc => by
                rw [hs3.cell (a := ⟨b, o, none⟩) (World.block_lt_of_cell? _ _ hcc)]; exact hcc
              have m5 : ∀ {b o : Nat} {u : Value}, wr.cell? ⟨b, o, none⟩ = some u → ¬ Foot (P k) (V k) (H k) b → w5.cell? ⟨b, o, none⟩ = some u := fun {b o u} hcc hf => by
                rw [World.cell?_of_block (w := wr) (hm5.block b (World.block_lt_of_cell? _ _ hcc) hf)]; exact hcc
              have hbb : bb < w2.heap.size := World.block_lt_of_cell? _ _ (hT1.c c hlo)
              have y1 := m5 b1 (fun hf => by have := hpk.ge sb hf; omega)
              have y2 := m5 ct (fun hf => by have := hpk.ge bb hf; omega)
              have hgh : w2.heap.size ≤ gh := (hC.oh.lt gh rfl).1
              exact ⟨rv, ha, hc, w5, h1, mv q32, ⟨mv q33, mv q34⟩, hide hr, x1, ⟨y1, y2⟩, ⟨by rw [World.cell?_of_block (w := w5) (Below.heap_setCell _ _ _ _ (by show sb ≠ gh; omega))]; exact y1, by rw [World.cell?_of_block (w := w5) (Below.heap_setCell _ _ _ _ (by show bb ≠ gh; omega))]; exact y2⟩, x2, hCn⟩
            generalize hll : L k ++ (vl 9 tl ++ (List.range tl).map tz) = l' at *
            go_upto_region 18 with fail
            go_region_law (first
              | (refine step_call_eq (by rfl) 31 #[.slice ta tl tc] ?_ (htx _ (World.Since.refl _ _).drew) ?_; kernel_rfl; rintro e w4 ⟨rv, ha, hc, w5, rfl, q4a, ⟨q4b, q4c⟩, HR, q5a, ⟨q5b, q5c⟩, q6, x2, hCn⟩; refine ⟨_, rfl, ?_⟩)
              | (refine step_append_eq (by rfl) _ _ 27 (by rfl) _ _ _ (by rfl) (by rfl) (unhide HR) ?_))
            all_goals
              clear htx
              go_wp2_with fail
              go_roundg (400 - (c + 1))
              case measure => go_light; omega
              case rel =>
                go_light
                refine ⟨c + 1, _, _, _, by omega, by omega, rfl, by simp, hCn, fun j hj => ?_, fun j hj => ?_, fun j hj => ?_⟩
                · by_cases e : j = k
                  · subst e
                    obtain ⟨r, hr⟩ := hpre j hj
                    rw [put_at, ← hll, hr]
                    exact ⟨r ++ (vl 9 tl ++ (List.range tl).map tz), by rw [List.append_assoc]⟩
                  · rw [put_ne _ _ _ e]; exact hpre j hj
                · have hvl := vl_len 9 tl
                  by_cases e : j = k
                  · subst e
                    rw [put_at, ← hll]
                    simp only [List.length_append, List.length_map, List.length_range]
                    omega
                  · rw [put_ne _ _ _ e]; exact Nat.le_trans (hlen j hj) (Nat.add_le_add_left (Nat.mul_le_mul_right _ (Nat.le_succ c)) 4)
                · by_cases e : j = k
                  · subst e
                    rw [put_at, ← hll]
                    intro q hq
                    rcases List.mem_append.1 hq with h | h
                    · exact hby8 j hj q h
                    · rcases List.mem_append.1 h with h | h
                      · exact vl_lt _ _ q h
                      · obtain ⟨m, _, rfl⟩ := List.mem_map.1 h
                        exact hzc m
                  · rw [put_ne _ _ _ e]; exact hby8 j hj
        · have hcm : c = blen ∨ c = 400 := by omega
          have hx : (c : Int) < (blen : Int) := by omega
          have hy : ¬ ((c : Int) < 400) := by omega
          have hlen' : ∀ j, j < i → (L j).length ≤ 419434404 := fun j hj => Nat.le_trans (hlen j hj) (by have : c * 1048586 ≤ 400 * 1048586 := Nat.mul_le_mul_right _ hc4; omega)
          clear hlen hcm hlt2 hc hc4
          generalize wr = wq at *
          have hpos : ∀ j, j < i → 4 ≤ (L j).length := fun j hj => by
            obtain ⟨r, hr⟩ := hpre j hj
            rw [hr, List.length_append, fl_len]
            omega
          have hH : ∀ j, j < i → ∃ ha hc, H j = .slice ha (L j).length hc ∧ (ha = none → (L j).length = 0 ∧ hc = 0) := fun j hj => by
            obtain ⟨ha, hc, e, _, h3⟩ := own_byt' (hC.pair j hj).own
            exact ⟨ha, hc, e, h3⟩
          have hbyte : ∀ j, j < i → ∀ q, (L j).getD q 0 < 256 := fun j hj => getD_lt (hby8 j hj)
          have hR0 : Rds wq wq 0 0 (fun _ => 0) (fun _ => 0) (fun j => (L j).length) (fun j q => (L j).getD q 0) (.slice none 0 0) :=
            ⟨World.Since.refl _ _, ⟨rfl, Or.inl ⟨rfl, rfl⟩⟩, fun j _ hj => absurd hj (Nat.not_lt_zero _), fun j hj => absurd hj (Nat.not_lt_zero _), fun i j hi => absurd hi (Nat.not_lt_zero _), fun j hj => absurd hj (Nat.not_lt_zero _)⟩
          go_wp2_with fail
          go_loopg [9, 10] i (fun q s9 s10 wx => ∃ (d : Nat) (R HB : Nat → Nat), d ≤ i ∧ q = i - d ∧ s10 = .int .i64 d ∧ Rds wq wx d 0 R HB (fun j => (L j).length) (fun j q => (L j).getD q 0) s9)
          case atStart => exact ⟨0, _, _, Nat.zero_le _, rfl, rfl, hR0⟩
          case round =>
            obtain ⟨d, R, HB, hd, rfl, rfl, hRd⟩ := hrel
            clear hR0
            by_cases hld : d < i
            · have hz : (d : Int) < (i : Int) := by omega
              obtain ⟨ha, hc, hHd, hnl⟩ := hH d hld
              have hCx := hC.later hRd.since
              obtain ⟨_, _, eh, hch⟩ := owns_at hCx.oh (by omega)
              cases eh
              have chd := hch d hld
              rw [hHd] at chd
              have hbt : Byt wr ha (L d).length (fun q => (L d).getD q 0) := by
                have := (hCx.pair d hld).own
                rw [hHd] at this
                obtain ⟨_, _, e, h1, _⟩ := own_byt' this
                cases e
                exact h1
              have hld2 := hlen' d hld
              have hbd := hbyte d hld
              generalize hln : (L d).length = ln at chd hbt hnl hld2
              clear hch
              go_wp2_with fail
              refine (copy_any ha ln hc (fun q => (L d).getD q 0) wr (by omega) hbt).mono ?_
              rintro e w3 ⟨rfl, s3, e3, hrow3⟩
              go_wp2_with fail
              refine (read_any (some ⟨wr.heap.size, 0, none⟩) ln ln (fun q => (L d).getD q 0) w3 (by omega) (Byt.of_row hrow3) hbd).mono ?_
              rintro e w4 ⟨rb, rfl, hrb, s4, hR4⟩
              have z3 := s3.size
              have z4 := s4.size
              have s34 := s3.trans (since_mono s4 z3)
              have sA : w4.Since w4.heap.size (w4.alloc (.cells #[.pointer (some ⟨rb, 0, none⟩)] 42)) := (World.Since.refl _ _).alloc (Nat.le_refl _) _
              have s35 := s34.trans (since_mono sA s34.size)
              have hR5 := hR4.since sA
              have hRl := hRd.later s35
              obtain ⟨rv6, w6, hr6, ho6, hg6, hl6⟩ := app_one Tryd.underlying62 Tryd.infoR rfl (by decide) _ _ _ d _ hRl.own w4.heap.size (.pointer (some ⟨rb, 0, none⟩)) (by simp) rfl (by omega) hRl.since.size
              have hRn := hRd.add s35 (by rw [hln]; exact hR5) (by omega) z3 ho6 hg6 hl6
              obtain ⟨gr, cr, rfl, hcr⟩ := owns_at hRn.own (by omega)
              have crd := hcr d (by omega)
              simp only [put_at] at crd
              have hz3 : (d : Int) < (d : Int) + 1 := by omega
              have H6 := hide hr6
              clear hr6 ho6 hg6 hl6 hRl hR5 hR4 s35 s34 sA hrow3 s3 e3 hrb s4 z3 z4 hcr hbt chd
              go_wp2_with (at_builtin; refine wpList_append_eq rfl _ _ 62 rfl _ _ _ (by rfl) (by rfl) (unhide H6) ?_)
              go_roundg (i - (d + 1))
              case measure => go_light; omega
              case rel => go_light; exact ⟨d + 1, _, _, by omega, rfl, by simp, hRn⟩
            · obtain rfl : d = i := by omega
              obtain ⟨gr, cr, rfl, _⟩ := owns_at hRd.own (by omega)
              have hRd0 : Rds wq wr d 0 R HB (fun j => (L j).length) (fun j q => (L j).getD q 0) (.slice (some ⟨gr, 0, none⟩) d cr) := hRd
              go_wp2_with fail
              go_loopg [11] d (fun q s11 wx => ∃ (c : Nat), c ≤ d ∧ q = d - c ∧ s11 = .int .i64 c ∧ Rds wq wx d c R HB (fun j => (L j).length) (fun j q => (L j).getD q 0) (.slice (some ⟨gr, 0, none⟩) d cr))
              case atStart => exact ⟨0, Nat.zero_le _, rfl, rfl, hRd0⟩
              case round =>
                clear hRd hRd0
                obtain ⟨c, hc, rfl, rfl, hRd⟩ := hrel
                by_cases hlc : c < d
                · have hz : (c : Int) < (d : Int) := by omega
                  obtain ⟨ha, hc', hHd, hnl⟩ := hH c hlc
                  have hCx := hC.later hRd.since
                  obtain ⟨_, _, ew, hcw⟩ := owns_at hCx.ow (by omega)
                  cases ew
                  have cwc := hcw c hlc
                  obtain ⟨_, _, eh, hch⟩ := owns_at hCx.oh (by omega)
                  cases eh
                  have chc := hch c hlc
                  obtain ⟨_, _, er, hcr⟩ := owns_at hRd.own (by omega)
                  cases er
                  have crc := hcr c hlc
                  rw [hHd] at chc
                  have hpr := hCx.pair c hlc
                  have hbt : Byt wr ha (L c).length (fun q => (L c).getD q 0) := by
                    have := hpr.own
                    rw [hHd] at this
                    obtain ⟨_, _, e, h1, _⟩ := own_byt' this
                    cases e
                    exact h1
                  have hrc := hRd.rd c (Nat.le_refl _) hlc
                  have hgr : gr ≠ R c := fun e => (hRd.nr c hlc).1 (by rw [← e]; rfl)
                  have hrl := (hRd.low c hlc).1
                  have hgw : gw < wq.heap.size := (hC.ow.lt gw rfl).2
                  have hgh : gh < wq.heap.size := (hC.oh.lt gh rfl).2
                  have hisl := hpr.isl
                  have hfx : fixAns (fun q => (L c).getD q 0) (L c).length 4 0 0 = (c, 4, 0) := by
                    obtain ⟨r, hr⟩ := hpre c hlc
                    have h4 := hpos c hlc
                    rcases fix_res (fun q => (L c).getD q 0) (L c).length 4 c 0 0 (by decide) (by omega) (Or.inr ⟨rfl, fun j hj _ => (by
                      show (L c).getD (0 + j) 0 = _
                      rw [Nat.zero_add, hr, getD_left hj]), Or.inl (by rw [fl_len]; omega)⟩) with ⟨h, _⟩ | ⟨_, _, h⟩ | ⟨_, h, _⟩
                    · exact absurd rfl h
                    · exact h
                    · omega
                  have hl4 := hlen' c hlc
                  have hl5 := hpos c hlc
                  have hWr := (hW1.since hC.since).since hRd.since
                  have hRn := fun (w' : World) (hb : But (R c) wr w') => hRd.read hlc hb
                  replace hrc : IsR wr (R c) (HB c) (L c).length (fun q => (L c).getD q 0) 0 0 := hrc
                  replace hisl : IsW wr (P c) w2.heap.size (V c) (L c).length (fun q => (L c).getD q 0) := hisl
                  clear hpr hcw hch hcr
                  generalize (fun q => (L c).getD q 0) = zc at hbt hrc hisl hfx
                  generalize (L c).length = ln at hbt hrc hisl hfx chc hl4 hl5 hHd hnl
                  generalize P c = pc at *
                  generalize R c = rc at *
                  obtain ⟨D, hD1, hD2, hD3⟩ : ∃ D : Nat, ln - 4 = D ∧ (ln : Int) - 4 = (D : Int) ∧ IntKind.i64.wrap (D : Int) = (D : Int) := ⟨ln - 4, rfl, by omega, by rw [IntKind.wrap_i64]; omega⟩
                  have hc32 : IntKind.u32.wrap (c : Int) = (c : Int) := by rw [IntKind.wrap_u32']; omega
                  have hcl : ∀ W, But rc wr W → W.cell? ⟨gw, c, none⟩ = some (.pointer (some ⟨pc, 0, none⟩)) ∧ W.cell? ⟨gh, c, none⟩ = some (.slice ha ln hc') ∧ W.cell? ⟨gr, c, none⟩ = some (.pointer (some ⟨rc, 0, none⟩)) := fun W hb =>
                    ⟨by rw [World.cell?_of_block (w := wr) (hb.block gw (World.block_lt_of_cell? _ _ cwc) (by omega))]; exact cwc, by rw [World.cell?_of_block (w := wr) (hb.block gh (World.block_lt_of_cell? _ _ chc) (by omega))]; exact chc, by rw [World.cell?_of_block (w := wr) (hb.block gr (World.block_lt_of_cell? _ _ crc) hgr)]; exact crc⟩
                  have hout : ∀ W, wr.Since wr.heap.size W → Calls Tryd.prog 33 #[.pointer (some ⟨pc, 0, none⟩)] W fun e w' => ∃ q, e = .returned (.slice (some ⟨q, 0, none⟩) ln ln) ∧ wr.Since wr.heap.size w' ∧ Byt w' (some ⟨q, 0, none⟩) ln zc ∧ Byt w' ha ln zc ∧ (w'.cell? ⟨gw, c, none⟩ = some (.pointer (some ⟨pc, 0, none⟩)) ∧ w'.cell? ⟨gh, c, none⟩ = some (.slice ha ln hc') ∧ w'.cell? ⟨gr, c, none⟩ = some (.pointer (some ⟨rc, 0, none⟩))) := fun W hs => by
                    have hI : IsW W pc w2.heap.size (V c) ln zc := ⟨row_since hisl.cell hs, own_since hisl.own hs, hisl.ne, Nat.le_trans hisl.lo hs.size⟩
                    refine (out_w pc w2.heap.size (V c) ln zc W hI (by omega)).mono (fun e w' ⟨h1, h2, _, h4⟩ => ?_)
                    have hs2 := hs.trans (since_mono h2 hs.size)
                    exact ⟨_, h1, hs2, Byt.of_row h4, hbt.since hs2, hcl w' (But.of_since hs2)⟩
                  have heq : ∀ W q, Byt W (some ⟨q, 0, none⟩) ln zc → Byt W ha ln zc → Calls Tryd.prog 32 #[.slice (some ⟨q, 0, none⟩) ln ln, .slice ha ln hc'] W fun e w' => e = .returned (.bool true) ∧ ∃ m, w' = W.drewN m := fun W q h1 h2 => eq_same _ ha ln ln hc' zc W h1 h2 (by omega)
                  have hu : ∀ W, wr.Since wr.heap.size W → Calls Tryd.prog 34 #[.pointer (some ⟨rc, 0, none⟩)] W fun e w' => e = .returned (.int .u32 c) ∧ But rc wr w' ∧ IsR w' rc (HB c) ln zc 4 0 ∧ (w'.cell? ⟨gw, c, none⟩ = some (.pointer (some ⟨pc, 0, none⟩)) ∧ w'.cell? ⟨gh, c, none⟩ = some (.slice ha ln hc') ∧ w'.cell? ⟨gr, c, none⟩ = some (.pointer (some ⟨rc, 0, none⟩))) := fun W hs => by
                    have h := u32_r rc (HB c) ln 0 0 zc W (hrc.since hs) (hWr.since hs)
                    rw [hfx] at h
                    exact h.mono (fun e w' ⟨h1, h2, h3⟩ => ⟨h1, (But.of_since hs).trans h2, h3, hcl w' ((But.of_since hs).trans h2)⟩)
                  have hlf : ∀ W, IsR W rc (HB c) ln zc 4 0 → Calls Tryd.prog 25 #[.pointer (some ⟨rc, 0, none⟩)] W fun e w' => e = .returned (.int .i64 (D : Nat)) ∧ ∃ m, w' = W.drewN m := fun W h => by
                    have h := left_any rc (HB c) ln 4 0 zc W h
                    rw [hD1] at h
                    exact h
                  clear hrc hisl hfx hbt hHd hD1 hcl
                  go_upto_region 29 with fail
                  go_region_held3 (fun W => W.cell? ⟨gw, c, none⟩ = some (.pointer (some ⟨pc, 0, none⟩)) ∧ W.cell? ⟨gh, c, none⟩ = some (.slice ha ln hc') ∧ W.cell? ⟨gr, c, none⟩ = some (.pointer (some ⟨rc, 0, none⟩)))
                    ((first | exact ⟨cwc, chc, crc⟩ | exact q17 | exact q15))
                    ((first
                      | (go_at_call 33; refine (hout _ (World.Since.refl _ _).drew).mono ?_; rintro e w15 ⟨q, rfl, s15, y15, x15, q15⟩)
                      | (go_at_call 32; refine (heq _ _ y15 x15).mono ?_; rintro e w16 ⟨rfl, m16, rfl⟩)
                      | (go_at_call 34; refine (hu _ (since_drewN' s15 m16)).mono ?_; rintro e w17 ⟨rfl, b17, r17, q17⟩)
                      | (go_at_call 25; refine (hlf _ r17).mono ?_; rintro e w18 ⟨rfl, m18, rfl⟩)))
                  all_goals
                    have hRx := (hRn w17 b17).later (since_drewN' (World.Since.refl _ _) m18)
                    clear hout heq hu hlf
                    go_wp2_with fail
                    go_roundg (d - (c + 1))
                    case measure => go_light; omega
                    case rel => go_light; exact ⟨c + 1, by omega, rfl, by simp, hRx⟩
                · obtain rfl : c = d := by omega
                  go_wp2_with fail
                  go_ret
                  refine ⟨rfl, ?_⟩
                  rw [hsb]
                  exact hfinW _ (hC.since.trans (since_mono hRd.since hC.since.size))
end Go.Proofs.YtbmdnlomhnodeaaDoor
