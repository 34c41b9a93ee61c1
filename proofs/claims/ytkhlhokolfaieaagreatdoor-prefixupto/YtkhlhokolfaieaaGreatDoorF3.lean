import Derived.Test.YtkhlhokolfaieaaGreatDoorD9
import Derived.LoopN
import Derived.Deep.DeepCutAuto
/-
  The law's own function 'all', one byte at a time, over whatever server: what its calls do is asked for as premises.
-/
namespace Go.Proofs.YtkhlhokolfaieaaGreatDoor
open Go.RowKit

/-- A server of one connection: its states, how it lies in memory, what its calls do. -/
structure Server1 where
  X : Type
  rep : (Nat → Prop) → World → Nat → X → Prop
  ready : X → Prop
  feed : X → UInt8 → X
  take : X → X × List UInt8
  isOpen : X → Bool

/-- A call leaves the server in the state x. -/
def Server1.Step (V : Server1) (F : Nat → Prop) (w w' : World) (S : Nat) (x : V.X) : Prop := ∃ F', V.rep F' w' S x ∧ Upd F w w' ∧ ∀ k, F' k → F k ∨ (w.heap.size ≤ k ∧ k < w'.heap.size)

/-- What its calls do. (Data of one byte; Take of all; Open.) -/
structure Server1.Does (V : Server1) : Prop where
  data : ∀ (F : Nat → Prop) (w : World) (S : Nat) (x : V.X) (b : UInt8), V.rep F w S x → V.ready x → Calls Tryz.prog 14 #[.pointer (some ⟨S, 0, none⟩), .int .i64 0, .string ⟨#[b]⟩] w fun e w' => e = .returned (.int .i64 1) ∧ V.Step F w w' S (V.feed x b)
  take : ∀ (F : Nat → Prop) (w : World) (S : Nat) (x : V.X) (b : UInt8), V.ready x → V.rep F w S (V.feed x b) → Calls Tryz.prog 16 #[.pointer (some ⟨S, 0, none⟩), .int .i64 0, .int .i64 1073741824] w fun e w' => e = .returned (.string ⟨(V.take (V.feed x b)).2.toArray⟩) ∧ V.Step F w w' S (V.take (V.feed x b)).1
  again : ∀ (F : Nat → Prop) (w : World) (S : Nat) (x : V.X) (b : UInt8), V.ready x → V.rep F w S (V.take (V.feed x b)).1 → Calls Tryz.prog 16 #[.pointer (some ⟨S, 0, none⟩), .int .i64 0, .int .i64 1073741824] w fun e w' => e = .returned (.string ⟨#[]⟩) ∧ V.Step F w w' S (V.take (V.feed x b)).1
  opened : ∀ (F : Nat → Prop) (w : World) (S : Nat) (x : V.X), V.rep F w S x → Calls Tryz.prog 11 #[.pointer (some ⟨S, 0, none⟩), .int .i64 0] w fun e w' => e = .returned (.bool (V.isOpen x)) ∧ V.Step F w w' S x
  small : ∀ (x : V.X) (b : UInt8), V.ready x → (V.take (V.feed x b)).2.length ≤ 1000
  next : ∀ (x : V.X) (b : UInt8), V.ready x → V.isOpen (V.take (V.feed x b)).1 = true → V.ready (V.take (V.feed x b)).1

/-- All bytes come, one by one; what waits is taken behind each. -/
def Server1.run (V : Server1) : V.X → List UInt8 → V.X × List UInt8
  | x, [] => (x, [])
  | x, b :: bs => if V.isOpen (V.take (V.feed x b)).1 = true then ((V.run (V.take (V.feed x b)).1 bs).1, (V.take (V.feed x b)).2 ++ (V.run (V.take (V.feed x b)).1 bs).2) else ((V.take (V.feed x b)).1, (V.take (V.feed x b)).2)

theorem Server1.Step.trans {V : Server1} {F F1 : Nat → Prop} {w w1 w2 : World} {S : Nat} {x : V.X} (hu : Upd F w w1) (hf : ∀ k, F1 k → F k ∨ (w.heap.size ≤ k ∧ k < w1.heap.size)) (h : V.Step F1 w1 w2 S x) : V.Step F w w2 S x := by
  obtain ⟨F2, h1, h2, h3⟩ := h
  refine ⟨F2, h1, ⟨h2.os.trans hu.os, h2.tape.trans hu.tape, h2.output.trans hu.output, Nat.le_trans hu.size h2.size, fun k hk hn => (h2.block k (Nat.lt_of_lt_of_le hk hu.size) (fun e => ?_)).trans (hu.block k hk hn)⟩, fun k hk => ?_⟩
  · rcases hf k e with h4 | h4
    · exact hn h4
    · omega
  · rcases h3 k hk with h4 | h4
    · rcases hf k h4 with h5 | h5
      · exact Or.inl h5
      · right; have := h2.size; omega
    · right; have := hu.size; omega

theorem extract_one (s : ByteArray) (k : Nat) (h : k < s.size) : s.extract k (k + 1) = ⟨#[s[k]]⟩ := by
  apply ByteArray.ext
  apply Array.ext'
  simp only [ByteArray.data_extract, Array.toList_extract]
  have hk : k < s.data.toList.length := by rw [Array.length_toList]; exact h
  rw [List.extract_eq_take_drop, Nat.add_sub_cancel_left]
  rw [List.drop_eq_getElem_cons hk]
  rfl

end Go.Proofs.YtkhlhokolfaieaaGreatDoor

/-
  'all', walked.
-/
namespace Go.Proofs.YtkhlhokolfaieaaGreatDoor
open Go.RowKit

theorem ba_app' (a b : List UInt8) : ((⟨a.toArray⟩ : ByteArray) ++ ⟨b.toArray⟩) = ⟨(a ++ b).toArray⟩ := by
  apply ByteArray.ext
  rw [ByteArray.data_append]
  simp
/-- What holds ahead of a round. -/
structure AllAt (V : Server1) (F : Nat → Prop) (w wr : World) (S : Nat) (x0 : V.X) (bs : List UInt8) (k : Nat) (out : List UInt8) : Prop where
  st : ∃ xk Fk, V.rep Fk wr S xk ∧ V.ready xk ∧ Upd F w wr ∧ (∀ j, Fk j → F j ∨ (w.heap.size ≤ j ∧ j < wr.heap.size)) ∧ (V.run x0 bs).1 = (V.run xk (bs.drop k)).1 ∧ (V.run x0 bs).2 = out ++ (V.run xk (bs.drop k)).2
  len : out.length ≤ 1000 * k

set_option maxHeartbeats 1600000 in
set_option maxRecDepth 100000 in
theorem all_any (V : Server1) (D : Hid V.Does) (F : Nat → Prop) (w : World) (S : Nat) (x0 : V.X) (bs : ByteArray) (hb : bs.size ≤ 2000000) (hr : Hid (V.rep F w S x0)) (hy : Hid (V.ready x0)) :
    Calls Tryz.prog 10 #[.pointer (some ⟨S, 0, none⟩), .int .i64 0, .string bs, .slice none 0 0] w fun e w' => ∃ at_ : Int, e = .returned (.tuple #[.string ⟨(V.run x0 bs.data.toList).2.toArray⟩, .int .i64 at_]) ∧ V.Step F w w' S (V.run x0 bs.data.toList).1 := by
  have HL : Hid (bs.data.toList.length = bs.size) := by show _ = _; rw [Array.length_toList]; rfl
  go_enter Tryz.func10, Tryz.ntmps10
  go_wp2
  go_loopw [10, 11, 12] (fun o a i wr => ∃ (k : Nat) (out : List UInt8), o = .string ⟨out.toArray⟩ ∧ a = .int .i64 k ∧ i = .int .i64 k ∧ k ≤ bs.size ∧ Hid (AllAt V F w wr S x0 bs.data.toList k out)) (fun _ a _ _ => bs.size - (intOf a).toNat)
  case atStart => exact ⟨0, [], rfl, rfl, rfl, Nat.zero_le _, ⟨⟨x0, F, hr.out, hy.out, Upd.refl _ _, fun j hj => Or.inl hj, rfl, rfl⟩, by simp⟩⟩
  case round =>
    obtain ⟨k, out, rfl, rfl, rfl, hk, hat⟩ := hrel
    obtain ⟨xk, Fk, h1, h2, h3, h4, h5, h6⟩ := hat.out.st
    have hol := hat.out.len
    clear hat
    by_cases hlt : k < bs.size
    · have HX : Hid (bs.extract k (k + 1) = ⟨#[bs[k]]⟩) := extract_one bs k hlt
      have HR : Hid (V.rep Fk wr S xk) := h1
      have HY : Hid (V.ready xk) := h2
      have hdrop : bs.data.toList.drop k = bs[k] :: bs.data.toList.drop (k + 1) := by
        rw [List.drop_eq_getElem_cons (by rw [HL.out]; exact hlt)]; rfl
      rw [hdrop] at h5 h6
      simp only [Server1.run] at h5 h6
      have hsm := D.out.small xk bs[k] h2
      have hnx := D.out.next xk bs[k] h2
      have HD := D.out.data Fk wr S xk bs[k] h1 h2
      have HT := fun F1 w1 => D.out.take F1 w1 S xk bs[k] h2
      have HA := fun F1 w1 => D.out.again F1 w1 S xk bs[k] h2
      have HO := fun F1 w1 => D.out.opened F1 w1 S (V.take (V.feed xk bs[k])).1
      clear hdrop HR HY h1 h2 hr hy
      generalize (V.take (V.feed xk bs[k])).2 = T at *
      generalize (V.take (V.feed xk bs[k])).1 = X2 at *
      have HD' := hid HD
      have HT' := hid HT
      have HA' := hid HA
      have HO' := hid HO
      have H5 := hid h5
      have H6 := hid h6
      have H3 := hid h3
      have H4 := hid h4
      have HN := hid hnx
      clear HD HT HA HO h5 h6 h3 h4 hnx
      go_wp2_with fail
      rw [HX.out]
      refine HD'.out.mono ?_
      rintro e w1 ⟨rfl, F1, hr1, hu1, hf1⟩
      have HR1 := hid hr1
      have HU1 := hid hu1
      have HF1 := hid hf1
      clear hr1 hu1 hf1
      go_wp2_with fail
      refine (HT'.out F1 w1 HR1.out).mono ?_
      rintro e w2 ⟨rfl, hst2⟩
      have HS2 : Hid (V.Step F w w2 S X2) := Server1.Step.trans (H3.out) H4.out (Server1.Step.trans HU1.out HF1.out hst2)
      clear hst2
      by_cases hT : T = []
      · subst hT
        obtain ⟨F2, hr2, hu2, hf2⟩ := HS2.out
        have HR2 := hid hr2
        have HU2 := hid hu2
        have HF2 := hid hf2
        clear hr2 hu2 hf2
        go_wp2_with fail
        refine wp_loop_rounds 1 ?_
        rw [rounds_succ]
        go_wp2_with fail
        refine (HO'.out F2 w2 HR2.out).mono ?_
        rintro e w3 ⟨rfl, hst3⟩
        have HS3 : Hid (V.Step F w w3 S X2) := Server1.Step.trans HU2.out HF2.out hst3
        clear hst3
        cases ho : V.isOpen X2
        · have HE : Hid (V.Step F w w3 S (V.run x0 bs.data.toList).1 ∧ (V.run x0 bs.data.toList).2 = out) := by
            rw [H5.out, H6.out, ho]
            exact ⟨HS3.out, by simp⟩
          clear ho
          go_wp2
          go_ret2
          exact ⟨_, by rw [HE.out.2]; rfl, HE.out.1⟩
        · have HE : Hid (AllAt V F w w3 S x0 bs.data.toList (k + 1) (out)) := by
            obtain ⟨F3, q1, q2, q3⟩ := HS3.out
            refine ⟨⟨X2, F3, q1, HN.out ho, q2, q3, ?_, ?_⟩, ?_⟩
            · rw [H5.out, ho]; rfl
            · rw [H6.out, ho]; simp
            · first | omega | (simp; omega)
          clear ho
          go_wp2
          refine ⟨⟨k + 1, out, ?_, by go_num, by go_num, by omega, HE⟩, by simp [intOf]; omega⟩
          rfl
      · have eT : (T == []) = false := by simpa using hT
        have nT : (T != []) = true := by simpa using hT
        obtain ⟨F2, hr2, hu2, hf2⟩ := HS2.out
        have HR2 := hid hr2
        have HU2 := hid hu2
        have HF2 := hid hf2
        clear hr2 hu2 hf2 hT
        go_wp2_with fail
        refine wp_loop_rounds 2 ?_
        rw [rounds_succ]
        go_wp2_with fail
        refine (HA'.out F2 w2 HR2.out).mono ?_
        rintro e w2b ⟨rfl, hst2b⟩
        have HS2b : Hid (V.Step F w w2b S X2) := Server1.Step.trans HU2.out HF2.out hst2b
        clear hst2b HR2 HU2 HF2 HS2
        obtain ⟨F2, hr2, hu2, hf2⟩ := HS2b.out
        have HR2 := hid hr2
        have HU2 := hid hu2
        have HF2 := hid hf2
        clear hr2 hu2 hf2
        go_wp2_with fail
        rw [rounds_succ]
        go_wp2_with fail
        refine (HO'.out F2 w2b HR2.out).mono ?_
        rintro e w3 ⟨rfl, hst3⟩
        have HS3 : Hid (V.Step F w w3 S X2) := Server1.Step.trans HU2.out HF2.out hst3
        clear hst3
        cases ho : V.isOpen X2
        · have HE : Hid (V.Step F w w3 S (V.run x0 bs.data.toList).1 ∧ (V.run x0 bs.data.toList).2 = out ++ T) := by
            rw [H5.out, H6.out, ho]
            exact ⟨HS3.out, by simp⟩
          clear ho
          go_wp2
          go_ret2
          exact ⟨_, by rw [HE.out.2]; rfl, HE.out.1⟩
        · have HE : Hid (AllAt V F w w3 S x0 bs.data.toList (k + 1) (out ++ T)) := by
            obtain ⟨F3, q1, q2, q3⟩ := HS3.out
            refine ⟨⟨X2, F3, q1, HN.out ho, q2, q3, ?_, ?_⟩, ?_⟩
            · rw [H5.out, ho]; rfl
            · rw [H6.out, ho]; simp
            · first | omega | (simp; omega)
          clear ho
          go_wp2
          refine ⟨⟨k + 1, out ++ T, ?_, by go_num, by go_num, by omega, HE⟩, by simp [intOf]; omega⟩
          exact congrArg Value.string (ba_app' out T)
    · have hdrop : bs.data.toList.drop k = [] := List.drop_eq_nil_of_le (by rw [HL.out]; omega)
      rw [hdrop] at h5 h6
      simp only [Server1.run, List.append_nil] at h5 h6
      have HE : Hid (V.Step F w wr S (V.run x0 bs.data.toList).1 ∧ (V.run x0 bs.data.toList).2 = out) := by
        rw [h5]
        exact ⟨⟨Fk, h1, h3, h4⟩, h6⟩
      clear h1 h2 h3 h4 h5 h6 hdrop
      go_wp2
      go_ret2
      exact ⟨_, by rw [HE.out.2]; rfl, HE.out.1⟩

end Go.Proofs.YtkhlhokolfaieaaGreatDoor

/-
  The law Prefix over whatever server of one connection.
-/
namespace Go.Proofs.YtkhlhokolfaieaaGreatDoor
open Go.RowKit

/-- What a new server and its first connection do; 'pre': what the calls ask of the world. -/
structure Server1.Begins (V : Server1) (B : Nat) where
  pre : World → Prop
  fresh : (Nat → Prop) → World → Nat → Prop
  x0 : V.X
  ready0 : V.ready x0
  preBelow : ∀ (w w' : World), pre w → Below w.heap.size w w' → pre w'
  keep : ∀ (F M : Nat → Prop) (w w' : World) (S : Nat) (x : V.X), V.rep F w S x → Upd M w w' → (∀ k, F k → ¬ M k) → (∀ k, M k → B ≤ k) → V.rep F w' S x
  keepFresh : ∀ (F M : Nat → Prop) (w w' : World) (S : Nat), fresh F w S → Upd M w w' → (∀ k, F k → ¬ M k) → (∀ k, M k → B ≤ k) → fresh F w' S
  lt : ∀ (F : Nat → Prop) (w : World) (S : Nat) (x : V.X), V.rep F w S x → ∀ k, F k → k < w.heap.size
  ltFresh : ∀ (F : Nat → Prop) (w : World) (S : Nat), fresh F w S → ∀ k, F k → k < w.heap.size
  news : ∀ (w : World), pre w → Calls Tryz.prog 8 #[] w fun e w' => ∃ S F, e = .returned (.pointer (some ⟨S, 0, none⟩)) ∧ fresh F w' S ∧ Below w.heap.size w w' ∧ ∀ k, F k → w.heap.size ≤ k
  connect : ∀ (F : Nat → Prop) (w : World) (S : Nat), fresh F w S → Calls Tryz.prog 9 #[.pointer (some ⟨S, 0, none⟩)] w fun e w' => e = .returned (.tuple #[.int .i64 0, .bool true]) ∧ V.Step F w w' S x0

theorem run_begins (V : Server1) : ∀ (a b : List UInt8) (x : V.X), ∃ r, (V.run x (a ++ b)).2 = (V.run x a).2 ++ r
  | [], b, x => ⟨(V.run x b).2, rfl⟩
  | c :: a, b, x => by
    simp only [List.cons_append, Server1.run]
    by_cases h : V.isOpen (V.take (V.feed x c)).1 = true
    · obtain ⟨r, hr⟩ := run_begins V a b (V.take (V.feed x c)).1
      exact ⟨r, by rw [if_pos h, if_pos h]; simp only; rw [hr, List.append_assoc]⟩
    · exact ⟨[], by rw [if_neg h, if_neg h]; simp⟩

theorem run_take (V : Server1) (l : List UInt8) (n : Nat) (x : V.X) : ∃ r, (V.run x l).2 = (V.run x (l.take n)).2 ++ r := by
  obtain ⟨r, hr⟩ := run_begins V (l.take n) (l.drop n) x
  rw [List.take_append_drop] at hr
  exact ⟨r, hr⟩

/-- Two blocks of footprints that came one behind the other. -/
theorem Upd.of_step {F : Nat → Prop} {w w' : World} (h : Upd F w w') (B : Nat) (hB : B ≤ w.heap.size) (hF : ∀ k, F k → B ≤ k) : Below B w w' := ⟨h.os, h.tape, h.output, h.size, fun k hk => h.block k (by omega) (fun e => by have := hF k e; omega)⟩

end Go.Proofs.YtkhlhokolfaieaaGreatDoor
