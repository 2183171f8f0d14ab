/-
  THE LANDED PACKAGE token IS WHAT THE LAWS OF LAYER 10 ASK (TokSaid).
-/
import Derived.Test.YtcnomlhlellmiaaDoorRunKNext
import Derived.Test.YtcnomlhlellmiaaDoorRunKAll
import Derived.Test.YtcnomlhlellmiaaDoorRunKRef
namespace Go.Proofs.YtcnomlhlellmiaaDoor
open Go.RowKit

theorem next_tok (n : Nat) (s : ByteArray) (k : Int) (w : World) (hE : KE n w) (hn : n ≤ w.heap.size) (hs : s.size ≤ 100000) :
    Calls Tryd.prog 9 #[.string s, .int .i64 k] w fun e w' => ∃ v, e = .returned (.tuple #[v, .int .i64 (nextT s k).2.1, .int .i64 (nextT s k).2.2]) ∧ TokAt w'.heap.size w' v (nextT s k).1 ∧ Below w.heap.size w w' :=
  (next_any n s k w hE hn hs).mono fun _ _ ⟨sl, he, hown, hb⟩ => ⟨_, he, ⟨sl, rfl, owns_atts hown⟩, hb⟩
theorem next_k (n : Nat) (l : List UInt8) (hs : l.length ≤ 100000) : NextK n (bytes l) := fun k W hE hn => next_any n (bytes l) k W hE hn (by rw [bytes_len]; exact hs)
theorem tok_said : TokSaid KE where
  stay := fun n w w' h hb => h.stay hb
  next := fun n s k w hE hn hs _ => next_tok n s k w hE hn hs
  all := fun n s w hE hn hs => by
    obtain ⟨l, rfl⟩ := string_bytes s
    have hsz : (bytes l).size = l.length := bytes_len l
    rw [hsz] at hs
    exact all_any n l w hE hn hs (next_k n l hs)
  charRef := fun n s w hE hn hs => by
    obtain ⟨l, rfl⟩ := string_bytes s
    have hsz : (bytes l).size = l.length := bytes_len l
    rw [hsz] at hs
    exact charRef_any l w hs
  target := fun n s w hE hn hs => by
    obtain ⟨l, rfl⟩ := string_bytes s
    have hsz : (bytes l).size = l.length := bytes_len l
    rw [hsz] at hs
    exact target_any n l w hE hn hs
end Go.Proofs.YtcnomlhlellmiaaDoor
