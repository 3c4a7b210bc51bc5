/- The document's number (layer 7), walked. No condition. (Made by tools/mkdoc9.py.) -/
import Derived.Test.YtmgbebpkkidooaaDoorTNa
import Derived.Test.YtmgbebpkkidooaaDoorTNb
import Derived.Test.YtmgbebpkkidooaaDoorTNc
import Derived.Test.YtmgbebpkkidooaaDoorTNd
import Derived.Test.YtmgbebpkkidooaaDoorTNe
namespace Go.Proofs.YtmgbebpkkidooaaDoor
open Go.RowKit Tok
theorem refNumber_any (s : ByteArray) (i : Nat) (w : World) (hs : s.size ≤ 1000000) (hi : i < s.size) (hd : digC s[i] = true) :
    Calls Tryd.prog 36 #[.string s, .int .i64 i] w fun e w' => e = .returned (resT i (numT (s.data.toList.drop i))) ∧ Below w.heap.size w w' := by
  by_cases h1 : i + span digC (s.data.toList.drop i) < s.size
  · by_cases h2 : NumOk s i hi
    · rcases h3 : wordC s[i + span digC (s.data.toList.drop i)] with _ | _
      · exact num_short_ok s i w hs hi hd h1 h2 h3
      · exact num_short_word s i w hs hi hd h1 h2 h3
    · exact num_short_bad s i w hs hi hd h1 h2
  · by_cases h2 : NumOk s i hi
    · exact num_full_ok s i w hs hi hd h1 h2
    · exact num_full_bad s i w hs hi hd h1 h2
end Go.Proofs.YtmgbebpkkidooaaDoor
