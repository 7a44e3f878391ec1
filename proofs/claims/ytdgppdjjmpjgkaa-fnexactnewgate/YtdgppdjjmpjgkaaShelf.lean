/- No library contract is wanted here but what texts are told by. -/
import Derived.Shelf.Small.Strs
import Derived.Test.YtdgppdjjmpjgkaaProg
